package relax

// sums are numbers, of which the sums of the first ones are found quickly: at n stands the sum of the last ones up to the n-th, as many as the lowest bit of n says.
type sums []int64

// add adds to the number behind the first n.
func (s sums) add(n int, more int64) {
	for i := n + 1; i < len(s); i += i & -i {
		s[i] += more
	}
}

// ahead is the sum of the first n.
func (s sums) ahead(n int) int64 {
	sum := int64(0)
	for i := n; i > 0; i &= i - 1 {
		sum += s[i]
	}
	return sum
}
