// Package bits is layer 1: see shared/doc/01-bits.md.
package bits

import (
	"iter"
	mathbits "math/bits"

	"cooper/api"
)

const (
	wordBits   = 32
	wordBytes  = 4
	numberBits = 64
)

// Get is a field of a word, as a number.
func Get(w uint32, f api.Field) (uint32, api.Errno) {
	if !lies(f) {
		return 0, api.ErrWidth
	}
	return w >> f.Low & fieldOnes(f), api.OK
}

// Put is a word with another number in a field.
func Put(w uint32, f api.Field, v uint32) (uint32, api.Errno) {
	if !lies(f) {
		return 0, api.ErrWidth
	}
	if v&^fieldOnes(f) != 0 {
		return 0, api.ErrRange
	}
	return w&^mask(f) | v<<f.Low, api.OK
}

// Pack is base with a number put into each field, from the left.
func Pack(base uint32, l []api.Field, v ...uint32) (uint32, api.Errno) {
	if len(l) != len(v) {
		return 0, api.ErrArg
	}
	w := base
	for i, f := range l {
		var e api.Errno
		if w, e = Put(w, f, v[i]); e != api.OK {
			return 0, e
		}
	}
	return w, api.OK
}

// Apart tells whether each field lies in a word, and no two have a bit in common.
func Apart(l ...api.Field) bool {
	taken := uint32(0)
	for _, f := range l {
		if !lies(f) || taken&mask(f) != 0 {
			return false
		}
		taken |= mask(f)
	}
	return true
}

// Sign is the lowest bits of v, as many as width says, as a number with a sign.
func Sign(v uint64, width int) (int64, api.Errno) {
	if !isWidth(width) {
		return 0, api.ErrWidth
	}
	above := numberBits - width
	return int64(v<<above) >> above, api.OK
}

// Fits tells whether v is a number of as many bits as width says.
func Fits(v int64, width int, signed bool) bool {
	if !isWidth(width) {
		return false
	}
	if signed {
		rest := v >> (width - 1)
		return rest == 0 || rest == -1
	}
	// A shift to the right keeps the sign: below 0 nothing becomes 0.
	return v>>width == 0
}

// Ones is n ones, from bit 0 on.
func Ones(n int) uint64 {
	// A shift by 64 or more leaves 0, and that less 1 is all ones.
	return uint64(1)<<max(n, 0) - 1
}

// Turn is the number of as many bits as width says, turned to the right (by below 0: to the left).
func Turn(v uint64, width, by int) (uint64, api.Errno) {
	if !isWidth(width) {
		return 0, api.ErrWidth
	}
	if v&^Ones(width) != 0 {
		return 0, api.ErrRange
	}
	right := by % width
	if right < 0 {
		right += width
	}
	return (v>>right | v<<(width-right)) & Ones(width), api.OK
}

// Runs goes through the runs of ones among the lowest bits of v: where each begins, and how long it is.
func Runs(v uint64, width int) iter.Seq2[int, int] {
	v &= Ones(width)
	begins := v &^ (v << 1)
	return func(yield func(int, int) bool) {
		for low := range places(begins) {
			if !yield(low, mathbits.TrailingZeros64(^(v >> low))) {
				return
			}
		}
	}
}

// Bytes is a word's bytes, the lowest one first.
func Bytes(w uint32) []byte {
	var b [wordBytes]byte
	for i := range b {
		b[i] = byte(w >> (8 * i))
	}
	return b[:]
}

// Word is the word of four bytes.
func Word(b []byte) (uint32, api.Errno) {
	if len(b) != wordBytes {
		return 0, api.ErrLong
	}
	w := uint32(0)
	for i, x := range [wordBytes]byte(b) {
		w |= uint32(x) << (8 * i)
	}
	return w, api.OK
}

// lies tells whether a field lies in a word.
func lies(f api.Field) bool {
	// Each number is held against its own limits first: their sum could wrap round.
	return f.Low >= 0 && f.Low < wordBits && f.Width >= 1 && f.Width <= wordBits && f.Low+f.Width <= wordBits
}

// fieldOnes is the greatest number of a field that lies in a word.
func fieldOnes(f api.Field) uint32 { return uint32(Ones(f.Width)) }

// mask is the bits of a field that lies in a word.
func mask(f api.Field) uint32 { return fieldOnes(f) << f.Low }

func isWidth(width int) bool { return width >= 1 && width <= numberBits }

// places goes through the numbers of the bits of v that are ones, rising.
func places(v uint64) iter.Seq[int] {
	return func(yield func(int) bool) {
		for left := v; left != 0; left &= left - 1 {
			if !yield(mathbits.TrailingZeros64(left)) {
				return
			}
		}
	}
}
