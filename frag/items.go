package frag

import (
	"strings"

	"cooper/api"
)

const wordBytes = 4

// here is the name of the place where a value stands.
const here = "."

// reachOf is how far back a branch of that name reaches that may have to be two, 0 of others.
func reachOf(name string) int64 {
	switch name {
	case "cbz", "cbnz":
		return 1 << 20
	case "tbz", "tbnz":
		return 1 << 15
	}
	if strings.HasPrefix(name, "b.") {
		return 1 << 20
	}
	return 0
}

// aim is to where a line leads whose last operand is a symbol's place.
func aim(l api.Line) (api.Value, bool) {
	if len(l.Opers) == 0 {
		return api.Value{}, false
	}
	to := l.Opers[len(l.Opers)-1]
	return to.V, to.Kind == api.OrTo && to.V.Plus != "" && to.V.Plus != here && to.V.Minus == ""
}

// item is a piece for relax that is no branch.
func item(p api.Piece) api.Item {
	switch p.Kind {
	case api.PcInst:
		return api.Item{Kind: api.ItBytes, Size: wordBytes}
	case api.PcData:
		return api.Item{Kind: api.ItBytes, Size: int64(p.Size)}
	case api.PcBytes:
		return api.Item{Kind: api.ItBytes, Size: int64(len(p.B))}
	case api.PcAlign:
		return api.Item{Kind: api.ItAlign, Align: p.Align}
	}
	return api.Item{Kind: api.ItBytes}
}

// branch is a branch of a part for relax, which is no more than bytes if it leads to no label of that part.
func branch(l api.Line, marks []api.Mark, firsts map[string]int, part int) api.Item {
	low, high, grows := Grows(l)
	to, _ := aim(l)
	i, is := firsts[to.Plus]
	if !grows || !is || marks[i].Equ || marks[i].Part != part {
		return api.Item{Kind: api.ItBytes, Size: wordBytes}
	}
	return api.Item{Kind: api.ItBranch, To: marks[i].Piece, Add: to.Add, Low: low, High: high}
}
