// Package fixup is layer 18: see shared/doc/18-fixup.md.
package fixup

import (
	"iter"

	"cooper/api"
)

func Check(h api.Hole) api.Errno { return api.OK }

func Width(h api.Hole) int { return 0 }

func Type(h api.Hole, far bool) (int, api.Errno) { return 0, api.OK }

func Reach(h api.Hole) (int64, int64, int64, bool) { return 0, 0, 0, false }

func Resolve(h api.Hole, section int, off int64, syms ...api.Symbol) (api.Fix, api.Errno) {
	return api.Fix{}, api.OK
}

func Fill(b []byte, h api.Hole, v int64) ([]byte, api.Errno) { return nil, api.OK }

func Read(b []byte, h api.Hole) (int64, api.Errno) { return 0, api.OK }

func Holes() iter.Seq[api.Hole] { return func(func(api.Hole) bool) {} }
