// Package relax is layer 16: see shared/doc/16-relax.md.
package relax

import (
	"iter"

	"cooper/api"
)

func Check(l ...api.Item) api.Errno { return api.OK }

func Offsets(l []api.Item, long []bool) ([]int64, api.Errno) { return nil, api.OK }

func Reaches(l []api.Item, long []bool, n int) bool { return false }

func Round(l []api.Item, long []bool) ([]bool, int, api.Errno) { return nil, 0, api.OK }

func Relax(l ...api.Item) ([]bool, int, api.Errno) { return nil, 0, api.OK }

func Rounds(l ...api.Item) iter.Seq[[]bool] { return func(func([]bool) bool) {} }

func Fits(l []api.Item, long []bool) bool { return false }
