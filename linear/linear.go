// Package linear is layer 26: see shared/doc/26-linear.md.
package linear

import (
	"iter"

	"cooper/api"
)

func Check(l ...api.Call) api.Errno { return api.OK }

func Legal(l []api.Call, order ...int) bool { return false }

func Find(l ...api.Call) ([]int, bool, api.Errno) { return nil, false, api.OK }

func Keys(l ...api.Call) iter.Seq[string] { return func(func(string) bool) {} }

func Ahead(a, b api.Call) bool { return false }
