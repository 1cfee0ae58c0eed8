// Package object is layer 14: see shared/doc/14-object.md.
package object

import (
	"iter"

	"cooper/api"
)

// Check tells whether an object may be, Width is how many bytes a relocation changes.
func Check(o api.Object) api.Errno { return api.OK }

func Width(kind int) int { return 0 }

// KindOf is the kind of a section's name.
func KindOf(name string) int { return 0 }

// Norm is an object whose symbols are in order.
func Norm(o api.Object) api.Object { return api.Object{} }

// Find is the symbol of a name, Section the section of one.
func Find(o api.Object, name string) (int, bool) { return 0, false }

func Section(o api.Object, name string) (int, bool) { return 0, false }

// Undefined goes through the symbols that are defined elsewhere, At is the last symbol that is not behind a place of a section.
func Undefined(o api.Object) iter.Seq[string] { return func(func(string) bool) {} }

func At(o api.Object, section int, off int64) (int, bool) { return 0, false }

// Same tells whether two objects are the same, Clone is one in memory of its own.
func Same(a, b api.Object) bool { return false }

func Clone(o api.Object) api.Object { return api.Object{} }
