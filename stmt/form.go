package stmt

import (
	"strings"

	"cooper/api"
	"cooper/lex"
)

const (
	here  = "." // the place where it stands: no label
	dot   = "." // a directive's name begins with it
	colon = ":"
	comma = ","

	textName    = dot + "text" // a section, and the directive to it
	dataName    = dot + "data"
	sectionName = dot + "section"
	globalName  = dot + "global"
	alignName   = dot + "align"
	asciiName   = dot + "ascii"
	equName     = dot + "equ"
)

// sizing is a directive that places values, and of how many bytes each.
type sizing struct {
	name string
	size int
}

var sizings = [...]sizing{{dot + "byte", 1}, {dot + "word", 4}, {dot + "quad", 8}}

// sizeOf is of how many bytes a directive places values: 0, if it places none.
func sizeOf(name string) int {
	for _, x := range sizings {
		if x.name == name {
			return x.size
		}
	}
	return 0
}

// sizeName is the directive that places values of so many bytes, or nothing.
func sizeName(size int) string {
	for _, x := range sizings {
		if x.size == size {
			return x.name
		}
	}
	return ""
}

// isOwn tells whether a section has a directive of its own.
func isOwn(section string) bool { return section == textName || section == dataName }

func isDirective(name string) bool { return strings.HasPrefix(name, dot) }

func isNoLabel(s string) bool { return !lex.Name(s) || s == here }

// isPower tells whether a value may be to what power of two is aligned.
func isPower(v api.Value) bool {
	return v == api.Value{Add: v.Add} && v.Add >= 0 && v.Add <= api.MaxAlign
}

// used is a statement with nothing but what its kind uses.
func used(s api.Stmt) api.Stmt {
	u := api.Stmt{Labels: s.Labels, Kind: s.Kind}
	switch s.Kind {
	case api.StNone:
	case api.StInst:
		u.Line = s.Line
	case api.StSection, api.StGlobal:
		u.Names = s.Names
	case api.StAlign:
		u.Values = s.Values
	case api.StData:
		u.Size, u.Values = s.Size, s.Values
	case api.StAscii:
		u.Bytes = s.Bytes
	case api.StEqu:
		u.Names, u.Values = s.Names, s.Values
	default:
		u.Kind = api.StNone
	}
	return u
}

// fits tells whether there are as many names and values as a form has, and whether the names and the size may be.
func fits(s api.Stmt) bool {
	for _, name := range s.Names {
		if !lex.Name(name) {
			return false
		}
	}
	switch s.Kind {
	case api.StInst:
		return lex.Name(s.Line.Name) && !isDirective(s.Line.Name)
	case api.StSection:
		return len(s.Names) == 1
	case api.StGlobal:
		return len(s.Names) > 0
	case api.StAlign:
		return len(s.Values) == 1
	case api.StData:
		return len(s.Values) > 0 && sizeName(s.Size) != ""
	case api.StEqu:
		return len(s.Names) == 1 && len(s.Values) == 1
	}
	return true
}
