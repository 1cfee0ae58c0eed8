package stmt

import (
	"slices"
	"strings"

	"cooper/api"
	"cooper/expr"
	"cooper/lex"
	"cooper/oper"
)

const (
	blank   = " "
	parting = comma + blank
)

// text is a statement that may be, as a line.
func text(s api.Stmt) string {
	var words []string
	for _, label := range s.Labels {
		words = append(words, label+colon)
	}
	for _, word := range [...]string{headText(s), tailText(s)} {
		if word != "" {
			words = append(words, word)
		}
	}
	return strings.Join(words, blank)
}

// headText is the name of the directive, or of the instruction, that a statement is.
func headText(s api.Stmt) string {
	switch s.Kind {
	case api.StInst:
		return s.Line.Name
	case api.StSection:
		if isOwn(s.Names[0]) {
			return s.Names[0]
		}
		return sectionName
	case api.StGlobal:
		return globalName
	case api.StAlign:
		return alignName
	case api.StData:
		return sizeName(s.Size)
	case api.StAscii:
		return asciiName
	case api.StEqu:
		return equName
	}
	return ""
}

// tailText is what stands behind that name.
func tailText(s api.Stmt) string {
	switch {
	case s.Kind == api.StInst:
		opers, _ := oper.Text(s.Line.Opers...)
		return opers
	case s.Kind == api.StAscii:
		return lex.Quote(string(s.Bytes))
	case s.Kind == api.StSection && isOwn(s.Names[0]):
		return ""
	}
	words := slices.Clone(s.Names)
	for _, v := range s.Values {
		word, _ := expr.Print(v)
		words = append(words, word)
	}
	return strings.Join(words, parting)
}
