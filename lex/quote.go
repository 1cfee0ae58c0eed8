package lex

import (
	"strconv"
	"strings"

	"cooper/api"
)

// Bytes that have a short form within quotes, and, one by one, the letters of these forms.
const (
	shortBytes   = "\x00\t\n\r\"\\"
	shortLetters = "0tnr\"\\"
)

const (
	shortForm = 2 // bytes of a backslash and a letter
	hexLetter = 'x'
	hexForm   = 4 // of a backslash, an x and two digits
	hexDigits = "0123456789abcdef"
)

// Quote are bytes within quotes.
func Quote(s string) string {
	b := make([]byte, 0, len(s)+2)
	b = append(b, quoteByte)
	for i := range len(s) {
		b = quoted(b, s[i])
	}
	return string(append(b, quoteByte))
}

// Unquote are the bytes of a text that is quotes and nothing else.
func Unquote(s string) (string, api.Errno) {
	b, n, ok := unquoted(s)
	if !ok || n != len(s) {
		return "", api.ErrQuote
	}
	return b, api.OK
}

// quoted is b with a byte behind it as it stands within quotes.
func quoted(b []byte, c byte) []byte {
	if i := strings.IndexByte(shortBytes, c); i >= 0 {
		return append(b, backslash, shortLetters[i])
	}
	if stands(c, quoteByte) {
		return append(b, c)
	}
	return append(b, backslash, hexLetter, hexDigits[c>>4], hexDigits[c&15])
}

// unquoted are the bytes of the quotes with which s begins, and how long these are.
func unquoted(s string) (string, int, bool) {
	if s == "" || s[0] != quoteByte {
		return "", 0, false
	}
	var b strings.Builder
	at := 1
	for at < len(s) && s[at] != quoteByte {
		c, n, ok := within(s[at:])
		if !ok {
			return "", 0, false
		}
		b.WriteByte(c)
		at += n
	}
	if at == len(s) {
		return "", 0, false
	}
	return b.String(), at + 1, true
}

// within is the byte that stands first within quotes, and how long its form is.
func within(s string) (byte, int, bool) {
	switch {
	case s[0] == backslash:
		return escaped(s)
	case stands(s[0], quoteByte):
		return s[0], 1, true
	}
	return 0, 0, false
}

// escaped is the byte of the form with a backslash with which s begins, and how long the form is.
func escaped(s string) (byte, int, bool) {
	if len(s) < shortForm {
		return 0, 0, false
	}
	if i := strings.IndexByte(shortLetters, s[1]); i >= 0 {
		return shortBytes[i], shortForm, true
	}
	if s[1] != hexLetter || len(s) < hexForm {
		return 0, 0, false
	}
	v, err := strconv.ParseUint(s[shortForm:hexForm], 16, 8)
	return byte(v), hexForm, err == nil
}
