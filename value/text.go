package value

import (
	"strconv"
	"strings"

	"hayloft/api"
)

const digits = "0123456789abcdef"

// Print writes a value; of one that is not Right, nothing.
func Print(v api.Value) string {
	if !Right(v) {
		return ""
	}
	switch v.Kind {
	case api.KindBool:
		return strconv.FormatBool(v.Bool)
	case api.KindInt:
		return strconv.FormatInt(v.Int, 10)
	case api.KindText:
		return quote(v.Text)
	}
	return "null"
}

func quote(s string) string {
	var b strings.Builder
	b.WriteByte('"')
	for i := range len(s) {
		switch c := s[i]; {
		case c == '"' || c == '\\':
			b.WriteByte('\\')
			b.WriteByte(c)
		case c < 32 || c > 126:
			b.WriteString(`\x`)
			b.WriteByte(digits[c>>4])
			b.WriteByte(digits[c&15])
		default:
			b.WriteByte(c)
		}
	}
	b.WriteByte('"')
	return b.String()
}

// Parse reads a value, or answers ErrValueRow. It takes more ways of writing a value than there are, and then holds s against the one way of Print: so the two can't differ on what is well written.
func Parse(s string) (api.Value, api.Errno) {
	v, ok := guess(s)
	if !ok || Print(v) != s {
		return api.Value{}, api.ErrValueRow
	}
	return v, api.OK
}

// guess answers the one value that s could be, if it is any.
func guess(s string) (api.Value, bool) {
	switch {
	case s == "null":
		return Null(), true
	case s == "true" || s == "false":
		return Bool(s == "true"), true
	case strings.HasPrefix(s, `"`):
		text, ok := unquote(s[1:])
		return Text(text), ok
	}
	n, err := strconv.ParseInt(s, 10, 64)
	return Int(n), err == nil
}

// unquote answers the text up to the quote that ends s; what a backslash leads is taken as it stands, but for `\x`.
func unquote(s string) (string, bool) {
	s, ended := strings.CutSuffix(s, `"`)
	var b strings.Builder
	for ended && len(s) > 0 && b.Len() <= api.MaxText {
		c, size := front(s)
		if size == 0 {
			return "", false
		}
		b.WriteByte(c)
		s = s[size:]
	}
	return b.String(), ended
}

// front answers the byte that s begins with, and how many bytes of s write it (0: they write none).
func front(s string) (byte, int) {
	switch {
	case s[0] != '\\':
		return s[0], 1
	case len(s) < 2:
		return 0, 0
	case s[1] != 'x':
		return s[1], 2
	case len(s) < 4:
		return 0, 0
	}
	n, err := strconv.ParseUint(s[2:4], 16, 8)
	if err != nil {
		return 0, 0
	}
	return byte(n), 4
}
