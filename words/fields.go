package words

import (
	"strings"

	"polder/api"
)

// Field is a field of a line.
type Field struct {
	Quoted bool
	S      string
}

// Quote returns the quotation of s.
func Quote(s string) (string, api.Errno) {
	if !Text(s) {
		return "", api.ErrArg
	}
	return `"` + strings.ReplaceAll(s, `"`, `""`) + `"`, api.OK
}

// Unquote returns the string whose quotation is s.
func Unquote(s string) (string, api.Errno) {
	if len(s) < 2 {
		return "", api.ErrForm
	}
	text := strings.ReplaceAll(s[1:len(s)-1], `""`, `"`)
	// Only the quotation of text comes back as it was: any other s has its double quotes elsewhere.
	if q, e := Quote(text); e != api.OK || q != s {
		return "", api.ErrForm
	}
	return strings.Clone(text), api.OK // ReplaceAll may return a part of s
}

// Split returns the fields of a line.
func Split(line string) ([]Field, api.Errno) {
	if len(line) > api.MaxLine {
		return nil, api.ErrLong
	}
	var l []Field
	rest, more := line, line != ""
	for more {
		var text string
		text, rest, more = cutField(rest)
		f, ok := readField(text)
		if !ok {
			return nil, api.ErrForm
		}
		l = append(l, f)
	}
	if len(l) > api.MaxFields {
		return nil, api.ErrLong
	}
	return l, api.OK
}

// Join returns the line with the fields l.
func Join(l []Field) (string, api.Errno) {
	if len(l) > api.MaxFields {
		return "", api.ErrLong
	}
	var line []byte // appended to, since joining strings may return one of them
	for i, f := range l {
		text, ok := writeField(f)
		if !ok {
			return "", api.ErrArg
		}
		if i > 0 {
			line = append(line, ' ')
		}
		line = append(line, text...)
	}
	if len(line) > api.MaxLine {
		return "", api.ErrLong
	}
	return string(line), api.OK
}

// cutField returns what is before the first space that ends a field, what is behind it, and whether there is such a space.
func cutField(rest string) (string, string, bool) {
	inside := false
	end := strings.IndexFunc(rest, func(c rune) bool {
		if c == '"' { // a doubled one changes inside twice
			inside = !inside
		}
		return c == ' ' && !inside
	})
	if end < 0 {
		return rest, "", false
	}
	return rest[:end], rest[end+1:], true
}

func readField(text string) (Field, bool) {
	if bare(text) {
		return Field{S: strings.Clone(text)}, true // a part of the line would share its memory
	}
	s, e := Unquote(text)
	return Field{Quoted: e == api.OK, S: s}, e == api.OK
}

func writeField(f Field) (string, bool) {
	if f.Quoted {
		s, e := Quote(f.S)
		return s, e == api.OK
	}
	return f.S, bare(f.S)
}

func bare(s string) bool {
	return s != "" && Text(s) && !strings.ContainsAny(s, ` "`)
}
