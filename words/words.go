// Package words is layer 1: it formats and parses the tokens of the line formats of later layers. See shared/doc/01-words.md.
package words

import (
	"strings"

	"polder/api"
)

// Name reports whether s is a name.
func Name(s string) bool {
	return s != "" && len(s) <= api.MaxName && letter(s[0]) && all(s, nameByte)
}

// Text reports whether s is a string that may be quoted.
func Text(s string) bool {
	return len(s) <= api.MaxText && all(s, printable)
}

// Lines returns the lines of a script without their line feeds.
func Lines(s string) ([]string, api.Errno) {
	if len(s) > api.MaxScript {
		return nil, api.ErrLong
	}
	if s == "" {
		return nil, api.OK
	}
	body, ended := strings.CutSuffix(s, "\n")
	if !ended {
		return nil, api.ErrForm
	}
	if strings.Count(s, "\n") > api.MaxLines {
		return nil, api.ErrLong
	}
	lines := strings.Split(body, "\n")
	for i, line := range lines {
		lines[i] = strings.Clone(line) // a part of s would share its memory
	}
	return lines, api.OK
}

func all(s string, good func(byte) bool) bool {
	for i := range len(s) {
		if !good(s[i]) {
			return false
		}
	}
	return true
}

func letter(c byte) bool { return 'a' <= c && c <= 'z' || 'A' <= c && c <= 'Z' }

func digit(c byte) bool { return '0' <= c && c <= '9' }

func nameByte(c byte) bool { return letter(c) || digit(c) || c == '_' }

func printable(c byte) bool { return ' ' <= c && c <= '~' }
