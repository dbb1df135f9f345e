package words_test

import (
	"math/rand/v2"
	"slices"
	"strings"
	"testing"
	"unsafe"

	"polder/api"
	"polder/words"
)

// strs yields every string over the alphabet that has at most n bytes.
func strs(alphabet string, n int) func(yield func(string) bool) {
	return func(yield func(string) bool) {
		var grow func(s string) bool
		grow = func(s string) bool {
			if !yield(s) {
				return false
			}
			if len(s) == n {
				return true
			}
			for i := range len(alphabet) {
				if !grow(s + alphabet[i:i+1]) {
					return false
				}
			}
			return true
		}
		grow("")
	}
}

func source() *rand.Rand { return rand.New(rand.NewPCG(1, 2)) }

// overlap reports whether two strings have bytes of memory in common.
func overlap(a, b string) bool {
	if a == "" || b == "" {
		return false
	}
	x, y := uintptr(unsafe.Pointer(unsafe.StringData(a))), uintptr(unsafe.Pointer(unsafe.StringData(b)))
	return x < y+uintptr(len(b)) && y < x+uintptr(len(a))
}

// P1.1

func TestP1_1Name(t *testing.T) {
	for s, want := range map[string]bool{
		"a": true, "z": true, "A": true, "Z": true, "main": true, "Main_Arena_2": true, "x_": true, "a0123456789": true,
		"abcdefghijklmnop": true, "abcdefghijklmnopq": false,
		"": false, "_": false, "_a": false, "0": false, "9a": false, "a b": false, " a": false, "a ": false, "a-b": false, "a.b": false,
		"a\x00": false, "a\n": false, "\xff": false, "a\xff": false, "é": false, "aé": false, "ａ": false,
	} {
		if got := words.Name(s); got != want {
			t.Errorf("Name(%q): %v, want %v", s, got, want)
		}
	}
}

func TestP1_1NameBytes(t *testing.T) {
	const letters = "abcdefghijklmnopqrstuvwxyzABCDEFGHIJKLMNOPQRSTUVWXYZ"
	for c := range 256 {
		s := string([]byte{byte(c)})
		if got, want := words.Name(s), strings.Contains(letters, s); got != want {
			t.Errorf("Name(%q): %v, want %v", s, got, want)
		}
		for _, name := range []string{"a" + s, "a" + s + "b"} {
			if got, want := words.Name(name), strings.Contains(letters+"0123456789_", s); got != want {
				t.Errorf("Name(%q): %v, want %v", name, got, want)
			}
		}
	}
}

func TestP1_1Text(t *testing.T) {
	if !words.Text("") {
		t.Error("the empty string is a string")
	}
	for c := range 256 {
		want := c >= 32 && c <= 126
		for _, s := range []string{string([]byte{byte(c)}), "say " + string([]byte{byte(c)}), string([]byte{byte(c)}) + "!"} {
			if got := words.Text(s); got != want {
				t.Errorf("Text(%q): %v, want %v", s, got, want)
			}
		}
	}
	for n, want := range map[int]bool{1: true, 199: true, 200: true, 201: false, 4096: false} {
		if got := words.Text(strings.Repeat(" ", n)); got != want {
			t.Errorf("Text of %d bytes: %v, want %v", n, got, want)
		}
	}
}

// P1.7

func TestP1_7Lines(t *testing.T) {
	for _, x := range []struct {
		s    string
		want []string
	}{
		{"", nil},
		{"\n", []string{""}},
		{"\n\n", []string{"", ""}},
		{"a\n", []string{"a"}},
		{"a\n\nb\n", []string{"a", "", "b"}},
		{"\n a \r\n\x00\xff\n", []string{"", " a \r", "\x00\xff"}},
	} {
		if l, e := words.Lines(x.s); !slices.Equal(l, x.want) || e != api.OK {
			t.Errorf("Lines(%q): %q, %d, want %q", x.s, l, e, x.want)
		}
	}
}

func TestP1_7Errors(t *testing.T) {
	for _, x := range []struct {
		name, s string
		count   int
		e       api.Errno
	}{
		{"no line feed", "a", 0, api.ErrForm},
		{"no last line feed", "a\nb", 0, api.ErrForm},
		{"a carriage return", "a\n\r", 0, api.ErrForm},
		{"2^20 bytes", strings.Repeat("a", 1<<20-1) + "\n", 1, api.OK},
		{"2^20 + 1 bytes", strings.Repeat("a", 1<<20) + "\n", 0, api.ErrLong},
		{"2^20 bytes without a line feed", strings.Repeat("a", 1<<20), 0, api.ErrForm},
		{"2^20 + 1 bytes without a line feed", strings.Repeat("a", 1<<20+1), 0, api.ErrLong},
		{"5000 lines", strings.Repeat("ab\n", 5000), 5000, api.OK},
		{"5001 lines", strings.Repeat("ab\n", 5001), 0, api.ErrLong},
		{"5000 lines and no last line feed", strings.Repeat("ab\n", 5000) + "a", 0, api.ErrForm},
		{"5001 lines and no last line feed", strings.Repeat("ab\n", 5001) + "a", 0, api.ErrForm},
	} {
		if l, e := words.Lines(x.s); len(l) != x.count || e != x.e {
			t.Errorf("Lines, %s: %d lines, %d, want %d, %d", x.name, len(l), e, x.count, x.e)
		}
	}
}

func TestP1_7AllShort(t *testing.T) {
	for s := range strs("a\n", 10) {
		l, e := words.Lines(s)
		if s != "" && !strings.HasSuffix(s, "\n") {
			if len(l) != 0 || e != api.ErrForm {
				t.Errorf("Lines(%q): %q, %d", s, l, e)
			}
			continue
		}
		joined := ""
		for _, line := range l {
			joined += line + "\n"
			if strings.Contains(line, "\n") {
				t.Errorf("Lines(%q): a line feed in %q", s, line)
			}
		}
		if joined != s || e != api.OK {
			t.Errorf("Lines(%q): %q, %d", s, l, e)
		}
	}
}

// P1.11

// oddStrings are strings that most functions refuse.
func oddStrings() []string {
	l := []string{"", " ", "\x00", "\n", "\r\n", "\xff", "\xff\xfe \"", "\xed\xa0\x80", "é", "\"", "\"\"\"", "-", "x", ",", "0x", "x0", "-0", "--", "0x0x0", "9-", "\"\xff\"", "\" \" ", "1e9", "0X1", "\u2028"}
	for _, s := range []string{"\"", " ", ",", "-", "9", "0", "x", "a", "\n", "\x00", "\xff", "é"} {
		for _, n := range []int{2, 16, 17, 100, 101, 200, 201, 202, 2500, 2501, 4096, 4097, 5001, 1<<20 + 1} {
			l = append(l, strings.Repeat(s, n))
		}
	}
	rng := source()
	for n := range 200 {
		b := make([]byte, n)
		for i := range b {
			b[i] = byte(rng.UintN(256))
		}
		l = append(l, string(b))
	}
	return l
}

// TestP1_11AllStrings checks rule R2, too: with an error every other result is zero.
func TestP1_11AllStrings(t *testing.T) {
	for _, s := range oddStrings() {
		words.Name(s)
		words.Text(s)
		n, e1 := words.Int(s, -1<<63, 1<<63-1)
		l, e2 := words.ParseList(s)
		b, e3 := words.ParseHex(s)
		q, e4 := words.Quote(s)
		u, e5 := words.Unquote(s)
		f, e6 := words.Split(s)
		lines, e7 := words.Lines(s)
		j, e8 := words.Join([]words.Field{{Quoted: true, S: s}, {S: s}})
		h, e9 := words.Hex([]byte(s))
		for what, bad := range map[string]bool{
			"Int": e1 != api.OK && n != 0, "ParseList": e2 != api.OK && len(l) != 0, "ParseHex": e3 != api.OK && len(b) != 0,
			"Quote": e4 != api.OK && q != "", "Unquote": e5 != api.OK && u != "", "Split": e6 != api.OK && len(f) != 0,
			"Lines": e7 != api.OK && len(lines) != 0, "Join": e8 != api.OK && j != "", "Hex": e9 != api.OK && h != "",
		} {
			if bad {
				t.Errorf("%s of %.30q: a result beside an error", what, s)
			}
		}
	}
}

func TestP1_11AllNumbers(t *testing.T) {
	extremes := []int64{-1 << 63, -1<<63 + 1, -1 << 32, -1, 0, 1, 1 << 32, 1<<63 - 2, 1<<63 - 1}
	for _, n := range extremes {
		s := words.Digits(n)
		if l, e := words.List([]int{0, int(n)}); (e == api.OK) != (n == 0 || n == 1) || e != api.OK && (l != "" || e != api.ErrRange) {
			t.Errorf("List of 0, %d: %q, %d", n, l, e)
		}
		for _, least := range extremes {
			for _, most := range extremes {
				want, value := api.OK, n
				if least > most {
					want, value = api.ErrArg, 0
				} else if n < least || n > most {
					want, value = api.ErrRange, 0
				}
				if got, e := words.Int(s, least, most); got != value || e != want {
					t.Errorf("Int(%s, %d, %d): %d, %d, want %d, %d", s, least, most, got, e, value, want)
				}
			}
		}
	}
}

func TestP1_11NilAndEmpty(t *testing.T) {
	for _, empty := range []bool{false, true} {
		var l []int
		var b []byte
		var f []words.Field
		if empty {
			l, b, f = []int{}, []byte{}, []words.Field{}
		}
		s, e1 := words.List(l)
		h, e2 := words.Hex(b)
		j, e3 := words.Join(f)
		if s != "" || h != "" || j != "" || e1 != api.OK || e2 != api.OK || e3 != api.OK {
			t.Errorf("empty arguments: %q, %d, %q, %d, %q, %d", s, e1, h, e2, j, e3)
		}
	}
}

func TestP1_11ArgumentsStay(t *testing.T) {
	l := []int{3, 4, 5, 5, 5, 0, 9999}
	b := []byte{0, 10, 255}
	f := []words.Field{{S: "create"}, {Quoted: true, S: `the "main" arena`}}
	for _, end := range []int{0, 1} { // also with room behind the argument
		l1, b1, f1 := l[:len(l)-end], b[:len(b)-end], f[:len(f)-end]
		words.List(l1)
		words.Hex(b1)
		words.Join(f1)
	}
	if !slices.Equal(l, []int{3, 4, 5, 5, 5, 0, 9999}) {
		t.Errorf("List has changed its argument: %v", l)
	}
	if !slices.Equal(b, []byte{0, 10, 255}) {
		t.Errorf("Hex has changed its argument: %v", b)
	}
	if !slices.Equal(f, []words.Field{{S: "create"}, {Quoted: true, S: `the "main" arena`}}) {
		t.Errorf("Join has changed its argument: %v", f)
	}
}

// twice checks that what is done to one result does not show in the next one.
func twice[T comparable](t *testing.T, name string, call func() ([]T, api.Errno)) {
	t.Helper()
	var zero T
	a, e := call()
	want := slices.Clone(a)
	if len(a) == 0 || e != api.OK {
		t.Fatalf("%s: %v, %d", name, a, e)
	}
	b, _ := call()
	clear(a[:cap(a)])
	a = append(a[:0], zero)
	if c, _ := call(); !slices.Equal(b, want) || !slices.Equal(c, want) {
		t.Errorf("%s: results share memory: %v, %v, %v", name, a, b, c)
	}
}

func TestP1_11ResultsAreFresh(t *testing.T) {
	twice(t, "ParseList", func() ([]int, api.Errno) { return words.ParseList("5-7,2x9") })
	twice(t, "ParseHex", func() ([]byte, api.Errno) { return words.ParseHex("0aff") })
	twice(t, "Split", func() ([]words.Field, api.Errno) { return words.Split(`create "main arena" 1`) })
	twice(t, "Lines", func() ([]string, api.Errno) { return words.Lines("a\n\nb\n") })
}

func TestP1_11StringsAreFresh(t *testing.T) {
	check := func(name, argument string, results ...string) {
		t.Helper()
		for i, s := range results {
			if s == "" {
				t.Errorf("%s(%q): nothing to compare", name, argument)
			}
			for _, other := range append(results[:i:i], argument) {
				if overlap(s, other) {
					t.Errorf("%s(%q): %q shares memory", name, argument, s)
				}
			}
		}
	}
	for _, s := range []string{"plain", `a "b" c`} {
		q, _ := words.Quote(s)
		u, _ := words.Unquote(q)
		check("Quote", s, q)
		check("Unquote", q, u)
	}
	for _, line := range []string{"one", `"one"`, `a "b c" "d""e" f`} {
		fields, _ := words.Split(line)
		var parts []string
		for _, f := range fields {
			parts = append(parts, f.S)
		}
		check("Split", line, parts...)
	}
	for _, script := range []string{"one\n", "a\nbc\nd\n"} {
		lines, _ := words.Lines(script)
		check("Lines", script, lines...)
	}
	for _, f := range []words.Field{{S: "one"}, {Quoted: true, S: "one"}} {
		j, _ := words.Join([]words.Field{f})
		check("Join", f.S, j)
	}
}
