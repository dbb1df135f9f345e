package words_test

import (
	"regexp"
	"slices"
	"strings"
	"testing"

	"polder/api"
	"polder/words"
)

var (
	quotationForm = regexp.MustCompile(`^"([ !#-~]|"")*"$`)
	lineForm      = regexp.MustCompile(`^(([!#-~]{1,200}|"([ !#-~]|""){0,200}")( ([!#-~]{1,200}|"([ !#-~]|""){0,200}"))*)?$`)
)

func bareField(s string) words.Field { return words.Field{S: s} }

func quotedField(s string) words.Field { return words.Field{Quoted: true, S: s} }

// P1.5

func TestP1_5Quote(t *testing.T) {
	for _, x := range []struct {
		s, want string
		e       api.Errno
	}{
		{"", `""`, api.OK},
		{`say "a"`, `"say ""a"""`, api.OK},
		{`"`, `""""`, api.OK},
		{`""`, `""""""`, api.OK},
		{" ~", `" ~"`, api.OK},
		{`\n`, `"\n"`, api.OK},
		{strings.Repeat("x", 200), `"` + strings.Repeat("x", 200) + `"`, api.OK},
		{strings.Repeat(`"`, 200), strings.Repeat(`"`, 402), api.OK},
		{strings.Repeat("x", 201), "", api.ErrArg},
		{"a\nb", "", api.ErrArg},
		{"\x1f", "", api.ErrArg},
		{"\x7f", "", api.ErrArg},
		{"é", "", api.ErrArg},
		{"\xff", "", api.ErrArg},
	} {
		if s, e := words.Quote(x.s); s != x.want || e != x.e {
			t.Errorf("Quote(%.30q): %q, %d, want %q, %d", x.s, s, e, x.want, x.e)
		}
	}
}

func TestP1_5Unquote(t *testing.T) {
	for _, x := range []struct {
		s, want string
		e       api.Errno
	}{
		{`""`, "", api.OK},
		{`"say ""a"""`, `say "a"`, api.OK},
		{`""""`, `"`, api.OK},
		{`""""""`, `""`, api.OK},
		{`" ~"`, " ~", api.OK},
		{`"` + strings.Repeat("x", 200) + `"`, strings.Repeat("x", 200), api.OK},
		{strings.Repeat(`"`, 402), strings.Repeat(`"`, 200), api.OK},
		{"", "", api.ErrForm},
		{`"`, "", api.ErrForm},
		{`"a`, "", api.ErrForm},
		{`a"`, "", api.ErrForm},
		{`a`, "", api.ErrForm},
		{`aa`, "", api.ErrForm},
		{`'a'`, "", api.ErrForm},
		{`"""`, "", api.ErrForm},
		{`"a""`, "", api.ErrForm},
		{`""a"`, "", api.ErrForm},
		{`"a"b"`, "", api.ErrForm},
		{`"a" "b"`, "", api.ErrForm},
		{` "a"`, "", api.ErrForm},
		{`"a" `, "", api.ErrForm},
		{"\"a\nb\"", "", api.ErrForm},
		{"\"\x7f\"", "", api.ErrForm},
		{`"é"`, "", api.ErrForm},
		{`"` + strings.Repeat("x", 201) + `"`, "", api.ErrForm},
		{strings.Repeat(`"`, 403), "", api.ErrForm},
		{strings.Repeat(`"`, 404), "", api.ErrForm},
	} {
		if s, e := words.Unquote(x.s); s != x.want || e != x.e {
			t.Errorf("Unquote(%.30q): %q, %d, want %q, %d", x.s, s, e, x.want, x.e)
		}
	}
}

// P1.5 and P1.8: what is a quotation, and that Unquote and Quote are inverse.
func TestP1_8UnquoteQuote(t *testing.T) {
	for s := range strs("\"a \n", 7) {
		u, e := words.Unquote(s)
		if (e == api.OK) != quotationForm.MatchString(s) || e != api.OK && (u != "" || e != api.ErrForm) {
			t.Errorf("Unquote(%q): %q, %d", s, u, e)
		}
		if back, e2 := words.Quote(u); e == api.OK && (back != s || e2 != api.OK) {
			t.Errorf("Quote of Unquote(%q): %q, %d", s, back, e2)
		}
		q, e := words.Quote(s)
		if (e == api.OK) != words.Text(s) || e != api.OK && (q != "" || e != api.ErrArg) {
			t.Errorf("Quote(%q): %q, %d", s, q, e)
		}
		if back, e2 := words.Unquote(q); e == api.OK && (back != s || e2 != api.OK) {
			t.Errorf("Unquote of Quote(%q): %q, %d", s, back, e2)
		}
	}
}

// P1.6

func TestP1_6Split(t *testing.T) {
	long := strings.Repeat("x", 200)
	for _, x := range []struct {
		line string
		want []words.Field
	}{
		{"", nil},
		{"a", []words.Field{bareField("a")}},
		{`create "main arena" 1`, []words.Field{bareField("create"), quotedField("main arena"), bareField("1")}},
		{`""`, []words.Field{quotedField("")}},
		{`"" ""`, []words.Field{quotedField(""), quotedField("")}},
		{`"a"`, []words.Field{quotedField("a")}},
		{`" "`, []words.Field{quotedField(" ")}},
		{`"a "" b" c`, []words.Field{quotedField(`a " b`), bareField("c")}},
		{`""" """`, []words.Field{quotedField(`" "`)}},
		{`"""" """"`, []words.Field{quotedField(`"`), quotedField(`"`)}},
		{"! ~ 'a,b' --", []words.Field{bareField("!"), bareField("~"), bareField("'a,b'"), bareField("--")}},
		{long + ` "` + long + `"`, []words.Field{bareField(long), quotedField(long)}},
		{strings.Repeat(`"`, 402), []words.Field{quotedField(strings.Repeat(`"`, 200))}},
		{"x" + strings.Repeat(" x", 63), slices.Repeat([]words.Field{bareField("x")}, 64)},
	} {
		if l, e := words.Split(x.line); !slices.Equal(l, x.want) || e != api.OK {
			t.Errorf("Split(%.40q): %v, %d, want %v", x.line, l, e, x.want)
		}
	}
}

// lineOf returns a valid line with n bytes, at most 64 fields.
func lineOf(n int) string {
	line := strings.Repeat(strings.Repeat("x", 200)+" ", n/201+1)[:n]
	return strings.TrimSuffix(line, " ") + strings.Repeat("x", len(line)-len(strings.TrimSuffix(line, " ")))
}

func TestP1_6SplitErrors(t *testing.T) {
	many := strings.Repeat("a ", 64) // 64 fields, and a space for another one
	for _, x := range []struct {
		name, line string
		e          api.Errno
	}{
		{"a space", " ", api.ErrForm},
		{"two spaces", "  ", api.ErrForm},
		{"two spaces between", "a  b", api.ErrForm},
		{"a space before", " a", api.ErrForm},
		{"a space behind", "a ", api.ErrForm},
		{"a space behind a quotation", `"a" `, api.ErrForm},
		{"a tab", "a\tb", api.ErrForm},
		{"a line feed", "a\n", api.ErrForm},
		{"a byte over 126", "a\x7f", api.ErrForm},
		{"no ASCII", "é", api.ErrForm},
		{"no ASCII quoted", `"é"`, api.ErrForm},
		{"a line feed quoted", "\"\n\"", api.ErrForm},
		{"a double quote in a bare field", `a"b`, api.ErrForm},
		{"double quotes in a bare field", `a""b`, api.ErrForm},
		{"a quotation behind a bare field", `a"b"`, api.ErrForm},
		{"a bare field behind a quotation", `"a"b`, api.ErrForm},
		{"two quotations without a space", `"a"b"c"`, api.ErrForm},
		{"an open quotation", `"a`, api.ErrForm},
		{"an open quotation with spaces", `"a b c`, api.ErrForm},
		{"an open quotation at the end", `a "`, api.ErrForm},
		{"three double quotes", `"""`, api.ErrForm},
		{"a bare field with 201 bytes", strings.Repeat("x", 201), api.ErrForm},
		{"a quoted field with 201 bytes", `"` + strings.Repeat("x", 201) + `"`, api.ErrForm},
		{"65 fields", many + "a", api.ErrLong},
		{"65 fields, one empty", many, api.ErrForm},
		{"65 fields, the last wrong", many + `"`, api.ErrForm},
		{"66 fields, the last wrong", many + `a "`, api.ErrForm},
		{"2048 fields", strings.Repeat("a ", 2047) + "a", api.ErrLong},
		{"4096 bytes, wrong", strings.Repeat(" ", 4096), api.ErrForm},
		{"4097 bytes, wrong", strings.Repeat(" ", 4097), api.ErrLong},
		{"4097 bytes", lineOf(4097), api.ErrLong},
		{"4096 bytes", lineOf(4096), api.OK},
	} {
		l, e := words.Split(x.line)
		if e != x.e || e != api.OK && len(l) != 0 {
			t.Errorf("Split, %s: %d fields, %d, want %d", x.name, len(l), e, x.e)
		}
	}
}

func TestP1_6Join(t *testing.T) {
	long := strings.Repeat("x", 200)
	for _, x := range []struct {
		l    []words.Field
		want string
	}{
		{nil, ""},
		{[]words.Field{bareField("a")}, "a"},
		{[]words.Field{quotedField("")}, `""`},
		{[]words.Field{quotedField("a")}, `"a"`},
		{[]words.Field{bareField("create"), quotedField("main arena"), bareField("1")}, `create "main arena" 1`},
		{[]words.Field{quotedField(`say "a"`), quotedField("")}, `"say ""a""" ""`},
		{[]words.Field{bareField(long), quotedField(long)}, long + ` "` + long + `"`},
		{slices.Repeat([]words.Field{bareField("!")}, 64), "!" + strings.Repeat(" !", 63)},
	} {
		if s, e := words.Join(x.l); s != x.want || e != api.OK {
			t.Errorf("Join(%v): %q, %d, want %q", x.l, s, e, x.want)
		}
	}
}

func TestP1_6JoinErrors(t *testing.T) {
	for _, f := range []words.Field{bareField(""), bareField(" "), bareField("a b"), bareField(`"`), bareField(`a"b`), bareField(`"a"`), bareField("a\n"), bareField("\x7f"), bareField("é"), bareField(strings.Repeat("x", 201)), quotedField("a\n"), quotedField("\x1f"), quotedField("é"), quotedField(strings.Repeat("x", 201))} {
		for _, l := range [][]words.Field{{f}, {bareField("a"), f}, {f, quotedField("a")}} {
			if s, e := words.Join(l); s != "" || e != api.ErrArg {
				t.Errorf("Join(%.40v): %q, %d", l, s, e)
			}
		}
	}
	x := bareField("x")
	wide := slices.Repeat([]words.Field{bareField(strings.Repeat("w", 200))}, 20) // 4019 bytes
	quotes := slices.Repeat([]words.Field{quotedField(strings.Repeat(`"`, 200))}, 10)
	for _, y := range []struct {
		name string
		l    []words.Field
		size int
		e    api.Errno
	}{
		{"64 fields", slices.Repeat([]words.Field{x}, 64), 127, api.OK},
		{"65 fields", slices.Repeat([]words.Field{x}, 65), 0, api.ErrLong},
		{"65 elements, one no field", append(slices.Repeat([]words.Field{x}, 64), bareField("")), 0, api.ErrLong},
		{"4096 bytes", append(wide[:20:20], bareField(strings.Repeat("c", 76))), 4096, api.OK},
		{"4097 bytes", append(wide[:20:20], bareField(strings.Repeat("c", 77))), 0, api.ErrLong},
		{"4096 bytes, quoted", append(wide[:20:20], quotedField(strings.Repeat("c", 74))), 4096, api.OK},
		{"4097 bytes, quoted", append(wide[:20:20], quotedField(strings.Repeat("c", 75))), 0, api.ErrLong},
		{"4029 bytes of doubled quotes", quotes, 4029, api.OK},
		{"4097 bytes with doubled quotes", append(quotes[:10:10], bareField(strings.Repeat("c", 67))), 0, api.ErrLong},
		{"over 4096 bytes, one no field", append(slices.Repeat(wide, 2), bareField("")), 0, api.ErrArg},
		{"over 4096 bytes, one no field at the start", append([]words.Field{quotedField("\n")}, slices.Repeat(wide, 2)...), 0, api.ErrArg},
	} {
		if s, e := words.Join(y.l); len(s) != y.size || e != y.e {
			t.Errorf("Join, %s: %d bytes, %d, want %d, %d", y.name, len(s), e, y.size, y.e)
		}
	}
}

// P1.6 and P1.8: what is a line, and that Join and Split are inverse.
func TestP1_8JoinSplit(t *testing.T) {
	for line := range strs("\"a ", 9) {
		l, e := words.Split(line)
		if (e == api.OK) != lineForm.MatchString(line) || e != api.OK && (len(l) != 0 || e != api.ErrForm) {
			t.Errorf("Split(%q): %v, %d", line, l, e)
		}
		if back, e2 := words.Join(l); e == api.OK && (back != line || e2 != api.OK) {
			t.Errorf("Join of Split(%q): %q, %d", line, back, e2)
		}
	}
}

func TestP1_8SplitJoin(t *testing.T) {
	rng := source()
	field := func() words.Field {
		alphabet, quoted := "a!~#\\'", rng.UintN(2) == 0
		b := make([]byte, 1+rng.UintN(12))
		if quoted {
			alphabet += ` "" ""`
			b = b[1:]
		}
		for i := range b {
			b[i] = alphabet[rng.UintN(uint(len(alphabet)))]
		}
		return words.Field{Quoted: quoted, S: string(b)}
	}
	for n := range 65 {
		for range 20 {
			var l []words.Field
			for range n {
				l = append(l, field())
			}
			line, e1 := words.Join(l)
			if back, e2 := words.Split(line); e1 != api.OK || e2 != api.OK || !slices.Equal(back, l) {
				t.Errorf("Split of Join(%v) = %q: %d, %v, %d", l, line, e1, back, e2)
			}
		}
	}
}
