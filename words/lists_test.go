package words_test

import (
	"math/big"
	"regexp"
	"slices"
	"strconv"
	"strings"
	"testing"

	"polder/api"
	"polder/words"
)

// count returns the n numbers from first on, step apart.
func count(first, step, n int) []int {
	l := make([]int, n)
	for i := range l {
		l[i] = first + i*step
	}
	return l
}

// expressions calls see with every list expression of l that begins with start, tried item by item.
func expressions(start string, l []int, see func(string)) {
	if len(l) == 0 {
		see(start)
		return
	}
	if start != "" {
		start += ","
	}
	n := strconv.Itoa(l[0])
	expressions(start+n, l[1:], see)
	for k := 2; k <= len(l); k++ {
		if slices.Equal(l[:k], count(l[0], 1, k)) {
			expressions(start+n+"-"+strconv.Itoa(l[k-1]), l[k:], see)
		}
		if slices.Equal(l[:k], count(l[0], 0, k)) {
			expressions(start+strconv.Itoa(k)+"x"+n, l[k:], see)
		}
	}
}

// shortest is the canonical expression by its definition.
func shortest(l []int) string {
	best, some := "", false
	expressions("", l, func(s string) {
		if !some || len(s) < len(best) || len(s) == len(best) && s < best {
			best, some = s, true
		}
	})
	return best
}

// lists yields every list over the alphabet with at most n numbers.
func lists(alphabet []int, n int) func(yield func([]int) bool) {
	letters := "abcdefghijklmnop"[:len(alphabet)]
	return func(yield func([]int) bool) {
		for s := range strs(letters, n) {
			var l []int
			for i := range len(s) {
				l = append(l, alphabet[s[i]-'a'])
			}
			if !yield(l) {
				return
			}
		}
	}
}

// alphabets are numbers near those at which the lengths of items change.
var alphabets = [][]int{{0, 1, 2, 3}, {8, 9, 10, 11}, {9, 10, 99, 100}, {999, 1000, 1001}, {2, 22, 3, 23}, {9997, 9998, 9999, 0}}

// P1.3

func TestP1_3List(t *testing.T) {
	for _, x := range []struct {
		l    []int
		want string
	}{
		{[]int{1, 2, 3, 7}, "1-3,7"},
		{[]int{4, 4, 4, 4}, "4x4"},
		{[]int{1, 2}, "1,2"},
		{[]int{10, 10}, "2x10"},
		{[]int{0, 0}, "0,0"},
		{[]int{1, 2, 3, 3, 3}, "1,2,3x3"},
		{nil, ""},
		{[]int{0}, "0"},
		{[]int{9999}, "9999"},
		{[]int{3, 2, 1}, "3,2,1"},
		{[]int{2, 2}, "2,2"},
		{[]int{3, 3}, "2x3"},
		{[]int{9, 10}, "9,10"},
		{[]int{10, 11}, "10,11"},
		{[]int{10, 11, 12}, "10-12"},
		{[]int{0, 1, 2, 2}, "0-2,2"},
		{[]int{3, 3, 4, 5}, "3,3-5"},
		{[]int{5, 5, 5, 6, 7}, "2x5,5-7"},
		{count(0, 0, 500), "500x0"},
		{count(9999, 0, 500), "500x9999"},
		{count(0, 1, 500), "0-499"},
		{count(9500, 1, 500), "9500-9999"},
		{append(count(0, 1, 250), count(0, 1, 250)...), "0-249,0-249"},
	} {
		if s, e := words.List(x.l); s != x.want || e != api.OK {
			t.Errorf("List(%v): %q, %d, want %q", x.l, s, e, x.want)
		}
	}
}

func TestP1_3ListErrors(t *testing.T) {
	for _, x := range []struct {
		name string
		l    []int
		e    api.Errno
	}{
		{"10000", []int{10000}, api.ErrRange},
		{"-1", []int{-1}, api.ErrRange},
		{"5, 10000", []int{5, 10000}, api.ErrRange},
		{"9998 to 10000", []int{9998, 9999, 10000}, api.ErrRange},
		{"500 numbers and 10000", append(count(0, 0, 499), 10000), api.ErrRange},
		{"501 numbers", count(0, 0, 501), api.ErrLong},
		{"501 numbers and -1", append(count(0, 0, 500), -1), api.ErrLong},
		{"4000 numbers", count(0, 1, 4000), api.ErrLong},
	} {
		if s, e := words.List(x.l); s != "" || e != x.e {
			t.Errorf("List, %s: %q, %d, want %d", x.name, s, e, x.e)
		}
	}
}

// TestP1_3Canonical compares List with the shortest and first of all expressions.
func TestP1_3Canonical(t *testing.T) {
	for _, alphabet := range alphabets {
		for l := range lists(alphabet, 6) {
			if s, e := words.List(l); s != shortest(l) || e != api.OK {
				t.Errorf("List(%v): %q, %d, want %q", l, s, e, shortest(l))
			}
		}
	}
	for n := 7; n <= 11; n++ { // counts of one and of two digits
		for _, first := range []int{1, 5, 9, 10, 99, 995} {
			for _, l := range [][]int{
				count(first, 0, n),
				count(first, 1, n),
				append(count(first, 0, n-2), first+1, first+2),
				append(count(first-1, 1, 2), count(first, 0, n-2)...),
			} {
				if s, e := words.List(l); s != shortest(l) || e != api.OK {
					t.Errorf("List(%v): %q, %d, want %q", l, s, e, shortest(l))
				}
			}
		}
	}
}

func TestP1_3ParseList(t *testing.T) {
	for _, x := range []struct {
		s    string
		want []int
	}{
		{"", nil},
		{"0", []int{0}},
		{"9999", []int{9999}},
		{"5-7,2x9", []int{5, 6, 7, 9, 9}},
		{"1-3,7", []int{1, 2, 3, 7}},
		{"1-2", []int{1, 2}},
		{"2x0", []int{0, 0}},
		{"0-1", []int{0, 1}},
		{"9-10", []int{9, 10}},
		{"3x12,12", []int{12, 12, 12, 12}},
		{"3,2,1", []int{3, 2, 1}},
		{"500x7", count(7, 0, 500)},
		{"0-499", count(0, 1, 500)},
		{"9500-9999", count(9500, 1, 500)},
		{"499x1,1", count(1, 0, 500)},
	} {
		if l, e := words.ParseList(x.s); !slices.Equal(l, x.want) || e != api.OK {
			t.Errorf("ParseList(%q): %v, %d, want %v", x.s, l, e, x.want)
		}
	}
}

func TestP1_3ParseListErrors(t *testing.T) {
	huge := strings.Repeat("9", 40)
	for want, texts := range map[api.Errno][]string{
		api.ErrForm: {",", "1,", ",1", "1,,2", "3-3", "4-3", "10-9", "1x4", "0x4", "01", "00", "1,02", "2x01", "02x1", "01-2", "1-02", "-1", "1-", "-", "1--2", "1-2-3", "x", "x1", "2x", "1x", "2x3x4", "2x1-3", "1-2x3", "+1", " 1", "1 ", "1, 2", "a", "1;2", "2X1", "2*1", "1\n", "\x00", "1.5",
			huge + "-" + huge, huge + "9-" + huge, huge + "0-" + huge + "0", "10000,", "501x0,", "501x0,1x1", "0-9999,a", "9-10000,3-3", strings.Repeat(",", 2500), strings.Repeat("1,", 1250)},
		api.ErrRange: {"10000", "0,10000", "9998-10000", "2x10000", "10000-10001", "501x10000", "501x0,10000", "10000,501x0", "0-9999,10000", huge, "0-" + huge, huge + "-" + huge + "0", "2x" + huge, huge + "x" + huge, strings.Repeat("1", 2500)},
		api.ErrLong:  {"501x0", "0-500", "0-9999", "9499-9999", "250x1,251x2", "500x1,2", "1,500x2", "10000x0", huge + "x1", huge + "x9999", "18446744073709551617x1", "4294967297x1,2", strings.Repeat("1", 2501), strings.Repeat("1,", 1250) + "1", strings.Repeat("1,", 500) + "1", strings.Repeat(",", 2501), strings.Repeat("9999x9999,", 240) + "1"},
	} {
		for _, s := range texts {
			if l, e := words.ParseList(s); len(l) != 0 || e != want {
				t.Errorf("ParseList(%.60q): %v, %d, want %d", s, l, e, want)
			}
		}
	}
	if l, e := words.ParseList(strings.Repeat("1", 1999) + "-" + strings.Repeat("2", 500)); len(l) != 0 || e != api.ErrForm {
		t.Errorf("ParseList of 2500 bytes: %v, %d", l, e)
	}
}

var itemForm = regexp.MustCompile(`^(?:(0|[1-9][0-9]*)|(0|[1-9][0-9]*)-(0|[1-9][0-9]*)|(0|[1-9][0-9]*)x(0|[1-9][0-9]*))$`)

func number(s string) *big.Int {
	n, _ := new(big.Int).SetString(s, 10)
	return n
}

// parse is ParseList by its definition, with numbers of any size.
func parse(s string) ([]int, api.Errno) {
	if s == "" {
		return nil, api.OK
	}
	var l []int
	tooGreat, tooMany := false, false
	for _, text := range strings.Split(s, ",") {
		m := itemForm.FindStringSubmatch(text)
		if m == nil {
			return nil, api.ErrForm
		}
		from, to, times := number(m[1]+m[2]+m[5]), number(m[1]+m[3]+m[5]), big.NewInt(1)
		if m[4] != "" {
			times = number(m[4])
		}
		if m[3] != "" && from.Cmp(to) >= 0 || m[4] != "" && times.Cmp(big.NewInt(2)) < 0 {
			return nil, api.ErrForm
		}
		tooGreat = tooGreat || to.Cmp(big.NewInt(9999)) > 0
		tooMany = tooMany || times.Cmp(big.NewInt(500)) > 0
		if tooGreat || tooMany {
			continue
		}
		for n := from.Int64(); n <= to.Int64(); n++ {
			l = append(l, slices.Repeat([]int{int(n)}, int(times.Int64()))...)
		}
	}
	if tooGreat {
		return nil, api.ErrRange
	}
	if tooMany || len(l) > 500 {
		return nil, api.ErrLong
	}
	return l, api.OK
}

// randomExpression writes a few items, most of them valid.
func randomExpression() func() string {
	rng := source()
	part := func() string {
		return []string{"0", "1", "2", "3", "4", "9", "10", "11", "12", "99", "100", "250", "499", "500", "501", "9499", "9998", "9999", "10000", "10001", "99999999999999999999", "01", "", "a"}[min(int(rng.UintN(24)), int(rng.UintN(24)))]
	}
	return func() string {
		var texts []string
		for range rng.UintN(5) {
			texts = append(texts, part()+[]string{"", "-" + part(), "x" + part()}[rng.UintN(3)])
		}
		return strings.Join(texts, ",")
	}
}

func TestP1_3ParseListCompared(t *testing.T) {
	check := func(s string) {
		want, wantE := parse(s)
		if l, e := words.ParseList(s); !slices.Equal(l, want) || e != wantE {
			t.Errorf("ParseList(%q): %v, %d, want %v, %d", s, l, e, want, wantE)
		}
	}
	for s := range strs("0129,-x", 6) {
		check(s)
	}
	expression := randomExpression()
	for range 20000 {
		check(expression())
	}
}

// P1.8

func TestP1_8ParseListList(t *testing.T) {
	check := func(l []int) {
		s, e1 := words.List(l)
		back, e2 := words.ParseList(s)
		if e1 != api.OK || e2 != api.OK || !slices.Equal(back, l) {
			t.Errorf("ParseList of List(%v) = %q: %d, %v, %d", l, s, e1, back, e2)
		}
	}
	for _, alphabet := range alphabets {
		for l := range lists(alphabet, 5) {
			check(l)
		}
	}
	rng := source()
	for n := range 501 {
		l := make([]int, n)
		for i := range l {
			l[i] = int(rng.UintN(10000))
			if i > 0 && rng.UintN(3) > 0 {
				l[i] = min(l[i-1]+int(rng.UintN(2)), 9999)
			}
		}
		check(l)
	}
	for _, step := range []int{2, -1} { // the longest expressions
		check(count(5000, step, 500))
	}
}

// P1.9

func TestP1_9NotLonger(t *testing.T) {
	check := func(s string) {
		l, e := words.ParseList(s)
		if e != api.OK {
			return
		}
		if c, e := words.List(l); e != api.OK || len(c) > len(s) || len(c) == len(s) && c > s {
			t.Errorf("List of ParseList(%q): %q, %d", s, c, e)
		}
	}
	for s := range strs("0129,-x", 5) {
		check(s)
	}
	expression := randomExpression()
	for range 2000 {
		check(expression())
	}
	for _, alphabet := range alphabets {
		for l := range lists(alphabet, 5) {
			expressions("", l, check)
		}
	}
}

// P1.10

func TestP1_10Joined(t *testing.T) {
	check := func(a, b string) {
		x, e1 := words.ParseList(a)
		y, e2 := words.ParseList(b)
		if a == "" || b == "" || e1 != api.OK || e2 != api.OK || len(x)+len(y) > 500 || len(a)+1+len(b) > 2500 {
			return
		}
		both, e := words.ParseList(a + "," + b)
		if e != api.OK || !slices.Equal(both, append(x, y...)) {
			t.Errorf("ParseList(%q + , + %q): %v, %d", a, b, both, e)
		}
		cx, _ := words.List(x)
		cy, _ := words.List(y)
		if c, e := words.List(both); e != api.OK || len(c) > len(cx)+1+len(cy) {
			t.Errorf("List of %q + , + %q: %q, %d", a, b, c, e)
		}
	}
	for a := range strs("012,-x", 3) {
		for b := range strs("012,-x", 3) {
			check(a, b)
		}
	}
	expression := randomExpression()
	for range 2000 {
		check(expression(), expression())
	}
	check("250x1", "250x1")
	check("0-248", "249-499")
	check(strings.TrimSuffix(strings.Repeat("1,", 250), ","), strings.TrimSuffix(strings.Repeat("9999,", 250), ","))
}

func TestP1_10Examples(t *testing.T) {
	for _, x := range []struct{ a, b, want string }{{"0-4", "5-9", "0-9"}, {"2x5", "3x5", "5x5"}, {"1", "2", "1,2"}, {"1,2", "3", "1-3"}, {"250x7", "250x7", "500x7"}, {"3,3", "3,4", "3x3,4"}} {
		l, e1 := words.ParseList(x.a + "," + x.b)
		if s, e2 := words.List(l); s != x.want || e1 != api.OK || e2 != api.OK {
			t.Errorf("%q and %q: %q, %d, %d, want %q", x.a, x.b, s, e1, e2, x.want)
		}
	}
}
