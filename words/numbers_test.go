package words_test

import (
	"math/big"
	"regexp"
	"strings"
	"testing"

	"polder/api"
	"polder/words"
)

const (
	leastInt = -1 << 63
	mostInt  = 1<<63 - 1
)

// P1.2

func TestP1_2Digits(t *testing.T) {
	for n, want := range map[int64]string{0: "0", 1: "1", -1: "-1", 9: "9", 10: "10", -10: "-10", 1000: "1000", 1000000000000: "1000000000000", mostInt: "9223372036854775807", leastInt: "-9223372036854775808"} {
		if got := words.Digits(n); got != want {
			t.Errorf("Digits(%d): %q, want %q", n, got, want)
		}
	}
}

func TestP1_2Int(t *testing.T) {
	for _, x := range []struct {
		s           string
		least, most int64
		n           int64
		e           api.Errno
	}{
		{"0", 0, 9, 0, api.OK},
		{"9", 0, 9, 9, api.OK},
		{"-3", -9, 9, -3, api.OK},
		{"10", 10, 10, 10, api.OK},
		{"9", 10, 10, 0, api.ErrRange},
		{"11", 10, 10, 0, api.ErrRange},
		{"12", 0, 9, 0, api.ErrRange},
		{"-1", 0, 9, 0, api.ErrRange},
		{"07", 0, 9, 0, api.ErrForm},
		{"00", 0, 9, 0, api.ErrForm},
		{"-0", -9, 9, 0, api.ErrForm},
		{"-01", -9, 9, 0, api.ErrForm},
		{"+1", 0, 9, 0, api.ErrForm},
		{"", 0, 9, 0, api.ErrForm},
		{"-", -9, 9, 0, api.ErrForm},
		{"--1", -9, 9, 0, api.ErrForm},
		{" 1", 0, 9, 0, api.ErrForm},
		{"1 ", 0, 9, 0, api.ErrForm},
		{"1_0", 0, 99, 0, api.ErrForm},
		{"0x1", 0, 9, 0, api.ErrForm},
		{"1.0", 0, 9, 0, api.ErrForm},
		{"1e2", 0, 999, 0, api.ErrForm},
		{"٣", 0, 9, 0, api.ErrForm},
		{"1\x00", 0, 9, 0, api.ErrForm},
		{"5", 9, 0, 0, api.ErrArg},
		{"07", 9, 0, 0, api.ErrArg},
		{"99", 9, 0, 0, api.ErrArg},
		{"9223372036854775807", leastInt, mostInt, mostInt, api.OK},
		{"9223372036854775808", leastInt, mostInt, 0, api.ErrRange},
		{"-9223372036854775808", leastInt, mostInt, leastInt, api.OK},
		{"-9223372036854775809", leastInt, mostInt, 0, api.ErrRange},
		{"18446744073709551616", 0, 9, 0, api.ErrRange},
		{strings.Repeat("1", 5000), leastInt, mostInt, 0, api.ErrRange},
		{"-" + strings.Repeat("1", 5000), leastInt, mostInt, 0, api.ErrRange},
		{strings.Repeat("1", 5000) + "a", leastInt, mostInt, 0, api.ErrForm},
		{strings.Repeat("0", 5000), leastInt, mostInt, 0, api.ErrForm},
	} {
		if n, e := words.Int(x.s, x.least, x.most); n != x.n || e != x.e {
			t.Errorf("Int(%.30q, %d, %d): %d, %d, want %d, %d", x.s, x.least, x.most, n, e, x.n, x.e)
		}
	}
}

// TestP1_2AllShort compares Int with the form and the size of every short string.
func TestP1_2AllShort(t *testing.T) {
	form := regexp.MustCompile(`^(0|-?[1-9][0-9]*)$`)
	for s := range strs("-+0179 x", 4) {
		for _, r := range [][2]int64{{leastInt, mostInt}, {-17, 100}, {0, 9}, {7, 7}} {
			var want int64
			wantE := api.OK
			if !form.MatchString(s) {
				wantE = api.ErrForm
			} else if n, _ := new(big.Int).SetString(s, 10); n.Cmp(big.NewInt(r[0])) < 0 || n.Cmp(big.NewInt(r[1])) > 0 {
				wantE = api.ErrRange
			} else {
				want = n.Int64()
			}
			if n, e := words.Int(s, r[0], r[1]); n != want || e != wantE {
				t.Errorf("Int(%q, %d, %d): %d, %d, want %d, %d", s, r[0], r[1], n, e, want, wantE)
			}
		}
	}
}

// P1.8

func TestP1_8IntDigits(t *testing.T) {
	check := func(n int64) {
		s := words.Digits(n)
		if back, e := words.Int(s, leastInt, mostInt); back != n || e != api.OK {
			t.Errorf("Int of Digits(%d) = %q: %d, %d", n, s, back, e)
		}
	}
	for n := int64(-1100); n <= 1100; n++ {
		check(n)
		check(leastInt + 1100 + n)
		check(mostInt - 1100 + n)
	}
	rng := source()
	for range 2000 {
		check(int64(rng.Uint64() >> rng.UintN(64)))
		check(-int64(rng.Uint64() >> rng.UintN(64)))
	}
}
