package words_test

import (
	"bytes"
	"encoding/hex"
	"strings"
	"testing"

	"polder/api"
	"polder/words"
)

// P1.4

func TestP1_4Hex(t *testing.T) {
	for _, x := range []struct {
		b    []byte
		want string
		e    api.Errno
	}{
		{nil, "", api.OK},
		{[]byte{0, 10, 255}, "000aff", api.OK},
		{[]byte{0x12, 0xf0, 0x0f}, "12f00f", api.OK},
		{bytes.Repeat([]byte{0xab}, 100), strings.Repeat("ab", 100), api.OK},
		{make([]byte, 101), "", api.ErrLong},
		{make([]byte, 5000), "", api.ErrLong},
	} {
		if s, e := words.Hex(x.b); s != x.want || e != x.e {
			t.Errorf("Hex(%x): %q, %d, want %q, %d", x.b, s, e, x.want, x.e)
		}
	}
	for c := range 256 {
		b := []byte{byte(c), byte(255 - c)}
		if s, e := words.Hex(b); s != hex.EncodeToString(b) || e != api.OK {
			t.Errorf("Hex(%x): %q, %d", b, s, e)
		}
	}
}

func TestP1_4ParseHex(t *testing.T) {
	for _, x := range []struct {
		s    string
		want []byte
		e    api.Errno
	}{
		{"", nil, api.OK},
		{"000aff", []byte{0, 10, 255}, api.OK},
		{"12f00f", []byte{0x12, 0xf0, 0x0f}, api.OK},
		{strings.Repeat("cd", 100), bytes.Repeat([]byte{0xcd}, 100), api.OK},
		{"0aFF", nil, api.ErrForm},
		{"0a1", nil, api.ErrForm},
		{"0", nil, api.ErrForm},
		{"0x", nil, api.ErrForm},
		{"0a 1", nil, api.ErrForm},
		{" 0a1", nil, api.ErrForm},
		{"é", nil, api.ErrForm},
		{"\x00\x00", nil, api.ErrForm},
		{strings.Repeat("0", 199), nil, api.ErrForm},
		{strings.Repeat("0", 199) + "g", nil, api.ErrForm},
		{strings.Repeat("0", 201), nil, api.ErrLong},
		{strings.Repeat("0", 202), nil, api.ErrLong},
		{strings.Repeat("x", 5000), nil, api.ErrLong},
	} {
		if b, e := words.ParseHex(x.s); !bytes.Equal(b, x.want) || e != x.e {
			t.Errorf("ParseHex(%.30q): %x, %d, want %x, %d", x.s, b, e, x.want, x.e)
		}
	}
}

// TestP1_4AllPairs tries every pair of bytes as the digits of one.
func TestP1_4AllPairs(t *testing.T) {
	const digits = "0123456789abcdef"
	for c := range 1 << 16 {
		s := string([]byte{byte(c >> 8), byte(c)})
		high, low := strings.IndexByte(digits, s[0]), strings.IndexByte(digits, s[1])
		b, e := words.ParseHex(s)
		if high < 0 || low < 0 {
			if len(b) != 0 || e != api.ErrForm {
				t.Errorf("ParseHex(%q): %x, %d", s, b, e)
			}
		} else if len(b) != 1 || int(b[0]) != 16*high+low || e != api.OK {
			t.Errorf("ParseHex(%q): %x, %d", s, b, e)
		}
	}
}

// P1.8

func TestP1_8ParseHexHex(t *testing.T) {
	rng := source()
	for n := range 101 {
		b := make([]byte, n)
		for i := range b {
			b[i] = byte(rng.UintN(256))
		}
		s, e1 := words.Hex(b)
		back, e2 := words.ParseHex(s)
		if e1 != api.OK || e2 != api.OK || !bytes.Equal(back, b) {
			t.Errorf("ParseHex of Hex(%x) = %q: %d, %x, %d", b, s, e1, back, e2)
		}
	}
	for s := range strs("09afAg", 6) {
		b, e := words.ParseHex(s)
		if e != api.OK {
			continue
		}
		if back, e := words.Hex(b); back != s || e != api.OK {
			t.Errorf("Hex of ParseHex(%q): %q, %d", s, back, e)
		}
	}
}
