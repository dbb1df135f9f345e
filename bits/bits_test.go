package bits_test

import (
	"math"
	"slices"
	"testing"

	"polder/api"
	"polder/bits"
)

// example is the bits of the chapter's examples.
func example() api.BtBits { return api.BtBits{N: 10, Words: []uint64{531}} }

// P2.1

func TestP2_1Check(t *testing.T) {
	for p := range short(8) {
		if e := bits.Check(p.packed()); e != api.OK {
			t.Errorf("Check(%v): %d", p.packed(), e)
		}
	}
	for p := range wide(append(lengths(), 4095, 4096)...) {
		if e := bits.Check(p.packed()); e != api.OK {
			t.Errorf("Check of %d bits: %d", len(p), e)
		}
	}
	for _, words := range [][]uint64{nil, {}} {
		if e := bits.Check(api.BtBits{Words: words}); e != api.OK {
			t.Errorf("Check of no bits: %d", e)
		}
	}
}

func TestP2_1CheckInvalid(t *testing.T) {
	for _, c := range invalid() {
		if e := bits.Check(c.b); e != c.e {
			t.Errorf("Check(%v): %d, want %d", c.b, e, c.e)
		}
	}
}

// Each bit of the last word from N on must be clear, and each one below N may be set.
func TestP2_1CheckLastWord(t *testing.T) {
	for n := 1; n <= 192; n++ {
		for i := range 64 {
			words := make([]uint64, (n+63)/64)
			words[len(words)-1] = 1 << i
			want := api.OK
			if (len(words)-1)*64+i >= n {
				want = api.ErrForm
			}
			if e := bits.Check(api.BtBits{N: n, Words: words}); e != want {
				t.Errorf("Check of %d bits with %d of the last word: %d, want %d", n, i, e, want)
			}
		}
	}
}

func TestP2_1New(t *testing.T) {
	for n := -70; n <= 4200; n++ {
		for _, on := range []bool{false, true} {
			b, e := bits.New(n, on)
			if n < 0 || n > 4096 {
				if e != api.ErrRange || !isZero(b) {
					t.Errorf("New(%d, %v): %v, %d, want ErrRange", n, on, b, e)
				}
				continue
			}
			if want := make(plain, n).set(0, n, on).packed(); e != api.OK || !equal(b, want) {
				t.Errorf("New(%d, %v): %v, %d, want %v", n, on, b, e, want)
			}
		}
	}
	for _, n := range []int{math.MinInt, math.MaxInt} {
		if b, e := bits.New(n, true); e != api.ErrRange || !isZero(b) {
			t.Errorf("New(%d): %v, %d, want ErrRange", n, b, e)
		}
	}
}

func TestP2_1InvalidFirst(t *testing.T) {
	for _, c := range invalid() {
		refusals(t, c.b, c.e)
	}
}

// The error for a comes before the one for b, and both before that for different lengths.
func TestP2_1InvalidJoined(t *testing.T) {
	outside, form := api.BtBits{N: -1}, api.BtBits{N: 10}
	for name, f := range joins() {
		for _, c := range []struct {
			a, b api.BtBits
			e    api.Errno
		}{
			{outside, form, api.ErrRange}, {form, outside, api.ErrForm},
			{outside, example(), api.ErrRange}, {example(), outside, api.ErrRange},
			{form, example(), api.ErrForm}, {example(), form, api.ErrForm},
			{form, form, api.ErrForm}, {outside, outside, api.ErrRange},
			{api.BtBits{}, outside, api.ErrRange}, {form, api.BtBits{}, api.ErrForm}, {api.BtBits{}, form, api.ErrForm},
		} {
			if b, e := f(c.a, c.b); e != c.e || !isZero(b) {
				t.Errorf("%s(%v, %v): %v, %d, want the error %d", name, c.a, c.b, b, e, c.e)
			}
		}
		for _, c := range invalid() {
			if b, e := f(c.b, example()); e != c.e || !isZero(b) {
				t.Errorf("%s(%v, ..): %v, %d, want the error %d", name, c.b, b, e, c.e)
			}
			if b, e := f(example(), c.b); e != c.e || !isZero(b) {
				t.Errorf("%s(.., %v): %v, %d, want the error %d", name, c.b, b, e, c.e)
			}
		}
	}
}

// P2.2

func TestP2_2Get(t *testing.T) {
	check := func(p plain) {
		b := p.packed()
		for _, i := range places(len(p)) {
			is, e := bits.Get(b, i)
			if i < 0 || i >= len(p) {
				if is || e != api.ErrRange {
					t.Errorf("Get(%v, %d): %v, %d, want ErrRange", b, i, is, e)
				}
			} else if is != p[i] || e != api.OK {
				t.Errorf("Get(%v, %d): %v, %d, want %v", b, i, is, e, p[i])
			}
		}
	}
	each(check, 8, append(lengths(), 4095, 4096)...)
}

// each calls f with all short lists of at most n bits, and with wide ones of these lengths.
func each(f func(plain), n int, lengths ...int) {
	for p := range short(n) {
		f(p)
	}
	for p := range wide(lengths...) {
		f(p)
	}
}

func TestP2_2Set(t *testing.T) {
	check := func(p plain) {
		b := p.packed()
		for _, from := range places(len(p)) {
			for _, to := range places(len(p)) {
				for _, on := range []bool{false, true} {
					got, e := bits.Set(b, from, to, on)
					if from < 0 || from > to || to > len(p) {
						if e != api.ErrRange || !isZero(got) {
							t.Fatalf("Set(%v, %d, %d): %v, %d, want ErrRange", b, from, to, got, e)
						}
					} else if want := p.set(from, to, on).packed(); e != api.OK || !equal(got, want) {
						t.Fatalf("Set(%v, %d, %d, %v): %v, %d, want %v", b, from, to, on, got, e, want)
					}
				}
			}
		}
	}
	each(check, 6, 63, 64, 65, 128, 129, 200)
}

func TestP2_2Count(t *testing.T) {
	check := func(p plain) {
		b := p.packed()
		for _, from := range places(len(p)) {
			for _, to := range places(len(p)) {
				n, e := bits.Count(b, from, to)
				if from < 0 || from > to || to > len(p) {
					if e != api.ErrRange || n != 0 {
						t.Fatalf("Count(%v, %d, %d): %d, %d, want ErrRange", b, from, to, n, e)
					}
				} else if want := p.count(from, to, true); e != api.OK || n != want {
					t.Fatalf("Count(%v, %d, %d): %d, %d, want %d", b, from, to, n, e, want)
				}
			}
		}
	}
	each(check, 7, 63, 64, 65, 128, 129, 200)
}

// All bits there may be can be set, cleared and counted.
func TestP2_2Most(t *testing.T) {
	b, e := bits.New(4096, false)
	if e != api.OK {
		t.Fatalf("New(4096): %d", e)
	}
	b, e = bits.Set(b, 1, 4096, true)
	if e != api.OK || b.Words[0] != math.MaxUint64-1 || b.Words[63] != math.MaxUint64 {
		t.Errorf("Set(1, 4096): %v, %d", b, e)
	}
	if n, e := bits.Count(b, 0, 4096); n != 4095 || e != api.OK {
		t.Errorf("Count(0, 4096): %d, %d", n, e)
	}
	b, e = bits.Set(b, 4095, 4096, false)
	if n, e1 := bits.Count(b, 0, 4096); n != 4094 || e != api.OK || e1 != api.OK {
		t.Errorf("Count(0, 4096): %d, %d, %d", n, e, e1)
	}
	if is, e := bits.Get(b, 4094); !is || e != api.OK {
		t.Errorf("Get(4094): %v, %d", is, e)
	}
	if is, e := bits.Get(b, 4095); is || e != api.OK {
		t.Errorf("Get(4095): %v, %d", is, e)
	}
}

func TestExamples(t *testing.T) {
	b, _ := bits.New(10, false)
	for _, i := range []int{0, 1, 4, 9} {
		b, _ = bits.Set(b, i, i+1, true)
	}
	if !equal(b, example()) {
		t.Fatalf("B is %v", b)
	}
	if n, e := bits.Count(b, 1, 5); n != 2 || e != api.OK {
		t.Errorf("Count of B, 1, 5: %d, %d", n, e)
	}
	for name, c := range map[string]struct{ got, want found }{
		"Select 2, set":        {search(bits.Select(b, 2, true)), found{4, api.OK}},
		"Select 2, clear":      {search(bits.Select(b, 2, false)), found{5, api.OK}},
		"Next from 2, set":     {search(bits.Next(b, 2, true)), found{4, api.OK}},
		"Last below 4, set":    {search(bits.Last(b, 4, true)), found{1, api.OK}},
		"Next from 10, set":    {search(bits.Next(b, 10, true)), found{0, api.ErrNone}},
		"Fit of 2 from 0":      {search(bits.Fit(b, 2, 0)), found{2, api.OK}},
		"Fit of 3 from 0":      {search(bits.Fit(b, 3, 0)), found{5, api.OK}},
		"Fit of 2 from 3":      {search(bits.Fit(b, 2, 3)), found{5, api.OK}},
		"Fit of 5":             {search(bits.Fit(b, 5, 0)), found{0, api.ErrNone}},
		"Best of 2":            {search(bits.Best(b, 2)), found{2, api.OK}},
		"Block of the order 1": {search(bits.Block(b, 1)), found{2, api.OK}},
		"Block of the order 2": {search(bits.Block(b, 2)), found{0, api.ErrNone}},
	} {
		if c.got != c.want {
			t.Errorf("%s: %v, want %v", name, c.got, c.want)
		}
	}
	if l, e := bits.Runs(b, false); e != api.OK || !slices.Equal(l, []api.BtRun{{From: 2, To: 4}, {From: 5, To: 9}}) {
		t.Errorf("Runs, clear: %v, %d", l, e)
	}
	other, _ := bits.New(10, false)
	other, _ = bits.Set(other, 0, 5, true)
	if l, e := bits.Less(b, other); e != api.OK || !equal(l, api.BtBits{N: 10, Words: []uint64{512}}) {
		t.Errorf("Less of B and 0 to 4: %v, %d", l, e)
	}
}
