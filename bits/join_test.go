package bits_test

import (
	"math"
	"slices"
	"testing"

	"polder/api"
	"polder/bits"
)

func joins() map[string]func(a, b api.BtBits) (api.BtBits, api.Errno) {
	return map[string]func(a, b api.BtBits) (api.BtBits, api.Errno){"And": bits.And, "Or": bits.Or, "Less": bits.Less}
}

// joined returns what a join of two bits is.
func joined(name string, a, b bool) bool {
	switch name {
	case "And":
		return a && b
	case "Or":
		return a || b
	}
	return a && !b
}

// pairs yields all pairs of short lists with as many bits, and pairs of wide ones.
func pairs(n int) func(yield func(p, q plain) bool) {
	return func(yield func(p, q plain) bool) {
		for p := range short(n) {
			for q := range short(n) {
				if len(p) == len(q) && !yield(p, q) {
					return
				}
			}
		}
		for _, l := range []int{64, 65, 129, 4096} {
			r := source()
			for range 30 {
				if !yield(random(r, l, 9), random(r, l, 60)) {
					return
				}
			}
		}
	}
}

// P2.6

func TestP2_6Joins(t *testing.T) {
	for p, q := range pairs(5) {
		a, b := p.packed(), q.packed()
		for name, f := range joins() {
			want := make(plain, len(p))
			for i := range want {
				want[i] = joined(name, p[i], q[i])
			}
			if got, e := f(a, b); e != api.OK || !equal(got, want.packed()) {
				t.Fatalf("%s(%v, %v): %v, %d, want %v", name, a, b, got, e, want.packed())
			}
		}
	}
}

func TestP2_6OtherLengths(t *testing.T) {
	for name, f := range joins() {
		for _, c := range [][2]int{{0, 1}, {1, 0}, {10, 11}, {11, 10}, {63, 64}, {64, 65}, {65, 64}, {4095, 4096}, {4096, 0}} {
			a, b := make(plain, c[0]).packed(), make(plain, c[1]).packed()
			if got, e := f(a, b); e != api.ErrArg || !isZero(got) {
				t.Errorf("%s of %d and %d bits: %v, %d, want ErrArg", name, c[0], c[1], got, e)
			}
		}
	}
}

func TestP2_6Flip(t *testing.T) {
	each(func(p plain) {
		want := make(plain, len(p))
		for i := range want {
			want[i] = !p[i]
		}
		if got, e := bits.Flip(p.packed()); e != api.OK || !equal(got, want.packed()) {
			t.Fatalf("Flip(%v): %v, %d, want %v", p.packed(), got, e, want.packed())
		}
	}, 9, append(lengths(), 4095, 4096)...)
}

// P2.9

// must returns bits, and ends the test if there is an error beside them.
func must(t *testing.T) func(b api.BtBits, e api.Errno) api.BtBits {
	return func(b api.BtBits, e api.Errno) api.BtBits {
		t.Helper()
		if e != api.OK {
			t.Fatalf("error %d", e)
		}
		return b
	}
}

func TestP2_9Joins(t *testing.T) {
	ok := must(t)
	for p, q := range pairs(5) {
		a, b := p.packed(), q.packed()
		flipA, flipB := ok(bits.Flip(a)), ok(bits.Flip(b))
		if x, y := ok(bits.Flip(ok(bits.And(a, b)))), ok(bits.Or(flipA, flipB)); !equal(x, y) {
			t.Fatalf("%v, %v: Flip of And is %v, Or of both flipped %v", a, b, x, y)
		}
		if x, y := ok(bits.Less(a, b)), ok(bits.And(a, flipB)); !equal(x, y) {
			t.Fatalf("%v, %v: Less is %v, And with the flipped one %v", a, b, x, y)
		}
		if x := ok(bits.Flip(flipA)); !equal(x, a) {
			t.Fatalf("%v: Flip twice is %v", a, x)
		}
	}
}

func TestP2_9Set(t *testing.T) {
	ok := must(t)
	each(func(p plain) {
		b := p.packed()
		for from := 0; from <= len(p); from += 1 + len(p)/20 {
			for to := from; to <= len(p); to += 1 + len(p)/20 {
				run := make(plain, len(p)).set(from, to, true).packed()
				if x, y := ok(bits.Set(b, from, to, true)), ok(bits.Or(b, run)); !equal(x, y) {
					t.Fatalf("Set(%v, %d, %d, true) is %v, Or %v", b, from, to, x, y)
				}
				if x, y := ok(bits.Set(b, from, to, false)), ok(bits.Less(b, run)); !equal(x, y) {
					t.Fatalf("Set(%v, %d, %d, false) is %v, Less %v", b, from, to, x, y)
				}
			}
		}
	}, 5, 64, 65, 129)
}

// P2.11

// makers are the functions that return bits, as functions of two bits.
func makers() map[string]func(a, b api.BtBits) (api.BtBits, api.Errno) {
	l := joins()
	l["Flip"] = func(a, b api.BtBits) (api.BtBits, api.Errno) { return bits.Flip(a) }
	l["Set"] = func(a, b api.BtBits) (api.BtBits, api.Errno) { return bits.Set(a, 1, 2, true) }
	l["Set of no bits"] = func(a, b api.BtBits) (api.BtBits, api.Errno) { return bits.Set(a, 1, 1, true) }
	l["New"] = func(a, b api.BtBits) (api.BtBits, api.Errno) { return bits.New(a.N, true) }
	return l
}

func TestP2_11NewMemory(t *testing.T) {
	for name, f := range makers() {
		a, b := api.BtBits{N: 70, Words: []uint64{6, 3}}, api.BtBits{N: 70, Words: []uint64{0, 0}}
		first, _ := f(a, b)
		second, _ := f(a, b)
		kept := slices.Clone(first.Words)
		a.Words[0], a.Words[1], b.Words[0], b.Words[1] = 9, 0, 9, 9
		second.Words[0], second.Words[1] = 77, 0
		if !slices.Equal(first.Words, kept) {
			t.Errorf("%s: the result changed to %v from %v", name, first.Words, kept)
		}
		if a.Words[0] != 9 || b.Words[0] != 9 {
			t.Errorf("%s: the result shares memory with an argument", name)
		}
	}
	if a, _ := bits.Runs(example(), true); len(a) > 0 {
		b, _ := bits.Runs(example(), true)
		a[0].From = 5
		if b[0].From != 0 {
			t.Error("two results of Runs share memory")
		}
	}
}

// Words that lie beyond those of an argument, in the same memory, are not used and not changed.
func TestP2_11NotModified(t *testing.T) {
	beyond := func() []uint64 { return []uint64{0xf0f0, 5, math.MaxUint64, 7} }
	a, b := beyond(), beyond()
	x, y := api.BtBits{N: 70, Words: a[:2]}, api.BtBits{N: 70, Words: b[:2]}
	for name, f := range makers() {
		f(x, y)
		if !slices.Equal(a, beyond()) || !slices.Equal(b, beyond()) {
			t.Fatalf("%s changed its arguments to %v and %v", name, a, b)
		}
	}
	for _, i := range []int{0, 1, 3, 12, 70} {
		for _, on := range both() {
			bits.Get(x, i)
			bits.Count(x, 0, i)
			bits.Select(x, i, on)
			bits.Next(x, i, on)
			bits.Last(x, i, on)
			bits.Runs(x, on)
			bits.Fit(x, i, i)
			bits.Best(x, i)
			bits.Block(x, i)
		}
	}
	if bits.Check(x) != api.OK || !slices.Equal(a, beyond()) {
		t.Errorf("an argument was changed to %v", a)
	}
}

// A join of bits with themselves works on one memory.
func TestP2_11SameArguments(t *testing.T) {
	b := example()
	for name, want := range map[string]uint64{"And": 531, "Or": 531, "Less": 0} {
		got, e := joins()[name](b, b)
		if e != api.OK || !slices.Equal(got.Words, []uint64{want}) || !equal(b, example()) {
			t.Errorf("%s of B and B: %v, %d, and B is %v", name, got, e, b)
		}
	}
}

// Any arguments return: bits that are valid in no way, and numbers at the ends of their type.
func TestP2_11AnyArguments(t *testing.T) {
	r := source()
	numbers := places(100)
	number := func() int { return numbers[r.IntN(len(numbers))] }
	for range 20000 {
		b := api.BtBits{N: number(), Words: make([]uint64, r.IntN(4))}
		for w := range b.Words {
			b.Words[w] = r.Uint64() >> r.IntN(64)
		}
		valid := bits.Check(b)
		for name, e := range anyCalls(b, number) {
			if valid != api.OK && e != valid {
				t.Fatalf("%s of %v: %d, want the error of Check, %d", name, b, e, valid)
			}
		}
	}
}

// anyCalls returns the errors of calls with b and any numbers.
func anyCalls(b api.BtBits, number func() int) map[string]api.Errno {
	on := number()%2 == 0
	_, get := bits.Get(b, number())
	_, set := bits.Set(b, number(), number(), on)
	_, count := bits.Count(b, number(), number())
	_, sel := bits.Select(b, number(), on)
	_, next := bits.Next(b, number(), on)
	_, last := bits.Last(b, number(), on)
	_, runs := bits.Runs(b, on)
	_, fit := bits.Fit(b, number(), number())
	_, best := bits.Best(b, number())
	_, block := bits.Block(b, number())
	_, and := bits.And(b, b)
	_, or := bits.Or(b, b)
	_, less := bits.Less(b, b)
	_, flip := bits.Flip(b)
	return map[string]api.Errno{
		"Get": get, "Set": set, "Count": count, "Select": sel, "Next": next, "Last": last, "Runs": runs,
		"Fit": fit, "Best": best, "Block": block, "And": and, "Or": or, "Less": less, "Flip": flip,
	}
}
