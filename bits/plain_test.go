package bits_test

import (
	"math"
	"math/rand/v2"
	"slices"
	"testing"

	"polder/api"
	"polder/bits"
)

// plain is bits as a list, in which everything is found bit by bit.
type plain []bool

func (p plain) packed() api.BtBits {
	words := make([]uint64, (len(p)+63)/64)
	for i, is := range p {
		if is {
			words[i/64] |= 1 << (i % 64)
		}
	}
	return api.BtBits{N: len(p), Words: words}
}

func (p plain) set(from, to int, on bool) plain {
	q := slices.Clone(p)
	for i := from; i < to; i++ {
		q[i] = on
	}
	return q
}

func (p plain) count(from, to int, on bool) int {
	n := 0
	for i := from; i < to; i++ {
		if p[i] == on {
			n++
		}
	}
	return n
}

// found is what a search returns.
type found struct {
	at int
	e  api.Errno
}

func search(at int, e api.Errno) found { return found{at, e} }

func (p plain) sel(k int, on bool) found {
	if k < 0 {
		return found{0, api.ErrRange}
	}
	for i := range p {
		if p[i] == on {
			if k == 0 {
				return found{i, api.OK}
			}
			k--
		}
	}
	return found{0, api.ErrNone}
}

func (p plain) next(from int, on bool) found {
	if from < 0 || from > len(p) {
		return found{0, api.ErrRange}
	}
	for i := from; i < len(p); i++ {
		if p[i] == on {
			return found{i, api.OK}
		}
	}
	return found{0, api.ErrNone}
}

func (p plain) last(to int, on bool) found {
	if to < 0 || to > len(p) {
		return found{0, api.ErrRange}
	}
	for i := to - 1; i >= 0; i-- {
		if p[i] == on {
			return found{i, api.OK}
		}
	}
	return found{0, api.ErrNone}
}

func (p plain) runs(on bool) []api.BtRun {
	var list []api.BtRun
	for i := range p {
		if p[i] == on && (i == 0 || p[i-1] != on) {
			end := i
			for end < len(p) && p[end] == on {
				end++
			}
			list = append(list, api.BtRun{From: i, To: end})
		}
	}
	return list
}

// isClear reports whether the n bits from at on are there, and clear.
func (p plain) isClear(at, n int) bool {
	return n <= len(p)-at && !slices.Contains(p[at:at+n], true)
}

func (p plain) fit(size, from int) found {
	if size < 1 {
		return found{0, api.ErrArg}
	}
	if from < 0 || from > len(p) {
		return found{0, api.ErrRange}
	}
	for i := from; i < len(p); i++ {
		if p.isClear(i, size) {
			return found{i, api.OK}
		}
	}
	return found{0, api.ErrNone}
}

func (p plain) best(size int) found {
	if size < 1 {
		return found{0, api.ErrArg}
	}
	list := p.runs(false)
	list = slices.DeleteFunc(list, func(r api.BtRun) bool { return r.To-r.From < size })
	if len(list) == 0 {
		return found{0, api.ErrNone}
	}
	least := slices.MinFunc(list, func(a, b api.BtRun) int { return a.To - a.From - (b.To - b.From) })
	return found{least.From, api.OK}
}

func (p plain) block(order int) found {
	if order < 0 || order > 12 {
		return found{0, api.ErrRange}
	}
	for i := range p {
		if i%(1<<order) == 0 && p.isClear(i, 1<<order) {
			return found{i, api.OK}
		}
	}
	return found{0, api.ErrNone}
}

// equal reports whether two bits are the same; a list of words may be nil or empty.
func equal(a, b api.BtBits) bool { return a.N == b.N && slices.Equal(a.Words, b.Words) }

func isZero(b api.BtBits) bool { return b.N == 0 && len(b.Words) == 0 }

func source() *rand.Rand { return rand.New(rand.NewPCG(2, 2)) }

// short yields all lists of at most n bits.
func short(n int) func(yield func(plain) bool) {
	return func(yield func(plain) bool) {
		for length := range n + 1 {
			for number := range 1 << length {
				p := make(plain, length)
				for i := range p {
					p[i] = number>>i&1 == 1
				}
				if !yield(p) {
					return
				}
			}
		}
	}
}

// lengths are numbers of bits at the ends of words.
func lengths() []int { return []int{1, 63, 64, 65, 127, 128, 129, 191, 192, 200, 256, 320} }

// wide yields lists of bits that have several words: uniform ones, ones with a single other bit, and ones with runs of random lengths.
func wide(lengths ...int) func(yield func(plain) bool) {
	return func(yield func(plain) bool) {
		r := source()
		for _, n := range lengths {
			var all []plain
			for _, on := range []bool{false, true} {
				all = append(all, make(plain, n).set(0, n, on))
				for _, i := range []int{0, 1, 62, 63, 64, 65, 127, 128, n - 2, n - 1} {
					if i >= 0 && i < n {
						all = append(all, make(plain, n).set(0, n, on).set(i, i+1, !on))
					}
				}
			}
			for _, longest := range []int{1, 2, 5, 40, 70, 150} {
				all = append(all, random(r, n, longest), random(r, n, longest))
			}
			for _, p := range all {
				if !yield(p) {
					return
				}
			}
		}
	}
}

// random returns n bits whose runs have at most so many bits as stated.
func random(r *rand.Rand, n, longest int) plain {
	p := make(plain, n)
	on := r.IntN(2) == 0
	for i := 0; i < n; on = !on {
		for range 1 + r.IntN(longest) {
			if i < n {
				p[i] = on
				i++
			}
		}
	}
	return p
}

// places are numbers of bits to ask for: all of a short list, those at the ends of the words of a long one, and ones that are out of range.
func places(n int) []int {
	list := []int{math.MinInt, math.MinInt + 1, -65, -64, -2, -1, n + 1, n + 2, n + 64, math.MaxInt - 1, math.MaxInt}
	if n < 20 {
		for i := range n + 1 {
			list = append(list, i)
		}
		return list
	}
	for i := 0; i <= n; i += 64 {
		for _, j := range []int{i - 2, i - 1, i, i + 1, i + 2, i + 31} {
			if j >= 0 && j <= n {
				list = append(list, j)
			}
		}
	}
	list = append(list, n-1, n)
	slices.Sort(list)
	return slices.Compact(list)
}

// invalid are bits that are not valid, with the error of Check.
func invalid() []struct {
	b api.BtBits
	e api.Errno
} {
	return []struct {
		b api.BtBits
		e api.Errno
	}{
		{api.BtBits{N: -1}, api.ErrRange},
		{api.BtBits{N: -64}, api.ErrRange},
		{api.BtBits{N: -1, Words: []uint64{0}}, api.ErrRange},
		{api.BtBits{N: math.MinInt}, api.ErrRange},
		{api.BtBits{N: 4097, Words: make([]uint64, 65)}, api.ErrRange},
		{api.BtBits{N: 4097}, api.ErrRange},
		{api.BtBits{N: math.MaxInt}, api.ErrRange},
		{api.BtBits{N: 0, Words: []uint64{0}}, api.ErrForm},
		{api.BtBits{N: 1}, api.ErrForm},
		{api.BtBits{N: 10, Words: []uint64{}}, api.ErrForm},
		{api.BtBits{N: 10, Words: []uint64{0, 0}}, api.ErrForm},
		{api.BtBits{N: 64}, api.ErrForm},
		{api.BtBits{N: 64, Words: []uint64{0, 0}}, api.ErrForm},
		{api.BtBits{N: 65, Words: []uint64{0}}, api.ErrForm},
		{api.BtBits{N: 128, Words: []uint64{0}}, api.ErrForm},
		{api.BtBits{N: 4096, Words: make([]uint64, 63)}, api.ErrForm},
		{api.BtBits{N: 4096, Words: make([]uint64, 65)}, api.ErrForm},
		{api.BtBits{N: 1, Words: []uint64{2}}, api.ErrForm},
		{api.BtBits{N: 1, Words: []uint64{3}}, api.ErrForm},
		{api.BtBits{N: 10, Words: []uint64{1 << 10}}, api.ErrForm},
		{api.BtBits{N: 10, Words: []uint64{1 << 63}}, api.ErrForm},
		{api.BtBits{N: 63, Words: []uint64{1 << 63}}, api.ErrForm},
		{api.BtBits{N: 65, Words: []uint64{0, 2}}, api.ErrForm},
		{api.BtBits{N: 127, Words: []uint64{0, 1 << 63}}, api.ErrForm},
		{api.BtBits{N: 130, Words: []uint64{math.MaxUint64, 0, 4}}, api.ErrForm},
	}
}

// refusals calls every function with b, and otherwise with arguments that are not valid either; each must return the error e, and nothing else.
func refusals(t *testing.T, b api.BtBits, e api.Errno) {
	t.Helper()
	if got := bits.Check(b); got != e {
		t.Errorf("Check(%v): %d, want %d", b, got, e)
	}
	for name, f := range map[string]func(int) (int, api.Errno){
		"Get": func(i int) (int, api.Errno) {
			is, e := bits.Get(b, i)
			if is {
				t.Errorf("Get(%v, %d) is set beside an error", b, i)
			}
			return 0, e
		},
		"Count":  func(i int) (int, api.Errno) { return bits.Count(b, i, -i) },
		"Select": func(i int) (int, api.Errno) { return bits.Select(b, i, i > 0) },
		"Next":   func(i int) (int, api.Errno) { return bits.Next(b, i, i > 0) },
		"Last":   func(i int) (int, api.Errno) { return bits.Last(b, i, i > 0) },
		"Fit":    func(i int) (int, api.Errno) { return bits.Fit(b, i, -i) },
		"Best":   func(i int) (int, api.Errno) { return bits.Best(b, i) },
		"Block":  func(i int) (int, api.Errno) { return bits.Block(b, i) },
		"Runs": func(i int) (int, api.Errno) {
			l, e := bits.Runs(b, i > 0)
			return len(l), e
		},
	} {
		for _, i := range []int{0, 1, -1, 9, 5000} {
			if got, ge := f(i); got != 0 || ge != e {
				t.Errorf("%s of %v with %d: %d, %d, want the error %d", name, b, i, got, ge, e)
			}
		}
	}
	for name, f := range map[string]func(int) (api.BtBits, api.Errno){
		"Set":  func(i int) (api.BtBits, api.Errno) { return bits.Set(b, i, -i, true) },
		"Flip": func(i int) (api.BtBits, api.Errno) { return bits.Flip(b) },
	} {
		for _, i := range []int{0, 1, -1, 9, 5000} {
			if got, ge := f(i); !isZero(got) || ge != e {
				t.Errorf("%s of %v with %d: %v, %d, want the error %d", name, b, i, got, ge, e)
			}
		}
	}
}
