package words

import (
	"iter"
	"strings"

	"polder/api"
)

// item is written for the first count numbers of a list.
type item struct {
	text  string
	count int
}

// run is what an item stands for: the numbers from first to last, each of them times times.
type run struct{ first, last, times int }

// List returns the canonical expression of l.
func List(l []int) (string, api.Errno) {
	if len(l) > api.MaxList {
		return "", api.ErrLong
	}
	for _, n := range l {
		if n < 0 || n > api.MaxListNumber {
			return "", api.ErrRange
		}
	}
	return canonical(l), api.OK
}

// ParseList returns the list that the list expression s stands for.
func ParseList(s string) ([]int, api.Errno) {
	if len(s) > api.MaxListText {
		return nil, api.ErrLong
	}
	if s == "" {
		return nil, api.OK
	}
	var runs []run
	for _, text := range strings.Split(s, ",") {
		r, ok := parseItem(text)
		if !ok {
			return nil, api.ErrForm
		}
		runs = append(runs, r)
	}
	return expand(runs)
}

// canonical goes backwards: of the expressions that begin with the same item, the first is the one with the first rest.
func canonical(l []int) string {
	best := make([]string, len(l)+1)
	for i := len(l) - 1; i >= 0; i-- {
		for it := range items(l[i:]) {
			s := it.text
			if i+it.count < len(l) {
				s += "," + best[i+it.count]
			}
			if best[i] == "" || before(s, best[i]) {
				best[i] = s
			}
		}
	}
	return best[0]
}

// items yields every item with which an expression of l can begin. l is not empty.
func items(l []int) iter.Seq[item] {
	return func(yield func(item) bool) {
		first := Digits(int64(l[0]))
		if !yield(item{first, 1}) {
			return
		}
		for n := 2; n <= len(l) && l[n-1] == l[0]+n-1; n++ {
			if !yield(item{first + "-" + Digits(int64(l[n-1])), n}) {
				return
			}
		}
		for n := 2; n <= len(l) && l[n-1] == l[0]; n++ {
			if !yield(item{Digits(int64(n)) + "x" + first, n}) {
				return
			}
		}
	}
}

func parseItem(s string) (run, bool) {
	if n, m, found := strings.Cut(s, "-"); found {
		return run{capped(n), capped(m), 1}, natural(n) && natural(m) && before(n, m)
	}
	if k, n, found := strings.Cut(s, "x"); found {
		return run{capped(n), capped(n), capped(k)}, natural(k) && natural(n) && before("1", k)
	}
	return run{capped(s), capped(s), 1}, natural(s)
}

// capped returns the number whose decimal form is s, or MaxListNumber + 1 for every greater one, because its excess is all that matters: it is too great as a number and as a count.
func capped(s string) int {
	n, e := Int(s, 0, api.MaxListNumber)
	if e != api.OK {
		return api.MaxListNumber + 1
	}
	return int(n)
}

func expand(runs []run) ([]int, api.Errno) {
	count := 0
	for _, r := range runs {
		if r.last > api.MaxListNumber {
			return nil, api.ErrRange
		}
		count += (r.last - r.first + 1) * r.times
	}
	if count > api.MaxList {
		return nil, api.ErrLong
	}
	l := make([]int, 0, count)
	for _, r := range runs {
		for n := r.first; n <= r.last; n++ {
			for range r.times {
				l = append(l, n)
			}
		}
	}
	return l, api.OK
}
