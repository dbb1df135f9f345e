package bits

import (
	"iter"

	"polder/api"
)

// maxOrder is the order of the block that is all bits, if there are as many as there may be.
const maxOrder = 12

// Runs returns the runs of set bits (clear ones, if on is false), ascending.
func Runs(b api.BtBits, on bool) ([]api.BtRun, api.Errno) {
	if e := Check(b); e != api.OK {
		return nil, e
	}
	var list []api.BtRun
	for r := range runs(b, 0, on) {
		list = append(list, r)
	}
	return list, api.OK
}

// Fit returns the first place, at from or after it, where size clear bits begin, one after the other.
func Fit(b api.BtBits, size, from int) (int, api.Errno) {
	if e := Check(b); e != api.OK {
		return 0, e
	}
	if size < 1 {
		return 0, api.ErrArg
	}
	if from < 0 || from > b.N {
		return 0, api.ErrRange
	}
	for r := range runs(b, from, false) {
		if r.To-r.From >= size {
			return r.From, api.OK
		}
	}
	return 0, api.ErrNone
}

// Best returns where the shortest run of clear bits begins that has size bits at least, the first one of several.
func Best(b api.BtBits, size int) (int, api.Errno) {
	if e := Check(b); e != api.OK {
		return 0, e
	}
	if size < 1 {
		return 0, api.ErrArg
	}
	best, least := 0, b.N+1
	for r := range runs(b, 0, false) {
		if n := r.To - r.From; n >= size && n < least {
			best, least = r.From, n
		}
	}
	if least > b.N {
		return 0, api.ErrNone
	}
	return best, api.OK
}

// Block returns where the first block of this order begins whose bits are clear.
func Block(b api.BtBits, order int) (int, api.Errno) {
	if e := Check(b); e != api.OK {
		return 0, e
	}
	if order < 0 || order > maxOrder {
		return 0, api.ErrRange
	}
	n := 1 << order
blocks:
	for from := 0; from+n <= b.N; from += n {
		for w := from / wordBits; w*wordBits < from+n; w++ {
			if b.Words[w]&mask(w, from, from+n) != 0 {
				continue blocks
			}
		}
		return from, api.OK
	}
	return 0, api.ErrNone
}

// runs yields the runs of set bits (clear ones, if on is false) from from on, ascending; the first one begins at from if this bit is one of them.
func runs(b api.BtBits, from int, on bool) iter.Seq[api.BtRun] {
	return func(yield func(api.BtRun) bool) {
		for begin := next(b, from, on); begin < b.N; {
			end := next(b, begin, !on)
			if !yield(api.BtRun{From: begin, To: end}) {
				return
			}
			begin = next(b, end, on)
		}
	}
}
