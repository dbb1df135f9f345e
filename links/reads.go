package links

import (
	"iter"

	"polder/api"
)

// Get returns the value of a slot.
func (p *Pool[T]) Get(slot int) (v T, e api.Errno) {
	if e := p.checkSlot(slot); e != api.OK {
		return v, e
	}
	return p.state.Values[slot], api.OK
}

// Put sets the value of a slot.
func (p *Pool[T]) Put(slot int, v T) api.Errno {
	if e := p.checkSlot(slot); e != api.OK {
		return e
	}
	p.state.Values[slot] = v
	return api.OK
}

// Where returns the list in which a slot is.
func (p *Pool[T]) Where(slot int) (list int, e api.Errno) {
	if e := p.checkSlot(slot); e != api.OK {
		return 0, e
	}
	return p.state.List[slot], api.OK
}

// End returns the first slot of a list if front, or the last one.
func (p *Pool[T]) End(list int, front bool) (slot int, e api.Errno) {
	if e := p.checkList(list); e != api.OK {
		return 0, e
	}
	slot = p.end(list, front)
	if slot == none {
		return 0, api.ErrNone
	}
	return slot, api.OK
}

// Step returns the slot after a slot, or the one before it if back is set.
func (p *Pool[T]) Step(slot int, back bool) (next int, e api.Errno) {
	if e := p.checkSlot(slot); e != api.OK {
		return 0, e
	}
	next = p.step(slot, back)
	if next == none {
		return 0, api.ErrDown
	}
	return next, api.OK
}

// Len returns how many slots are in a list.
func (p *Pool[T]) Len(list int) (int, api.Errno) {
	if e := p.checkList(list); e != api.OK {
		return 0, e
	}
	n := 0
	for range p.All(list, false) {
		n++
	}
	return n, api.OK
}

// All yields the slots of a list with their values, from the first to the last one, or the other way round if back is set. The one that is yielded may be taken out, moved or changed.
func (p *Pool[T]) All(list int, back bool) iter.Seq2[int, T] {
	return func(yield func(int, T) bool) {
		if p.checkList(list) != api.OK {
			return
		}
		slot := p.end(list, !back)
		// The caller may have taken out the slot that was found to come next, too.
		for slot != none && p.state.List[slot] == list {
			next := p.step(slot, back)
			if !yield(slot, p.state.Values[slot]) {
				return
			}
			slot = next
		}
	}
}

// end returns the first slot of a list if front, or the last one, or none.
func (p *Pool[T]) end(list int, front bool) int {
	if front {
		return p.state.First[list]
	}
	return p.state.Last[list]
}

// step returns the slot after a slot, or the one before it if back is set, or none.
func (p *Pool[T]) step(slot int, back bool) int {
	if back {
		return p.state.Prev[slot]
	}
	return p.state.Next[slot]
}
