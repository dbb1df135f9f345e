package links

import (
	"slices"

	"polder/api"
)

// Push puts v into the least free slot, as the first one of a list if front, or the last one.
func (p *Pool[T]) Push(list int, v T, front bool) (slot int, e api.Errno) {
	if e := p.checkList(list); e != api.OK {
		return 0, e
	}
	return p.fill(list, p.before(list, front), v)
}

// After puts v into the least free slot, directly after a slot, in its list.
func (p *Pool[T]) After(slot int, v T) (next int, e api.Errno) {
	if e := p.checkSlot(slot); e != api.OK {
		return 0, e
	}
	return p.fill(p.state.List[slot], slot, v)
}

// Take frees a slot, and returns the value that it had.
func (p *Pool[T]) Take(slot int) (v T, e api.Errno) {
	if e := p.checkSlot(slot); e != api.OK {
		return v, e
	}
	v = p.state.Values[slot]
	p.wipe(slot)
	p.unlink(slot)
	return v, api.OK
}

// Move makes a slot the first one of a list if front, or the last one.
func (p *Pool[T]) Move(slot, list int, front bool) api.Errno {
	if e := p.checkSlot(slot); e != api.OK {
		return e
	}
	if e := p.checkList(list); e != api.OK {
		return e
	}
	p.unlink(slot) // first, for it may be the last one of this list
	p.link(slot, list, p.before(list, front))
	return api.OK
}

// before returns the slot after which one is the first one of a list if front, or the last one.
func (p *Pool[T]) before(list int, front bool) int {
	if front {
		return none
	}
	return p.state.Last[list]
}

// fill puts v into the least free slot, and this into a list as link does.
func (p *Pool[T]) fill(list, before int, v T) (int, api.Errno) {
	slot := slices.Index(p.state.List, none)
	if slot < 0 {
		return 0, api.ErrFull
	}
	p.state.Values[slot] = v
	p.link(slot, list, before)
	return slot, api.OK
}

// wipe gives a slot the zero value.
func (p *Pool[T]) wipe(slot int) { clear(p.state.Values[slot : slot+1]) }

// link puts a free slot into a list, directly after the slot before, or as the first one if this is none.
func (p *Pool[T]) link(slot, list, before int) {
	after := p.state.First[list]
	if before != none {
		after = p.state.Next[before]
	}
	p.state.List[slot] = list
	p.tie(list, before, slot)
	p.tie(list, slot, after)
}

// unlink takes a slot out of its list.
func (p *Pool[T]) unlink(slot int) {
	p.tie(p.state.List[slot], p.state.Prev[slot], p.state.Next[slot])
	p.state.List[slot], p.state.Prev[slot], p.state.Next[slot] = none, none, none
}

// tie makes two slots neighbours in a list; where one of them is none, the other one is at this end of the list.
func (p *Pool[T]) tie(list, before, after int) {
	if before == none {
		p.state.First[list] = after
	} else {
		p.state.Next[before] = after
	}
	if after == none {
		p.state.Last[list] = before
	} else {
		p.state.Prev[after] = before
	}
}
