package links

import "polder/api"

// Check returns what is wrong in s, if it is the state of no pool.
func Check[T any](s api.LkState[T]) (api.LkWrong, api.Errno) {
	w := firstWrong(s)
	if w != (api.LkWrong{}) {
		return w, api.ErrForm
	}
	return w, api.OK
}

// firstWrong returns what is wrong in s first, and the zero value if nothing is.
func firstWrong[T any](s api.LkState[T]) api.LkWrong {
	if !sizesFit(s) {
		return api.LkWrong{Where: api.LkSizes}
	}
	for slot := range s.List {
		if !slotFits(s, slot) {
			return api.LkWrong{Where: api.LkSlot, Index: slot}
		}
	}
	met := make([]bool, len(s.List))
	for list := range s.First {
		if !listHolds(s, list, met) {
			return api.LkWrong{Where: api.LkList, Index: list}
		}
	}
	for slot, list := range s.List {
		if list != none && !met[slot] {
			return api.LkWrong{Where: api.LkSlot, Index: slot}
		}
	}
	return api.LkWrong{}
}

// sizesFit reports whether the slices of s have lengths that belong together.
func sizesFit[T any](s api.LkState[T]) bool {
	slots, lists := len(s.Values), len(s.First)
	return countsFit(slots, lists) && len(s.List) == slots && len(s.Next) == slots && len(s.Prev) == slots && len(s.Last) == lists
}

// slotFits reports whether the numbers of a slot are in their ranges, and those of a free one none.
func slotFits[T any](s api.LkState[T], slot int) bool {
	list, next, prev := s.List[slot], s.Next[slot], s.Prev[slot]
	if list == none {
		return next == none && prev == none
	}
	return isIndex(list, s.First) && (next == none || isIndex(next, s.List)) && (prev == none || isIndex(prev, s.List))
}

// listHolds reports whether a list is linked from its first slot to its last one, and notes the slots that it meets.
func listHolds[T any](s api.LkState[T], list int, met []bool) bool {
	if s.First[list] != none && !isIndex(s.First[list], s.List) {
		return false
	}
	before := none
	for slot := s.First[list]; slot != none; slot = s.Next[slot] {
		// A circle ends here too: the first slot to be met again has another one before it now.
		if s.List[slot] != list || s.Prev[slot] != before {
			return false
		}
		met[slot] = true
		before = slot
	}
	return s.Last[list] == before
}

// isIndex reports whether l has an element number i.
func isIndex(i int, l []int) bool { return i >= 0 && i < len(l) }
