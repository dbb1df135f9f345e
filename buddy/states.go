package buddy

import (
	"slices"

	"polder/api"
)

// Load returns the allocator with a state.
func Load(s api.BuState) (*Buddy, api.Errno) {
	b, e := New(s.Order)
	if e != api.OK {
		return nil, e
	}
	end := 0 // of the given block before
	for _, x := range s.Given {
		if !inRange(x, s.Order) || x.Page < end {
			return nil, api.ErrForm
		}
		b.AllocAt(x.Page, x.Order)
		end = x.Page + pages(x.Order)
	}
	return b, api.OK
}

// Save returns the state.
func (b *Buddy) Save() api.BuState {
	if !b.isMade() {
		return api.BuState{}
	}
	return api.BuState{Order: b.order, Given: slices.Clone(b.given)}
}
