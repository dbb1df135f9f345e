package vmpage

import (
	"slices"

	"polder/api"
	"polder/refusals"
)

// Load returns the system with a state.
func Load(s api.VmState) (*System, api.Errno) {
	if e := refusals.CheckState(s.Refusals); e != api.OK {
		return nil, e
	}
	made := build(clone(s.Refusals))
	if !made.fill(s.Runs) || !made.join(s.Huge) || !made.write(s.Data) {
		return nil, api.ErrForm
	}
	return made, api.OK
}

// Save returns the state.
func (s *System) Save() api.VmState {
	if !s.isMade() {
		return api.VmState{}
	}
	return api.VmState{Runs: s.runs(), Huge: s.huge(), Data: s.data(), Refusals: clone(s.refusals)}
}

// runs returns the longest runs of pages of a kind, but of free ones.
func (s *System) runs() []api.VmRun {
	var runs []api.VmRun
	before := api.VmFree
	for i, p := range s.all() {
		if p.kind != api.VmFree && p.kind == before {
			runs[len(runs)-1].Pages++
		} else if p.kind != api.VmFree {
			runs = append(runs, api.VmRun{Page: i, Pages: 1, Kind: p.kind})
		}
		before = p.kind
	}
	return runs
}

// huge returns the first pages of the huge pages.
func (s *System) huge() []int {
	var first []int
	for i, p := range s.all() {
		if p.huge && isGroup(i) {
			first = append(first, i)
		}
	}
	return first
}

// data returns the bytes of the pages that have others than 0.
func (s *System) data() []api.VmData {
	var data []api.VmData
	for i, p := range s.all() {
		if p.bytes != [api.PageBytes]byte{} {
			data = append(data, api.VmData{Page: i, Bytes: p.bytes})
		}
	}
	return data
}

// fill gives free pages the kinds that the runs of a state say, and reports whether a state can have these.
func (s *System) fill(runs []api.VmRun) bool {
	end, before := 0, api.VmFree // of the last run
	for _, r := range runs {
		if !arePages(r.Page, r.Pages) || r.Kind <= api.VmFree || r.Kind > api.VmGuard {
			return false
		}
		if r.Page < end || r.Page == end && r.Kind == before {
			return false
		}
		for _, p := range s.span(r.Page, r.Pages) {
			p.kind = r.Kind
		}
		end, before = r.Page+r.Pages, r.Kind
	}
	return true
}

// join makes the huge pages that a state says, and reports whether a state can have these.
func (s *System) join(huge []int) bool {
	least := 0
	for _, first := range huge {
		if first < least || !isGroup(first) {
			return false
		}
		for _, p := range s.span(first, api.HugePages) {
			if p.kind != api.VmCommitted {
				return false
			}
			p.huge = true
		}
		least = first + 1
	}
	return true
}

// write gives pages the bytes that a state says, and reports whether a state can have these.
func (s *System) write(data []api.VmData) bool {
	least := 0
	for _, d := range data {
		if d.Page < least || !isPage(d.Page) {
			return false
		}
		p := &s.pages[d.Page]
		if p.kind != api.VmCommitted || d.Bytes == [api.PageBytes]byte{} {
			return false
		}
		p.bytes = d.Bytes
		least = d.Page + 1
	}
	return true
}

// clone returns a state that shares no memory with r.
func clone(r api.RfState) api.RfState {
	r.Plan.Rules = slices.Clone(r.Plan.Rules)
	return r
}
