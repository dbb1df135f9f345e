package radixmap

import (
	"slices"

	"polder/api"
)

// Levels of nodes.
const (
	noLevel     = -1 // there is no such node
	rootLevel   = 0
	middleLevel = 1
	leafLevel   = 2
)

// Check returns the least number of a node of a state that is wrong, and what is wrong with the state.
func Check(s api.RmState) (node int, e api.Errno) {
	if !isMost(s.Most) {
		return 0, api.ErrRange
	}
	if len(s.Nodes) != s.Most {
		return 0, api.ErrForm
	}
	parents := countParents(s.Nodes)
	for i := range s.Nodes {
		if !isRight(s.Nodes, i, parents[i]) {
			return i, api.ErrForm
		}
	}
	return 0, api.OK
}

// Load returns the map with a state.
func Load(s api.RmState) (*Map, api.Errno) {
	if _, e := Check(s); e != api.OK {
		return nil, e
	}
	m := build(s.Most)
	for i, n := range s.Nodes {
		if n.Level == rootLevel {
			copy(m.root[:], n.Kids)
			continue
		}
		copy(m.nodes[i].kids[:], n.Kids)
		copy(m.nodes[i].words[:], n.Words)
		m.mark(i, n.Level != noLevel)
	}
	return m, api.OK
}

// Save returns the state.
func (m *Map) Save() api.RmState {
	if !m.isMade() {
		return api.RmState{}
	}
	s := api.RmState{Most: m.used.N, Nodes: make([]api.RmNode, m.used.N)}
	for i := range s.Nodes {
		s.Nodes[i] = m.nodes[i].save()
	}
	s.Nodes[0] = api.RmNode{Level: rootLevel, Kids: slices.Clone(m.root[:])}
	return s
}

// save returns the state of a node that is not the root.
func (n *node) save() api.RmNode {
	switch {
	case n.kids != [api.RmFan]int{}:
		return api.RmNode{Level: middleLevel, Kids: slices.Clone(n.kids[:])}
	case n.words != [api.RmFan]uint64{}:
		return api.RmNode{Level: leafLevel, Words: slices.Clone(n.words[:])}
	}
	return api.RmNode{Level: noLevel}
}

// countParents returns how often each node is a kid of nodes whose level is one less, also of those that are wrong.
func countParents(nodes []api.RmNode) []int {
	parents := make([]int, len(nodes))
	for _, n := range nodes {
		for _, kid := range n.Kids {
			if isOfLevel(nodes, kid, n.Level+1) {
				parents[kid]++
			}
		}
	}
	return parents
}

// isRight reports whether the node i, which has so many parents, is not wrong.
func isRight(nodes []api.RmNode, i, parents int) bool {
	n := nodes[i]
	if (n.Level == rootLevel) != (i == 0) || !hasForm(n) {
		return false
	}
	for _, kid := range n.Kids {
		if kid != 0 && !isOfLevel(nodes, kid, n.Level+1) {
			return false
		}
	}
	for _, x := range n.Words {
		if _, e := Unpack(x); x != 0 && e != api.OK {
			return false
		}
	}
	if n.Level == middleLevel || n.Level == leafLevel {
		return parents == 1 && !isEmpty(n)
	}
	return true
}

// hasForm reports whether there is such a level, and a node of it has as many kids and words as n.
func hasForm(n api.RmNode) bool {
	kids, words := len(n.Kids), len(n.Words)
	switch n.Level {
	case noLevel:
		return kids == 0 && words == 0
	case rootLevel:
		return kids == api.RmRoot && words == 0
	case middleLevel:
		return kids == api.RmFan && words == 0
	case leafLevel:
		return kids == 0 && words == api.RmFan
	}
	return false
}

// isOfLevel reports whether a node with this number, which is not 0, has this level.
func isOfLevel(nodes []api.RmNode, number, level int) bool {
	return number > 0 && number < len(nodes) && nodes[number].Level == level
}

// isEmpty reports whether all kids and words of a node are 0.
func isEmpty(n api.RmNode) bool {
	isKid := func(kid int) bool { return kid != 0 }
	isWord := func(x uint64) bool { return x != 0 }
	return !slices.ContainsFunc(n.Kids, isKid) && !slices.ContainsFunc(n.Words, isWord)
}
