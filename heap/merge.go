package heap

import (
	"slices"

	"roundelay/api"
	"roundelay/graph"
)

// mover gives a state new cells: what becomes of a cell.
type mover struct {
	state
	to func(cell int) int
}

// moved returns the state in which all cells are what becomes of them; those that become one are held as often as all of them were.
func (m mover) moved() state {
	s := state{nodes: make([]api.Node, len(m.nodes))}
	for c := range m.cells {
		n := api.Node{Name: m.nodes[c].Name, Kids: slices.Clone(m.nodes[c].Kids)}
		for i, k := range n.Kids {
			n.Kids[i] = m.to(k)
		}
		s.nodes[m.to(c)] = n
		s.held[m.to(c)] += m.held[c]
	}
	return s
}

// firsts returns for each cell that is taken the least one that unfolds alike.
func (s *state) firsts() []int {
	class := graph.Classes(s.nodes)
	least := map[int]int{}
	l := make([]int, len(s.nodes))
	for c := range s.cells {
		if _, is := least[class[c]]; !is {
			least[class[c]] = c
		}
		l[c] = least[class[c]]
	}
	return l
}

// size returns how many cells are taken.
func (s *state) size() int {
	n := 0
	for range s.cells {
		n++
	}
	return n
}

// Merge makes the heap tight.
func (h *Heap) Merge() (int, api.Errno) {
	if !h.is() {
		return 0, api.ErrNone
	}
	first := h.firsts()
	s := mover{h.state, func(cell int) int { return first[cell] }}.moved()
	if slices.Max(s.held[:]) > MaxHolds {
		return 0, api.ErrFull
	}
	freed := h.size() - s.size()
	h.state = s
	return freed, api.OK
}

// Tight reports whether no two cells unfold alike.
func (h *Heap) Tight() (bool, api.Errno) {
	if !h.is() {
		return false, api.ErrNone
	}
	first := h.firsts()
	for c := range h.cells {
		if first[c] != c {
			return false, api.OK
		}
	}
	return true, api.OK
}

// Pack frees what is not reached, and gives all cells new numbers.
func (h *Heap) Pack() ([]int, api.Errno) {
	if !h.is() {
		return nil, api.ErrNone
	}
	h.sweep()
	to := slices.Repeat([]int{-1}, len(h.nodes))
	next := 0
	for c := range graph.Reached(h.nodes, h.holds()...) {
		to[c] = next
		next++
	}
	h.state = mover{h.state, func(cell int) int { return to[cell] }}.moved()
	return to, api.OK
}

// Save keeps the heap as a version.
func (h *Heap) Save() (int, api.Errno) {
	if !h.is() {
		return 0, api.ErrNone
	}
	if len(h.versions) >= MaxVersions {
		return 0, api.ErrFull
	}
	h.versions = append(h.versions, version{h.copied()})
	return len(h.versions) - 1, api.OK
}

// Back makes the heap what it was in a version.
func (h *Heap) Back(version int) api.Errno {
	if !h.is() {
		return api.ErrNone
	}
	if version < 0 || version >= len(h.versions) {
		return api.ErrNot
	}
	h.state = h.versions[version].copied()
	return api.OK
}

// Size returns how many cells are taken.
func (h *Heap) Size() int {
	if !h.is() {
		return 0
	}
	return h.size()
}

// Free returns how many cells are free.
func (h *Heap) Free() int {
	if !h.is() {
		return 0
	}
	return len(h.nodes) - h.size()
}

// Same reports whether two heaps are the same, but for their versions.
func Same(a, b *Heap) bool {
	return a.is() && b.is() && a.held == b.held && graph.Same(api.Tree{Nodes: a.nodes}, api.Tree{Nodes: b.nodes})
}
