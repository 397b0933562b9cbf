package graph

import (
	"strconv"
	"strings"

	"roundelay/api"
)

// Knots are cells whose Kids are places, and the results of calls, which are places, too: the number of a cell, or less than 0: -1 is the result of call 0, and so on.
type Knots struct {
	Cells   []api.Node
	Results []int
	Ended   []bool
}

// Follow returns the cell to which a place is followed; it is open if it comes to a call that is not ended, or if results lead round.
func (k Knots) Follow(place int) (cell int, open bool) {
	for range len(k.Results) + 1 {
		if place >= 0 {
			return place, false
		}
		if !k.Ended[-1-place] {
			return 0, true
		}
		place = k.Results[-1-place]
	}
	return 0, true
}

// Tree returns the graph of what is at a place, which may have any size: false if an open place is met.
func (k Knots) Tree(place int) (api.Tree, bool) {
	root, open := k.Follow(place)
	if open {
		return api.Tree{}, false
	}
	to := map[int]int{root: 0}
	cells := []int{root}
	var t api.Tree
	for i := 0; i < len(cells); i++ {
		n := api.Node{Name: k.Cells[cells[i]].Name}
		for _, p := range k.Cells[cells[i]].Kids {
			c, open := k.Follow(p)
			if open {
				return api.Tree{}, false
			}
			if _, is := to[c]; !is {
				to[c] = len(cells)
				cells = append(cells, c)
			}
			n.Kids = append(n.Kids, to[c])
		}
		t.Nodes = append(t.Nodes, n)
	}
	return t, true
}

// Load adds the nodes of a tree as cells, and returns the place of its root.
func (k *Knots) Load(t api.Tree) int {
	at := len(k.Cells)
	k.Cells = append(k.Cells, Moved(t.Nodes, at)...)
	return at + t.Root
}

// Least returns the least graph of the tree at a place: ErrWait if an open place is met, ErrMany.
func (k *Knots) Least(place int) (api.Tree, api.Errno) {
	t, is := k.Tree(place)
	if !is {
		return api.Tree{}, api.ErrWait
	}
	return Least(t)
}

// Key returns a text that is the same for two graphs just if they are the same, node by node.
func Key(t api.Tree) string {
	var b strings.Builder
	b.WriteString(strconv.Itoa(t.Root))
	for _, n := range t.Nodes {
		b.WriteByte(' ')
		b.WriteString(n.Name)
		for _, k := range n.Kids {
			b.WriteByte('.')
			b.WriteString(strconv.Itoa(k))
		}
	}
	return b.String()
}
