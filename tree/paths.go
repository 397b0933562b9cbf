package tree

import (
	"slices"

	"roundelay/api"
	"roundelay/base"
	"roundelay/graph"
)

// add returns the sum of numbers.
func add(numbers ...int) int {
	sum := 0
	for _, n := range numbers {
		sum += n
	}
	return sum
}

// cutter writes the unfolding of a tree, until it is too long.
type cutter struct {
	api.Tree
	out []byte
}

// long reports whether the text is too long.
func (c *cutter) long() bool { return len(c.out) > api.MaxBytes }

// write writes what unfolds from a node to a depth.
func (c *cutter) write(node, depth int) {
	if depth == 0 {
		c.out = append(c.out, '_')
		return
	}
	n := c.Nodes[node]
	c.out = append(c.out, n.Name...)
	for i, k := range n.Kids {
		if i == 0 {
			c.out = append(c.out, '(')
		} else {
			c.out = append(c.out, ',')
		}
		c.write(k, depth-1)
		if c.long() {
			return
		}
	}
	if len(n.Kids) > 0 {
		c.out = append(c.out, ')')
	}
}

// checkDepth returns the error of a tree, and that of a depth.
func checkDepth(t api.Tree, depth int) api.Errno {
	if e := Check(t); e != api.OK {
		return e
	}
	if depth < 0 || depth > MaxDepth {
		return api.ErrRange
	}
	return api.OK
}

// Cut returns the unfolding to a depth as a text.
func Cut(t api.Tree, depth int) (string, api.Errno) {
	if e := checkDepth(t, depth); e != api.OK {
		return "", e
	}
	c := &cutter{Tree: t}
	c.write(t.Root, depth)
	if c.long() {
		return "", api.ErrLong
	}
	return string(c.out), api.OK
}

// Count returns how many paths are shorter than a depth.
func Count(t api.Tree, depth int) (int, api.Errno) {
	if e := checkDepth(t, depth); e != api.OK {
		return 0, e
	}
	level := make([]int, len(t.Nodes))
	level[t.Root] = 1
	total := 0
	for range depth {
		total = add(append([]int{total}, level...)...)
		if total > api.MaxBytes {
			return 0, api.ErrLong
		}
		next := make([]int, len(level))
		for i, n := range t.Nodes {
			for _, k := range n.Kids {
				next[k] += level[i]
			}
		}
		level = next
	}
	return total, api.OK
}

// place is where a path leads.
type place struct {
	path []int
	node int
}

// below returns the places one step further, in order.
func below(t api.Tree, level []place) []place {
	var next []place
	for _, p := range level {
		for i, k := range t.Nodes[p.node].Kids {
			path := make([]int, len(p.path)+1)
			copy(path, p.path)
			path[len(p.path)] = i
			next = append(next, place{path, k})
		}
	}
	return next
}

// Paths returns the paths that lead to nodes of a name.
func Paths(t api.Tree, name string, depth int) ([][]int, api.Errno) {
	if _, e := Count(t, depth); e != api.OK {
		return nil, e
	}
	var l [][]int
	level := []place{{nil, t.Root}}
	for range depth {
		for _, p := range level {
			if t.Nodes[p.node].Name == name {
				l = append(l, slices.Clone(p.path))
			}
		}
		level = below(t, level)
	}
	return l, api.OK
}

// shortest returns the first path of at least one step, by length and then in lexicographic order, from a node to another one.
func shortest(t api.Tree, from, to int) ([]int, bool) {
	var met marks
	for level := []place{{nil, from}}; len(level) > 0; {
		var next []place
		for _, p := range below(t, level) {
			if p.node == to {
				return p.path, true
			}
			if !met[p.node] {
				met[p.node] = true
				next = append(next, p)
			}
		}
		level = next
	}
	return nil, false
}

// stemTo returns the first path from the root to a node, which may be empty.
func stemTo(t api.Tree, node int) []int {
	if node == t.Root {
		return nil
	}
	stem, _ := shortest(t, t.Root, node)
	return stem
}

// before reports whether a path comes before another one, by length and then in lexicographic order.
func before(a, b []int) bool {
	return len(a) < len(b) || len(a) == len(b) && slices.Compare(a, b) < 0
}

// Loop returns a path that goes round.
func Loop(t api.Tree) (stem, round []int, e api.Errno) {
	if e := Check(t); e != api.OK {
		return nil, nil, e
	}
	if finite(t) {
		return nil, nil, api.ErrNone
	}
	// A shortest path round goes to its node and back to it each by the first shortest way.
	var best []int
search:
	for n := range (walker{Tree: t}).reached {
		r, is := shortest(t, n, n)
		if !is {
			continue search
		}
		s := stemTo(t, n)
		if best != nil && len(s) > len(best) {
			break search
		}
		if both := slices.Concat(s, r); best == nil || before(both, best) {
			best, stem, round = both, s, r
		}
	}
	return stem, round, api.OK
}

// small returns a graph trimmed, if it is not too large.
func small(t api.Tree) (api.Tree, api.Errno) {
	u := trimmed(t)
	if len(u.Nodes) > api.MaxNodes {
		return api.Tree{}, api.ErrMany
	}
	return u, api.OK
}

// Put returns a tree with another one in place of what is where a path leads.
func Put(t api.Tree, path []int, u api.Tree) (api.Tree, api.Errno) {
	if e := Check(t); e != api.OK {
		return api.Tree{}, e
	}
	if e := Check(u); e != api.OK {
		return api.Tree{}, e
	}
	l, e := follow(t, path)
	if e != api.OK {
		return api.Tree{}, e
	}
	first := len(path)
	second := first + len(t.Nodes)
	var nodes []api.Node
	for i, k := range path {
		n := graph.Moved(t.Nodes[l[i]:l[i]+1], first)[0]
		n.Kids[k] = i + 1
		if i+1 == len(path) {
			n.Kids[k] = second + u.Root
		}
		nodes = append(nodes, n)
	}
	nodes = slices.Concat(nodes, graph.Moved(t.Nodes, first), graph.Moved(u.Nodes, second))
	root := 0
	if len(path) == 0 {
		root = second + u.Root
	}
	return small(api.Tree{Nodes: nodes, Root: root})
}

// Join returns a tree of a name and trees below.
func Join(name string, kids []api.Tree) (api.Tree, api.Errno) {
	for _, k := range kids {
		if e := Check(k); e != api.OK {
			return api.Tree{}, e
		}
	}
	if len(kids) > api.MaxKids {
		return api.Tree{}, api.ErrMany
	}
	if !base.IsName(name) {
		return api.Tree{}, api.ErrForm
	}
	nodes := []api.Node{{Name: name}}
	for _, k := range kids {
		nodes[0].Kids = append(nodes[0].Kids, len(nodes)+k.Root)
		nodes = append(nodes, graph.Moved(k.Nodes, len(nodes))...)
	}
	return small(api.Tree{Nodes: nodes})
}
