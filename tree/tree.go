// Package tree looks at trees, cuts them off, and puts them together. It is layer 1: see shared/doc/01-tree.md.
package tree

import (
	"slices"

	"roundelay/api"
	"roundelay/base"
	"roundelay/graph"
)

// MaxDepth is the greatest depth of what is cut off, or counted.
const MaxDepth = 40

// marks says which nodes were met.
type marks [api.MaxNodes]bool

// walker goes through the nodes of a tree that are reached, and does something at each.
type walker struct {
	api.Tree
	visit func(node int)
}

// reached yields the nodes that are reached, by breadth.
func (w walker) reached(yield func(int) bool) {
	var met marks
	met[w.Root] = true
	for queue := []int{w.Root}; len(queue) > 0; queue = queue[1:] {
		if !yield(queue[0]) {
			return
		}
		for _, k := range w.Nodes[queue[0]].Kids {
			if !met[k] {
				met[k] = true
				queue = append(queue, k)
			}
		}
	}
}

// walk does at each node what is to be done there.
func (w walker) walk() {
	for n := range w.reached {
		w.visit(n)
	}
}

// each does something at each node that is reached, by breadth.
func each(t api.Tree, visit func(node int)) {
	w := walker{t, visit}
	run := w.walk
	run()
}

// Check returns the error of a tree.
func Check(t api.Tree) api.Errno {
	few := func(n api.Node) bool { return len(n.Kids) <= api.MaxKids }
	named := func(n api.Node) bool { return base.IsName(n.Name) }
	there := base.Within(len(t.Nodes))
	leads := func(n api.Node) bool { return base.Every(n.Kids, there) }
	switch {
	case len(t.Nodes) < 1 || len(t.Nodes) > api.MaxNodes || !base.Every(t.Nodes, few):
		return api.ErrMany
	case !base.Every(t.Nodes, named):
		return api.ErrForm
	case !there(t.Root) || !base.Every(t.Nodes, leads):
		return api.ErrNot
	}
	return api.OK
}

// Reach returns the nodes that are reached.
func Reach(t api.Tree) ([]int, api.Errno) {
	if e := Check(t); e != api.OK {
		return nil, e
	}
	var l []int
	each(t, func(n int) { l = append(l, n) })
	return l, api.OK
}

// trimmed returns a right graph, which may have more nodes than a tree has, trimmed.
func trimmed(t api.Tree) api.Tree {
	nodes, _ := graph.Only(t.Nodes, t.Root)
	return api.Tree{Nodes: nodes}
}

// Trim returns a tree trimmed.
func Trim(t api.Tree) (api.Tree, api.Errno) {
	if e := Check(t); e != api.OK {
		return api.Tree{}, e
	}
	return trimmed(t), api.OK
}

// follow returns the nodes that a path meets, the root first.
func follow(t api.Tree, path []int) ([]int, api.Errno) {
	if len(path) > MaxDepth {
		return nil, api.ErrMany
	}
	l := []int{t.Root}
	n := t.Root
	for _, k := range path {
		kids := t.Nodes[n].Kids
		if k < 0 || k >= len(kids) {
			return nil, api.ErrNot
		}
		n = kids[k]
		l = append(l, n)
	}
	return l, api.OK
}

// leadsTo returns the node to which a path leads in a tree that is checked first.
func leadsTo(t api.Tree, path []int) (int, api.Errno) {
	if e := Check(t); e != api.OK {
		return 0, e
	}
	l, e := follow(t, path)
	if e != api.OK {
		return 0, e
	}
	return l[len(path)], api.OK
}

// At returns the tree to which a path leads.
func At(t api.Tree, path []int) (api.Tree, api.Errno) {
	n, e := leadsTo(t, path)
	if e != api.OK {
		return api.Tree{}, e
	}
	return trimmed(api.Tree{Nodes: t.Nodes, Root: n}), api.OK
}

// Name returns the name of the node to which a path leads.
func Name(t api.Tree, path []int) (string, api.Errno) {
	n, e := leadsTo(t, path)
	if e != api.OK {
		return "", e
	}
	return t.Nodes[n].Name, api.OK
}

// Names returns all names of a tree.
func Names(t api.Tree) ([]string, api.Errno) {
	if e := Check(t); e != api.OK {
		return nil, e
	}
	met := map[string]bool{}
	var l []string
	each(t, func(n int) {
		name := t.Nodes[n].Name
		if !met[name] {
			met[name] = true
			l = append(l, name)
		}
	})
	slices.Sort(l)
	return l, api.OK
}

// grow returns the nodes from which all paths end, if they do from all nodes that are marked.
func grow(t api.Tree, ends marks) marks {
	next := ends
	for i, n := range t.Nodes {
		next[i] = base.Every(n.Kids, func(k int) bool { return ends[k] })
	}
	return next
}

// finite reports whether a right tree is finite.
func finite(t api.Tree) bool {
	var ends marks
	for next := grow(t, ends); next != ends; next = grow(t, ends) {
		ends = next
	}
	return ends[t.Root]
}

// Finite reports whether a tree is finite.
func Finite(t api.Tree) (bool, api.Errno) {
	if e := Check(t); e != api.OK {
		return false, e
	}
	return finite(t), api.OK
}

// Height returns the height of a finite tree.
func Height(t api.Tree) (int, api.Errno) {
	if e := Check(t); e != api.OK {
		return 0, e
	}
	if !finite(t) {
		return 0, api.ErrClash
	}
	high := make([]int, len(t.Nodes))
	// A finite tree has no path that is longer than its nodes, so that many rounds are enough.
	for range t.Nodes {
		each(t, func(n int) {
			for _, k := range t.Nodes[n].Kids {
				high[n] = max(high[n], high[k]+1)
			}
		})
	}
	return high[t.Root], api.OK
}
