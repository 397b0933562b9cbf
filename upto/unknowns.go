package upto

import (
	"slices"

	"roundelay/api"
	"roundelay/base"
	"roundelay/graph"
	"roundelay/tree"
)

// checkTrees returns the first error of trees.
func checkTrees(l ...api.Tree) api.Errno {
	for _, t := range l {
		if e := tree.Check(t); e != api.OK {
			return e
		}
	}
	return api.OK
}

// has reports whether a node of a tree that is reached has something.
func has(t api.Tree, is func(api.Node) bool) bool {
	for n := range graph.Reached(t.Nodes, t.Root) {
		if is(t.Nodes[n]) {
			return true
		}
	}
	return false
}

// checkUnknowns returns the errors of unknowns for trees.
func checkUnknowns(unknowns []string, l ...api.Tree) api.Errno {
	if len(unknowns) > MaxUnknowns {
		return api.ErrMany
	}
	if !base.Every(unknowns, base.IsName) {
		return api.ErrForm
	}
	for i, u := range unknowns {
		if slices.Contains(unknowns[:i], u) {
			return api.ErrTwice
		}
	}
	bad := func(n api.Node) bool { return slices.Contains(unknowns, n.Name) && len(n.Kids) > 0 }
	if base.Some(l, func(t api.Tree) bool { return has(t, bad) }) {
		return api.ErrForm
	}
	return api.OK
}

// Instance returns the least graph of the instance of a tree by a solution.
func Instance(t api.Tree, names []string, l []api.Tree) (api.Tree, api.Errno) {
	if e := checkTrees(append([]api.Tree{t}, l...)...); e != api.OK {
		return api.Tree{}, e
	}
	if e := checkUnknowns(names, t); e != api.OK {
		return api.Tree{}, e
	}
	if len(l) != len(names) {
		return api.Tree{}, api.ErrMany
	}
	nodes := graph.Moved(t.Nodes, 0)
	roots := make([]int, len(l))
	for i, u := range l {
		roots[i] = len(nodes) + u.Root
		nodes = append(nodes, graph.Moved(u.Nodes, len(nodes))...)
	}
	to := func(n int) int {
		if i := slices.Index(names, t.Nodes[n].Name); i >= 0 {
			return roots[i]
		}
		return n
	}
	for i := range t.Nodes {
		for j, k := range nodes[i].Kids {
			nodes[i].Kids[j] = to(k)
		}
	}
	return graph.Least(api.Tree{Nodes: nodes, Root: to(t.Root)})
}

// together returns the nodes of two trees that are reached, those of the first one first, and the roots.
func together(a, b api.Tree) ([]api.Node, pair) {
	x, _ := graph.Only(a.Nodes, a.Root)
	y, _ := graph.Only(b.Nodes, b.Root)
	return append(x, graph.Moved(y, len(x))...), pair{0, len(x)}
}

// Unify returns the most general solution by which two trees are alike.
func Unify(a, b api.Tree, names []string) ([]api.Tree, api.Errno) {
	if e := checkTrees(a, b); e != api.OK {
		return nil, e
	}
	if e := checkUnknowns(names, a, b); e != api.OK {
		return nil, e
	}
	nodes, roots := together(a, b)
	c, clash := spread(api.Tree{Nodes: nodes})
	first := map[string]int{}
	for i, n := range nodes {
		if slices.Contains(names, n.Name) {
			c.term[i] = -1
			if _, is := first[n.Name]; !is {
				first[n.Name] = i
			}
		}
	}
	for i, n := range nodes {
		if c.term[i] < 0 {
			c.join(first[n.Name], i)
		}
	}
	c.join(roots[0], roots[1])
	if *clash {
		return nil, api.ErrClash
	}
	quotient := c.quotient(func(class int) api.Node {
		in := func(u string) bool {
			n, is := first[u]
			return is && c.class[n] == class
		}
		return api.Node{Name: names[base.First(names, in)]}
	})
	l := make([]api.Tree, len(names))
	for i, u := range names {
		n, is := first[u]
		if !is {
			l[i] = api.Tree{Nodes: []api.Node{{Name: u}}}
			continue
		}
		t, e := graph.Least(api.Tree{Nodes: quotient, Root: c.class[n]})
		if e != api.OK {
			return nil, e
		}
		l[i] = t
	}
	return l, api.OK
}

// Match returns the solution by which the instance of a pattern is alike a tree.
func Match(p, t api.Tree, names []string) ([]api.Tree, api.Errno) {
	if e := checkTrees(p, t); e != api.OK {
		return nil, e
	}
	if e := checkUnknowns(names, p); e != api.OK {
		return nil, e
	}
	class := graph.Classes(t.Nodes)
	is := map[string]int{}
	met := map[pair]bool{}
	for work := []pair{{p.Root, t.Root}}; len(work) > 0; work = work[1:] {
		at := work[0]
		if met[at] {
			continue
		}
		met[at] = true
		x, y := p.Nodes[at[0]], t.Nodes[at[1]]
		if slices.Contains(names, x.Name) {
			if n, was := is[x.Name]; was && class[n] != class[at[1]] {
				return nil, api.ErrClash
			}
			is[x.Name] = at[1]
			continue
		}
		if differ(x, y) {
			return nil, api.ErrClash
		}
		for i, k := range x.Kids {
			work = append(work, pair{k, y.Kids[i]})
		}
	}
	l := make([]api.Tree, len(names))
	for i, u := range names {
		n, there := is[u]
		if !there {
			l[i] = api.Tree{Nodes: []api.Node{{Name: u}}}
			continue
		}
		l[i], _ = graph.Least(api.Tree{Nodes: t.Nodes, Root: n})
	}
	return l, api.OK
}

// commons is what two least graphs have in common, at work: its pairs, in the order in which they are met, and those that are unknowns.
type commons struct {
	a, b     api.Tree
	at       map[pair]int
	pairs    []pair
	unknowns []pair
}

// meet returns the number of a pair.
func (c *commons) meet(p pair) int {
	n, is := c.at[p]
	if !is {
		n = len(c.pairs)
		c.at[p] = n
		c.pairs = append(c.pairs, p)
	}
	return n
}

// nodes returns the nodes of what is common, from the roots on; unknowns have their names, as long as there are any.
func (c *commons) nodes(names []string) ([]api.Node, api.Errno) {
	var l []api.Node
	for c.meet(pair{}); len(l) < len(c.pairs); {
		p := c.pairs[len(l)]
		x, y := c.a.Nodes[p[0]], c.b.Nodes[p[1]]
		n := api.Node{Name: x.Name}
		switch {
		case !differ(x, y):
			for i, k := range x.Kids {
				n.Kids = append(n.Kids, c.meet(pair{k, y.Kids[i]}))
			}
		case len(c.unknowns) == len(names):
			return nil, api.ErrMany
		default:
			n.Name = names[len(c.unknowns)]
			c.unknowns = append(c.unknowns, p)
		}
		l = append(l, n)
	}
	return l, api.OK
}

// Common returns the least general tree of which two trees are instances.
func Common(a, b api.Tree, names []string) (t api.Tree, left, right []api.Tree, e api.Errno) {
	if e := checkTrees(a, b); e != api.OK {
		return api.Tree{}, nil, nil, e
	}
	if e := checkUnknowns(names, a, b); e != api.OK {
		return api.Tree{}, nil, nil, e
	}
	bad := func(n api.Node) bool { return slices.Contains(names, n.Name) }
	if has(a, bad) || has(b, bad) {
		return api.Tree{}, nil, nil, api.ErrClash
	}
	c := &commons{at: map[pair]int{}}
	c.a, _ = graph.Least(a)
	c.b, _ = graph.Least(b)
	nodes, e := c.nodes(names)
	if e != api.OK {
		return api.Tree{}, nil, nil, e
	}
	t, e = graph.Least(api.Tree{Nodes: nodes})
	if e != api.OK {
		return api.Tree{}, nil, nil, e
	}
	for _, p := range c.unknowns {
		x, _ := graph.Least(api.Tree{Nodes: c.a.Nodes, Root: p[0]})
		y, _ := graph.Least(api.Tree{Nodes: c.b.Nodes, Root: p[1]})
		left, right = append(left, x), append(right, y)
	}
	return t, left, right, api.OK
}
