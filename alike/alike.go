// Package alike tells whether trees are alike, shows it, and makes least graphs. It is layer 2: see shared/doc/02-alike.md.
package alike

import (
	"cmp"
	"slices"

	"roundelay/api"
	"roundelay/base"
	"roundelay/graph"
	"roundelay/tree"
)

// maxList is how many trees a list has at most.
const maxList = 12

// maxPairs is how many pairs a relation has at most.
const maxPairs = api.MaxNodes * api.MaxNodes

// pair is a node of the first tree, and one of the second tree.
type pair = [2]int

// left and right have the first and the second tree.
type left struct{ a api.Tree }
type right struct{ b api.Tree }

// both is two trees at work, and how two nodes are ordered.
type both struct {
	left
	right
	order func(x, y api.Node) int
}

// met is a pair that was met: the one above it, and which of the nodes below they are; Above is -1 for the roots.
type met struct {
	at         pair
	above, kid int
}

// key is a pair by which it is found.
type key struct{ a, b int }

// check returns the first error of trees.
func check(trees ...api.Tree) api.Errno {
	for _, t := range trees {
		if e := tree.Check(t); e != api.OK {
			return e
		}
	}
	return api.OK
}

// work returns two trees at work.
func work(a, b api.Tree) both {
	return both{left{a}, right{b}, func(x, y api.Node) int {
		return cmp.Or(cmp.Compare(x.Name, y.Name), cmp.Compare(len(x.Kids), len(y.Kids)))
	}}
}

// compare returns how the nodes of a pair are ordered at once.
func (w both) compare(p pair) int {
	return w.order(w.a.Nodes[p[0]], w.b.Nodes[p[1]])
}

// differ reports whether the nodes of a pair differ at once.
func (w both) differ(p pair) bool { return w.compare(p) != 0 }

// below returns the pairs below a pair whose nodes do not differ at once.
func (w both) below(p pair) []pair {
	x, y := w.a.Nodes[p[0]].Kids, w.b.Nodes[p[1]].Kids
	l := make([]pair, len(x))
	for i := range x {
		l[i] = pair{x[i], y[i]}
	}
	return l
}

// pairs yields the pairs to which the same path leads, by breadth; behind one whose nodes differ at once nothing comes.
func (w both) pairs(yield func([]met) bool) {
	seen := map[key]bool{{w.a.Root, w.b.Root}: true}
	l := []met{{at: pair{w.a.Root, w.b.Root}, above: -1}}
	for i := 0; i < len(l); i++ {
		if !yield(l[:i+1]) {
			return
		}
		if w.differ(l[i].at) {
			continue
		}
		for j, p := range w.below(l[i].at) {
			if k := (key{p[0], p[1]}); !seen[k] {
				seen[k] = true
				l = append(l, met{p, i, j})
			}
		}
	}
}

// apart returns the first path at which two trees differ, how they are ordered there, and whether there is one.
func (w both) apart() (path []int, order int, is bool) {
search:
	for l := range w.pairs {
		last := len(l) - 1
		if !w.differ(l[last].at) {
			continue search
		}
		for i := last; l[i].above >= 0; i = l[i].above {
			path = append(path, l[i].kid)
		}
		slices.Reverse(path)
		order, is = w.compare(l[last].at), true
		break search
	}
	return path, order, is
}

// Alike reports whether two trees are alike.
func Alike(a, b api.Tree) (bool, api.Errno) {
	if e := check(a, b); e != api.OK {
		return false, e
	}
	_, _, is := work(a, b).apart()
	return !is, api.OK
}

// Apart returns the first path at which two trees differ.
func Apart(a, b api.Tree) ([]int, api.Errno) {
	if e := check(a, b); e != api.OK {
		return nil, e
	}
	path, _, is := work(a, b).apart()
	if !is {
		return nil, api.ErrNone
	}
	return path, api.OK
}

// Depth returns the length of the first path at which two trees differ, and -1 if they are alike.
func Depth(a, b api.Tree) (int, api.Errno) {
	if e := check(a, b); e != api.OK {
		return 0, e
	}
	path, _, is := work(a, b).apart()
	if !is {
		return -1, api.OK
	}
	return len(path), api.OK
}

// Order returns which of two trees comes before the other one.
func Order(a, b api.Tree) (int, api.Errno) {
	if e := check(a, b); e != api.OK {
		return 0, e
	}
	_, order, _ := work(a, b).apart()
	return order, api.OK
}

// Relate returns the pairs of nodes to which the same path leads.
func Relate(a, b api.Tree) ([][2]int, api.Errno) {
	if e := check(a, b); e != api.OK {
		return nil, e
	}
	w := work(a, b)
	var l [][2]int
	for m := range w.pairs {
		l = append(l, m[len(m)-1].at)
	}
	if base.Some(l, w.differ) {
		return nil, api.ErrClash
	}
	return l, api.OK
}

// Related reports whether pairs are a relation of two trees.
func Related(a, b api.Tree, pairs [][2]int) (bool, api.Errno) {
	if e := check(a, b); e != api.OK {
		return false, e
	}
	if len(pairs) > maxPairs {
		return false, api.ErrMany
	}
	inA, inB := base.Within(len(a.Nodes)), base.Within(len(b.Nodes))
	if !base.Every(pairs, func(p pair) bool { return inA(p[0]) && inB(p[1]) }) {
		return false, api.ErrNot
	}
	there := map[key]bool{}
	for _, p := range pairs {
		there[key{p[0], p[1]}] = true
	}
	w := work(a, b)
	among := func(p pair) bool { return there[key{p[0], p[1]}] }
	goes := func(p pair) bool { return !w.differ(p) && base.Every(w.below(p), among) }
	return slices.Contains(pairs, pair{a.Root, b.Root}) && base.Every(pairs, goes), api.OK
}

// Classes returns the number of the class of each node.
func Classes(t api.Tree) ([]int, api.Errno) {
	if e := check(t); e != api.OK {
		return nil, e
	}
	class := graph.Classes(t.Nodes)
	l := slices.Repeat([]int{-1}, len(class))
	to := map[int]int{}
	for n := range graph.Reached(t.Nodes, t.Root) {
		if _, is := to[class[n]]; !is {
			to[class[n]] = len(to)
		}
		l[n] = to[class[n]]
	}
	return l, api.OK
}

// Least returns the least graph of a tree.
func Least(t api.Tree) (api.Tree, api.Errno) {
	if e := check(t); e != api.OK {
		return api.Tree{}, e
	}
	return graph.Least(t)
}

// IsLeast reports whether a tree is its least graph.
func IsLeast(t api.Tree) (bool, api.Errno) {
	u, e := Least(t)
	if e != api.OK {
		return false, e
	}
	return graph.Same(t, u), api.OK
}

// Sub returns the first path in a tree at which there is another one.
func Sub(a, b api.Tree) ([]int, api.Errno) {
	if e := check(a, b); e != api.OK {
		return nil, e
	}
	class := graph.Classes(slices.Concat(a.Nodes, graph.Moved(b.Nodes, len(a.Nodes))))
	is := func(n int) bool { return class[n] == class[len(a.Nodes)+b.Root] }
	// The pairs of a tree with itself are its nodes, each with itself, so that their first one has the first path.
	for l := range work(a, a).pairs {
		last := len(l) - 1
		if !is(l[last].at[0]) {
			continue
		}
		var path []int
		for i := last; l[i].above >= 0; i = l[i].above {
			path = append(path, l[i].kid)
		}
		slices.Reverse(path)
		return path, api.OK
	}
	return nil, api.ErrNone
}

// Share returns one graph for all trees of a list.
func Share(l []api.Tree) (api.Tree, []int, api.Errno) {
	if len(l) < 1 || len(l) > maxList {
		return api.Tree{}, nil, api.ErrMany
	}
	if e := check(l...); e != api.OK {
		return api.Tree{}, nil, e
	}
	var nodes []api.Node
	roots := make([]int, len(l))
	for i := range len(l) {
		roots[i] = len(nodes) + l[i].Root
		nodes = append(nodes, graph.Moved(l[i].Nodes, len(nodes))...)
	}
	least, at, e := graph.Share(nodes, roots...)
	if e != api.OK {
		return api.Tree{}, nil, e
	}
	return api.Tree{Nodes: least}, at, api.OK
}

// Sort returns the numbers of the trees of a list in their order.
func Sort(l []api.Tree) ([]int, api.Errno) {
	if len(l) > maxList {
		return nil, api.ErrMany
	}
	if e := check(l...); e != api.OK {
		return nil, e
	}
	numbers := make([]int, len(l))
	for i := range numbers {
		numbers[i] = i
	}
	slices.SortStableFunc(numbers, func(i, j int) int {
		_, order, _ := work(l[i], l[j]).apart()
		return order
	})
	return numbers, api.OK
}
