package graph_test

import (
	"slices"
	"testing"

	"roundelay/api"
	"roundelay/graph"
	"roundelay/kit"
)

var n = kit.N

func TestClasses(t *testing.T) {
	// Two rings of s, two of t that lead to a, and a chain.
	nodes := []api.Node{n("s", 1), n("s", 0), n("a"), n("s", 2), n("s", 3), n("a"), n("s", 5), n("p", 0, 6), n("p", 1, 3)}
	if c := graph.Classes(nodes); c[0] != c[1] || c[2] != c[5] || c[3] != c[6] || c[3] == c[4] || c[0] == c[3] || c[7] != c[8] || slices.Max(c) != 4 {
		t.Error(c)
	}
}

func TestLeast(t *testing.T) {
	var many []api.Node
	for i := range 1000 {
		many = append(many, n("s", (i+1)%1000))
	}
	if u, e := graph.Least(api.Tree{Nodes: many, Root: 7}); e != api.OK || !graph.Same(u, kit.T(n("s", 0))) {
		t.Error(u, e)
	}
	many[999] = n("a")
	if _, e := graph.Least(api.Tree{Nodes: many}); e != api.ErrMany {
		t.Error(e)
	}
	if u, e := graph.Least(api.Tree{Nodes: many, Root: 940}); e != api.OK || len(u.Nodes) != 60 {
		t.Error(e)
	}
}

func TestKnots(t *testing.T) {
	k := graph.Knots{Cells: []api.Node{n("s", -1), n("p", -2, -3)}, Results: []int{0, -1, 1, -5, -4}, Ended: []bool{true, true, false, true, true}}
	u, is := k.Tree(-2)
	_, open := k.Tree(1)
	_, round := k.Follow(-4)
	if !is || !graph.Same(u, kit.T(n("s", 0))) || open || !round {
		t.Error(u, is, open, round)
	}
}

func TestCopies(t *testing.T) {
	nodes := []api.Node{n("p", 0, 1), n("s", 0)}
	m := graph.Moved(nodes, 2)
	m[0].Kids = append(m[0].Kids, 9)
	if m[1].Kids[0] != 2 || nodes[0].Kids[1] != 1 {
		t.Error(m, nodes)
	}
}
