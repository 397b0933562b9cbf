package tree_test

import (
	"slices"
	"strings"
	"testing"

	"roundelay/api"
	"roundelay/graph"
	"roundelay/kit"
	"roundelay/tree"
)

// n and t write trees.
var n, tr = kit.N, kit.T

func TestCheck(t *testing.T) { // P1.1
	many := slices.Repeat([]api.Node{n("a")}, 61)
	for i, x := range []struct {
		t api.Tree
		e api.Errno
	}{
		{kit.List(), api.OK}, {tr(), api.ErrMany}, {tr(many...), api.ErrMany}, {tr(many[1:]...), api.OK},
		{tr(n("A", 0, 0, 0, 0, 9)), api.ErrMany}, {tr(n("p", 0, 0, 0, 0)), api.OK},
		{tr(n("", 7)), api.ErrForm}, {tr(n("abcdefghi")), api.ErrForm}, {tr(n("abcdefgh")), api.OK}, {tr(n("a1")), api.ErrForm},
		{tr(n("s", 1)), api.ErrNot}, {tr(n("s", -1)), api.ErrNot}, {api.Tree{Nodes: many[:1], Root: 1}, api.ErrNot},
		{tr(n("s", 9), n("Q")), api.ErrForm},
	} {
		if e := tree.Check(x.t); e != x.e {
			t.Error(i, e)
		}
	}
	for e, w := range kit.Wrong() {
		_, e1 := tree.Trim(w)
		_, e2 := tree.Reach(w)
		_, e3 := tree.At(w, kit.Long())
		_, e4 := tree.Name(w, kit.Long())
		_, e5 := tree.Cut(w, -1)
		_, e6 := tree.Count(w, -1)
		_, e7 := tree.Finite(w)
		_, e8 := tree.Height(w)
		_, _, e9 := tree.Loop(w)
		_, e10 := tree.Put(w, nil, tr())
		_, e11 := tree.Put(kit.List(), kit.Long(), w)
		_, e12 := tree.Join("", []api.Tree{w})
		_, e13 := tree.Names(w)
		_, e14 := tree.Paths(w, "", -1)
		for i, g := range []api.Errno{e1, e2, e3, e4, e5, e6, e7, e8, e9, e10, e11, e12, e13, e14} {
			if g != e {
				t.Error(i, g, e)
			}
		}
	}
}

func TestParts(t *testing.T) { // P1.2
	g := api.Tree{Nodes: []api.Node{n("a"), n("p", 3, 0), n("b"), n("s", 1)}, Root: 1}
	l, _ := tree.Reach(g)
	u, _ := tree.Trim(g)
	names, _ := tree.Names(g)
	if !slices.Equal(l, []int{1, 3, 0}) || !graph.Same(u, tr(n("p", 1, 2), n("s", 0), n("a"))) || !slices.Equal(names, []string{"a", "p", "s"}) {
		t.Error(l, u, names)
	}
	u.Nodes[0].Kids[0] = 9
	if g.Nodes[1].Kids[0] != 3 {
		t.Error("memory is shared")
	}
	a, e := tree.At(kit.List(), []int{1, 1, 0})
	if e != api.OK || !graph.Same(a, tr(n("a"))) {
		t.Error(a, e)
	}
	for i, x := range []struct {
		path []int
		e    api.Errno
	}{{[]int{0, 0}, api.ErrNot}, {[]int{2}, api.ErrNot}, {[]int{-1}, api.ErrNot}, {slices.Repeat([]int{9}, 41), api.ErrMany}, {slices.Repeat([]int{1}, 40), api.OK}} {
		_, e := tree.At(kit.List(), x.path)
		s, f := tree.Name(kit.List(), x.path)
		if e != x.e || f != x.e || (s == "cons") != (e == api.OK) {
			t.Error(i, e, f, s)
		}
	}
}

func TestCuts(t *testing.T) { // P1.3
	s, e := tree.Cut(kit.List(), 3)
	c, f := tree.Count(kit.List(), 3)
	if s != "cons(a,cons(a,cons(_,_)))" || c != 5 || e != api.OK || f != api.OK {
		t.Error(s, c, e, f)
	}
	s, _ = tree.Cut(kit.List(), 0)
	c, _ = tree.Count(kit.List(), 0)
	if s != "_" || c != 0 {
		t.Error(s, c)
	}
	two := tr(n("p", 0, 0))
	for _, d := range []int{-1, 41} {
		_, e := tree.Cut(two, d)
		_, f := tree.Count(two, d)
		if e != api.ErrRange || f != api.ErrRange {
			t.Error(d, e, f)
		}
	}
	_, e = tree.Cut(two, 40)
	_, f = tree.Count(two, 40)
	c, g := tree.Count(two, 16)
	_, h := tree.Count(two, 17)
	if e != api.ErrLong || f != api.ErrLong || c != 65535 || g != api.OK || h != api.ErrLong {
		t.Error(e, f, c, g, h)
	}
	// A text of just api.MaxBytes bytes: 4 * 13107 is 52428, and so on.
	wide := tr(n("aaaaaaaa", 0, 0, 0))
	last := 0
	for d := range 12 {
		s, e := tree.Cut(wide, d)
		if (e == api.OK) != (len(s) > 0) || len(s) > api.MaxBytes || e == api.OK && len(s) < last {
			t.Error(d, len(s), e)
		}
		last = len(s)
	}
}

func TestRounds(t *testing.T) { // P1.4
	for i, x := range []struct {
		t           api.Tree
		stem, round []int
	}{
		{kit.List(), nil, []int{1}}, {tr(n("p", 1, 2), n("s", 1), n("a")), []int{0}, []int{0}},
		{tr(n("p", 1, 2), n("s", 0), n("s", 2)), nil, []int{0, 0}}, {tr(n("p", 1, 0), n("s", 1)), nil, []int{1}},
		{tr(n("q", 1, 0, 0), n("a")), nil, []int{1}}, {tr(n("p", 1, 2), n("s", 3), n("s", 2), n("a")), []int{1}, []int{0}},
	} {
		a, b, e := tree.Loop(x.t)
		is, _ := tree.Finite(x.t)
		_, f := tree.Height(x.t)
		if e != api.OK || !slices.Equal(a, x.stem) || !slices.Equal(b, x.round) || is || f != api.ErrClash {
			t.Error(i, a, b, e, is, f)
		}
	}
	two := tr(n("p", 1, 1), n("s", 2), n("a"), n("s", 3))
	_, _, e := tree.Loop(two)
	is, _ := tree.Finite(two)
	high, f := tree.Height(two)
	if e != api.ErrNone || !is || high != 2 || f != api.OK {
		t.Error(e, is, high, f)
	}
}

func TestPut(t *testing.T) { // P1.5
	b := tr(n("b"))
	u, e := tree.Put(kit.List(), []int{1, 0}, b)
	if e != api.OK || !graph.Same(u, tr(n("cons", 1, 2), n("a"), n("cons", 3, 4), n("b"), n("cons", 1, 4))) {
		t.Error(u, e)
	}
	v, _ := tree.Put(kit.List(), nil, api.Tree{Nodes: []api.Node{n("a"), n("s", 0)}, Root: 1})
	_, e = tree.Put(kit.List(), []int{0, 0}, b)
	_, f := tree.Put(kit.List(), kit.Long(), b)
	if e != api.ErrNot || f != api.ErrMany || !graph.Same(v, tr(n("s", 1), n("a"))) {
		t.Error(v, e, f)
	}
	j, e := tree.Join("p", []api.Tree{tr(n("a")), tr(n("a"))})
	_, f = tree.Join("", slices.Repeat([]api.Tree{b}, 5))
	_, g := tree.Join("A", []api.Tree{b})
	one, h := tree.Join("a", nil)
	if e != api.OK || f != api.ErrMany || g != api.ErrForm || h != api.OK || !graph.Same(j, tr(n("p", 1, 2), n("a"), n("a"))) || !graph.Same(one, tr(n("a"))) {
		t.Error(j, e, f, g, one, h)
	}
	var long api.Tree
	for i := range 60 {
		long.Nodes = append(long.Nodes, n("s", min(i+1, 59)))
	}
	_, e = tree.Join("p", []api.Tree{long})
	_, f = tree.Put(kit.List(), []int{0}, long)
	_, g = tree.Put(long, []int{0}, b)
	if e != api.ErrMany || f != api.ErrMany || g != api.OK {
		t.Error(e, f, g)
	}
}

func TestPaths(t *testing.T) { // P1.6
	two := tr(n("p", 1, 1), n("s", 2), n("a"))
	l, e := tree.Paths(two, "a", 3)
	m, _ := tree.Paths(kit.List(), "cons", 3)
	k, f := tree.Paths(kit.List(), "No", 3)
	_, g := tree.Paths(two, "a", 41)
	_, h := tree.Paths(tr(n("p", 0, 0)), "b", 17)
	same := func(a, b [][]int) bool { return slices.EqualFunc(a, b, slices.Equal[[]int]) }
	if e != api.OK || f != api.OK || g != api.ErrRange || h != api.ErrLong || len(k) != 0 || !same(l, [][]int{{0, 0}, {1, 0}}) || !same(m, [][]int{{}, {1}, {1, 1}}) {
		t.Error(l, m, k, e, f, g, h)
	}
}

func TestWhatFollows(t *testing.T) { // P1.7
	var d kit.Dice
	for i := range 400 {
		g := d.Tree(7)
		u, _ := tree.Trim(g)
		v, _ := tree.Trim(u)
		a, _ := tree.Cut(g, 6)
		b, _ := tree.Cut(u, 6)
		if !graph.Same(u, v) || a != b {
			t.Fatal(i, g, u, v)
		}
		is, _ := tree.Finite(g)
		deep, _ := tree.Cut(g, 8)
		if is == strings.Contains(deep, "_") {
			t.Error(i, is, deep)
		}
		if stem, round, e := tree.Loop(g); e == api.OK {
			x, _ := tree.At(g, stem)
			y, _ := tree.At(g, slices.Concat(stem, round, round))
			if !graph.Same(x, y) {
				t.Error(i, stem, round)
			}
		}
		path := []int{}
		for x := g; len(x.Nodes[x.Root].Kids) > 0 && len(path) < 3; x, _ = tree.At(g, path) {
			path = append(path, d.Roll(len(x.Nodes[x.Root].Kids)))
		}
		h := d.Tree(4)
		p, e := tree.Put(g, path, h)
		q, f := tree.At(p, path)
		w, _ := tree.Trim(h)
		if e != api.OK || f != api.OK || !graph.Same(q, w) {
			t.Error(i, g, path, h, p, q)
		}
	}
}
