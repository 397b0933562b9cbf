package alike_test

import (
	"slices"
	"testing"

	"roundelay/alike"
	"roundelay/api"
	"roundelay/graph"
	"roundelay/kit"
	"roundelay/tree"
)

var n, tr = kit.N, kit.T

func TestErrors(t *testing.T) {
	ok := kit.List()
	for e, w := range kit.Wrong() {
		_, a1 := alike.Alike(w, tr())
		_, a2 := alike.Alike(ok, w)
		_, a3 := alike.Apart(w, w)
		_, a4 := alike.Depth(ok, w)
		_, a5 := alike.Order(ok, w)
		_, a6 := alike.Relate(ok, w)
		_, a7 := alike.Related(ok, w, make([][2]int, 3601))
		_, a8 := alike.Classes(w)
		_, a9 := alike.Least(w)
		_, a10 := alike.IsLeast(w)
		_, a11 := alike.Sub(ok, w)
		_, _, a12 := alike.Share([]api.Tree{ok, w})
		_, a13 := alike.Sort([]api.Tree{ok, w})
		for i, f := range []api.Errno{a1, a2, a3, a4, a5, a6, a7, a8, a9, a10, a11, a12, a13} {
			if f != e && !(i == 0 && e != api.ErrMany && f == e) {
				t.Error(i, f, e)
			}
		}
	}
}

func TestAlike(t *testing.T) { // P2.1
	l, m, x := kit.List(), kit.List2(), tr(n("cons", 1, 2), n("a"), n("nil"))
	is, e := alike.Alike(l, m)
	_, f := alike.Apart(l, m)
	d, _ := alike.Depth(l, m)
	o, _ := alike.Order(l, m)
	if !is || e != api.OK || f != api.ErrNone || d != -1 || o != 0 {
		t.Error(is, e, f, d, o)
	}
	is, _ = alike.Alike(l, x)
	p, e := alike.Apart(l, x)
	d, _ = alike.Depth(l, x)
	o, _ = alike.Order(l, x)
	back, _ := alike.Order(x, l)
	if is || e != api.OK || !slices.Equal(p, []int{1}) || d != 1 || o != -1 || back != 1 {
		t.Error(is, e, p, d, o, back)
	}
	// The shortest path comes first, not the first one in depth; with the same name fewer nodes below come first.
	y := tr(n("p", 1, 2), n("s", 3), n("b"), n("c"))
	z := tr(n("p", 1, 2), n("s", 3), n("bb"), n("a"))
	p, _ = alike.Apart(y, z)
	o, _ = alike.Order(y, z)
	few, _ := alike.Order(tr(n("a", 1), n("b")), tr(n("a", 1, 1), n("a")))
	if !slices.Equal(p, []int{1}) || o != -1 || few != -1 {
		t.Error(p, o, few)
	}
}

func TestRelations(t *testing.T) { // P2.2
	l, m := kit.List(), kit.List2()
	pairs, e := alike.Relate(l, m)
	if e != api.OK || !slices.Equal(pairs, [][2]int{{0, 0}, {1, 1}, {0, 2}}) {
		t.Error(pairs, e)
	}
	if _, e := alike.Relate(l, tr(n("a"))); e != api.ErrClash {
		t.Error(e)
	}
	for i, x := range []struct {
		pairs [][2]int
		is    bool
		e     api.Errno
	}{
		{pairs, true, api.OK}, {[][2]int{{0, 2}, {0, 0}, {1, 1}, {0, 0}}, true, api.OK}, {nil, false, api.OK}, {[][2]int{{0, 0}, {1, 1}}, false, api.OK},
		{[][2]int{{0, 2}, {1, 1}}, false, api.OK}, {append([][2]int{{1, 0}}, pairs...), false, api.OK}, {[][2]int{{0, 3}}, false, api.ErrNot}, {[][2]int{{-1, 0}}, false, api.ErrNot}, {[][2]int{{2, 0}}, false, api.ErrNot},
		{make([][2]int, 3601), false, api.ErrMany}, {slices.Repeat([][2]int{{0, 0}}, 3600), false, api.OK}, {slices.Repeat([][2]int{{9, 9}}, 3601), false, api.ErrMany},
	} {
		if is, e := alike.Related(l, m, x.pairs); is != x.is || e != x.e {
			t.Error(i, is, e)
		}
	}
}

func TestLeast(t *testing.T) { // P2.3
	g := tr(n("p", 1, 2), n("s", 1), n("s", 2))
	c, _ := alike.Classes(g)
	u, _ := alike.Least(g)
	is, _ := alike.IsLeast(g)
	us, _ := alike.IsLeast(u)
	if !slices.Equal(c, []int{0, 1, 1}) || !graph.Same(u, tr(n("p", 1, 1), n("s", 1))) || is || !us {
		t.Error(c, u, is, us)
	}
	h := api.Tree{Nodes: []api.Node{n("a"), n("q"), n("p", 3, 0), n("b")}, Root: 2}
	c, _ = alike.Classes(h)
	is, _ = alike.IsLeast(h)
	if !slices.Equal(c, []int{2, -1, 0, 1}) || is {
		t.Error(c, is)
	}
	u, _ = alike.Least(kit.List2())
	if !graph.Same(u, kit.List()) {
		t.Error(u)
	}
}

func TestSub(t *testing.T) { // P2.4
	p, e := alike.Sub(kit.List2(), tr(n("a")))
	q, f := alike.Sub(kit.List2(), kit.List())
	_, g := alike.Sub(kit.List(), tr(n("b")))
	r, _ := alike.Sub(tr(n("p", 1, 2), n("s", 3), n("a"), n("a")), tr(n("a")))
	if e != api.OK || f != api.OK || g != api.ErrNone || !slices.Equal(p, []int{0}) || len(q) != 0 || !slices.Equal(r, []int{1}) {
		t.Error(p, q, r, e, f, g)
	}
}

func TestShare(t *testing.T) { // P2.5
	a := tr(n("a"))
	u, at, e := alike.Share([]api.Tree{kit.List(), kit.List2(), a})
	if e != api.OK || !graph.Same(u, kit.List()) || !slices.Equal(at, []int{0, 0, 1}) {
		t.Error(u, at, e)
	}
	u, at, _ = alike.Share([]api.Tree{a, tr(n("s", 1), n("b")), kit.List()})
	if !graph.Same(u, tr(n("a"), n("s", 2), n("b"), n("cons", 0, 3))) || !slices.Equal(at, []int{0, 1, 3}) {
		t.Error(u, at)
	}
	var long, wide api.Tree
	for i := range 60 {
		long.Nodes = append(long.Nodes, n("s", i+1))
		wide.Nodes = append(wide.Nodes, n("t", i+1))
	}
	long.Nodes[59], wide.Nodes[59] = n("a"), n("a")
	_, _, e = alike.Share([]api.Tree{long, wide})
	_, _, f := alike.Share(nil)
	_, _, g := alike.Share(slices.Repeat([]api.Tree{{}}, 13))
	_, _, h := alike.Share(slices.Repeat([]api.Tree{long}, 12))
	if e != api.ErrMany || f != api.ErrMany || g != api.ErrMany || h != api.OK {
		t.Error(e, f, g, h)
	}
	l, e := alike.Sort([]api.Tree{tr(n("nil")), a, kit.List()})
	m, _ := alike.Sort([]api.Tree{kit.List2(), kit.List(), a})
	_, f = alike.Sort(slices.Repeat([]api.Tree{{}}, 13))
	none, g := alike.Sort(nil)
	if e != api.OK || !slices.Equal(l, []int{1, 2, 0}) || !slices.Equal(m, []int{2, 0, 1}) || f != api.ErrMany || len(none) != 0 || g != api.OK {
		t.Error(l, m, e, f, none, g)
	}
}

func TestWhatFollows(t *testing.T) { // P2.6
	var d kit.Dice
	for i := range 500 {
		a, b := d.Tree(5), d.Tree(5)
		is, _ := alike.Alike(a, b)
		u, _ := alike.Least(a)
		v, _ := alike.Least(b)
		x, _ := tree.Cut(a, 10)
		y, _ := tree.Cut(b, 10)
		pairs, e := alike.Relate(a, b)
		if is != graph.Same(u, v) || is != (x == y) || is != (e == api.OK) {
			t.Error(i, is, u, v, x, y, e)
		}
		if shown, _ := alike.Related(a, b, pairs); shown != is {
			t.Error(i, shown)
		}
		if p, e := alike.Apart(a, b); e == api.OK {
			cut := func(t api.Tree, n int) string { s, _ := tree.Cut(t, n); return s }
			if len(p) >= len(a.Nodes)+len(b.Nodes) || cut(a, len(p)) != cut(b, len(p)) {
				t.Error(i, p)
			}
			k, _ := tree.At(a, p)
			l, _ := tree.At(b, p)
			if k.Nodes[0].Name == l.Nodes[0].Name && len(k.Nodes[0].Kids) == len(l.Nodes[0].Kids) {
				t.Error(i, p, k, l)
			}
		}
		o, _ := alike.Order(a, b)
		q, _ := alike.Order(b, a)
		same, _ := alike.Alike(a, u)
		w, _ := alike.Least(u)
		if o != -q || (o == 0) != is || !same || !graph.Same(u, w) {
			t.Error(i, o, q, same)
		}
	}
}
