package upto_test

import (
	"slices"
	"testing"

	"roundelay/alike"
	"roundelay/api"
	"roundelay/graph"
	"roundelay/kit"
	"roundelay/upto"
)

var n, tr = kit.N, kit.T

// g is the tree of example 1.
func g() api.Tree { return tr(n("cons", 1, 0), n("a"), n("cons", 1, 3), n("cons", 1, 2)) }

func TestErrors(t *testing.T) {
	ok, names := kit.List(), []string{"x", "x", "A", "", "", "", "", "", ""}
	for e, w := range kit.Wrong() {
		long := make([][2]int, 201)
		_, a1 := upto.Equate(w, long)
		_, a2 := upto.Congruent(w, long)
		_, a3 := upto.Holds(w, long)
		_, a4 := upto.Shows(w, long, 9, 9)
		_, a5 := upto.Prove(w, 9, 9)
		_, a6 := upto.Fewer(w, long, 9, 9)
		_, a7 := upto.Spread(w, long)
		_, a8 := upto.Quotient(w, long)
		_, a9 := upto.Instance(w, names, nil)
		_, a10 := upto.Instance(ok, names, []api.Tree{w})
		_, a11 := upto.Unify(ok, w, names)
		_, a12 := upto.Match(ok, w, names)
		_, _, _, a13 := upto.Common(ok, w, names)
		for i, f := range []api.Errno{a1, a2, a3, a4, a5, a6, a7, a8, a9, a10, a11, a12, a13} {
			if f != e {
				t.Error(i, f, e)
			}
		}
	}
	for i, x := range []struct {
		pairs [][2]int
		x     int
		e, f  api.Errno
	}{
		{make([][2]int, 201), 9, api.ErrMany, api.ErrMany}, {[][2]int{{0, 4}}, 0, api.ErrNot, api.ErrNot}, {[][2]int{{-1, 0}}, 0, api.ErrNot, api.ErrNot},
		{make([][2]int, 200), 4, api.OK, api.ErrNot}, {nil, -1, api.OK, api.ErrNot},
	} {
		_, a1 := upto.Equate(g(), x.pairs)
		_, a2 := upto.Congruent(g(), x.pairs)
		_, a3 := upto.Holds(g(), x.pairs)
		_, a4 := upto.Spread(g(), x.pairs)
		_, a5 := upto.Quotient(g(), x.pairs)
		_, b1 := upto.Shows(g(), x.pairs, x.x, 0)
		_, b2 := upto.Fewer(g(), x.pairs, 0, x.x)
		if !slices.Equal([]api.Errno{a1, a2, a3, a4, a5}, slices.Repeat([]api.Errno{x.e}, 5)) || b1 != x.f || b2 != x.f {
			t.Error(i, a1, a2, a3, a4, a5, b1, b2)
		}
	}
	bad := tr(n("x", 1), n("a"))
	for i, x := range []struct {
		t     api.Tree
		names []string
		e     api.Errno
	}{
		{bad, slices.Repeat([]string{""}, 9), api.ErrMany}, {bad, []string{"y", "y", "A"}, api.ErrForm}, {bad, []string{"x", "x"}, api.ErrTwice}, {bad, []string{"x"}, api.ErrForm},
		{tr(n("a"), n("x", 0)), []string{"x"}, api.OK},
	} {
		_, a1 := upto.Instance(x.t, x.names, []api.Tree{tr(n("b")), bad}[:min(2, len(x.names))])
		_, a2 := upto.Unify(tr(n("a")), x.t, x.names)
		_, a3 := upto.Match(x.t, tr(n("a")), x.names)
		_, _, _, a4 := upto.Common(tr(n("a")), x.t, x.names)
		if a1 != x.e || a2 != x.e || a3 != x.e || a4 != x.e {
			t.Error(i, a1, a2, a3, a4)
		}
	}
	if _, e := upto.Match(tr(n("x")), bad, []string{"x"}); e != api.OK {
		t.Error(e)
	}
}

func TestPairs(t *testing.T) { // P3.1
	p := [][2]int{{0, 2}}
	a, _ := upto.Equate(g(), p)
	b, _ := upto.Congruent(g(), p)
	is, _ := upto.Holds(g(), p)
	shown, _ := upto.Shows(g(), p, 0, 3)
	not, _ := upto.Shows(g(), p, 0, 1)
	if !slices.Equal(a, []int{0, 1, 0, 3}) || !slices.Equal(b, []int{0, 1, 0, 0}) || !is || !shown || not {
		t.Error(a, b, is, shown, not)
	}
	s := tr(n("s", 1), n("s", 0), n("s", 3), n("s", 2), n("a"))
	is, _ = upto.Shows(s, [][2]int{{0, 1}}, 0, 1)
	not, _ = upto.Shows(s, [][2]int{{0, 1}}, 2, 3)
	wrong, _ := upto.Holds(s, [][2]int{{0, 4}})
	half, _ := upto.Holds(s, [][2]int{{0, 2}})
	if !is || not || wrong || !half {
		t.Error(is, not, wrong, half)
	}
	// Two leaves of one name are congruent; pairs that are equal to the same are equal.
	u := tr(n("a"), n("a"), n("b"), n("s", 0), n("s", 1), n("c"))
	b, _ = upto.Congruent(u, nil)
	a, _ = upto.Equate(u, [][2]int{{5, 4}, {4, 2}})
	if !slices.Equal(b, []int{0, 0, 2, 3, 3, 5}) || !slices.Equal(a, []int{0, 1, 2, 3, 2, 2}) {
		t.Error(b, a)
	}
}

func TestFewPairs(t *testing.T) { // P3.2
	l, e := upto.Prove(g(), 0, 3)
	is, _ := upto.Shows(g(), l, 0, 3)
	if e != api.OK || !is || len(l) >= 4 {
		t.Error(l, e, is)
	}
	if _, e := upto.Prove(g(), 0, 1); e != api.ErrClash {
		t.Error(e)
	}
	f, e := upto.Fewer(g(), [][2]int{{0, 2}, {1, 1}, {0, 3}, {2, 3}}, 0, 3)
	if e != api.OK || !slices.Equal(f, [][2]int{{0, 2}}) {
		t.Error(f, e)
	}
	if _, e := upto.Fewer(g(), [][2]int{{0, 1}}, 0, 1); e != api.ErrWrong {
		t.Error(e)
	}
}

func TestSpread(t *testing.T) { // P3.3
	c, e := upto.Spread(g(), [][2]int{{0, 2}})
	q, f := upto.Quotient(g(), [][2]int{{0, 2}})
	if e != api.OK || f != api.OK || !slices.Equal(c, []int{0, 1, 0, 0}) || !graph.Same(q, kit.List()) {
		t.Error(c, e, q, f)
	}
	_, e = upto.Spread(g(), [][2]int{{0, 1}})
	_, f = upto.Quotient(tr(n("s", 1), n("a"), n("s", 3), n("b")), [][2]int{{0, 2}})
	if e != api.ErrClash || f != api.ErrClash {
		t.Error(e, f)
	}
}

func TestUnknowns(t *testing.T) { // P3.4
	x, xy := []string{"x"}, []string{"x", "y"}
	if _, e := upto.Unify(tr(n("p", 1, 2), n("x"), n("a")), tr(n("p", 1, 2), n("s", 3), n("x"), n("x")), x); e != api.ErrClash {
		t.Error(e)
	}
	endless := tr(n("s", 0))
	l, e := upto.Unify(tr(n("p", 1, 1), n("x")), tr(n("p", 1, 2), n("y"), n("s", 1)), xy)
	if e != api.OK || len(l) != 2 || !graph.Same(l[0], endless) || !graph.Same(l[1], endless) {
		t.Error(l, e)
	}
	l, e = upto.Unify(tr(n("p", 1, 2), n("y"), n("a")), tr(n("p", 1, 2), n("x"), n("a")), []string{"x", "y", "z"})
	if e != api.OK || !graph.Same(l[0], tr(n("x"))) || !graph.Same(l[1], tr(n("x"))) || !graph.Same(l[2], tr(n("z"))) {
		t.Error(l, e)
	}
	m, e := upto.Match(tr(n("p", 1, 1), n("x")), tr(n("p", 1, 2), n("s", 3), n("s", 4), n("a"), n("a")), xy)
	_, f := upto.Match(tr(n("p", 1, 1), n("x")), tr(n("p", 1, 2), n("a"), n("b")), x)
	_, h := upto.Match(tr(n("s", 1), n("x")), tr(n("t", 1), n("x")), x)
	if e != api.OK || f != api.ErrClash || h != api.ErrClash || !graph.Same(m[0], tr(n("s", 1), n("a"))) || !graph.Same(m[1], tr(n("y"))) {
		t.Error(m, e, f, h)
	}
	u, e := upto.Instance(tr(n("p", 1, 2), n("x"), n("y")), xy, []api.Tree{tr(n("s", 1), n("y")), tr(n("s", 0))})
	_, f = upto.Instance(tr(n("a")), xy, []api.Tree{tr(n("b"))})
	root, h := upto.Instance(tr(n("x")), x, []api.Tree{kit.List2()})
	if e != api.OK || f != api.ErrMany || h != api.OK || !graph.Same(u, tr(n("p", 1, 2), n("s", 3), n("s", 2), n("y"))) || !graph.Same(root, kit.List()) {
		t.Error(u, e, f, root, h)
	}
	var long, other api.Tree
	for i := range 59 {
		long.Nodes = append(long.Nodes, n("s", i+1))
		other.Nodes = append(other.Nodes, n("t", i+1))
	}
	long.Nodes, other.Nodes = append(long.Nodes, n("x")), append(other.Nodes, n("a"))
	if _, e := upto.Instance(long, x, []api.Tree{other}); e != api.ErrMany {
		t.Error(e)
	}
	if _, e := upto.Unify(tr(n("q", 1, 2), n("x"), n("y")), tr(n("q", 1, 2), n("s", 2), n("a")), xy); e != api.OK {
		t.Error(e)
	}
}

func TestCommon(t *testing.T) { // P3.5
	a, b := tr(n("p", 1, 2), n("a"), n("a")), tr(n("p", 1, 2), n("b"), n("b"))
	c, l, r, e := upto.Common(a, b, []string{"x"})
	if e != api.OK || !graph.Same(c, tr(n("p", 1, 1), n("x"))) || len(l) != 1 || !graph.Same(l[0], tr(n("a"))) || !graph.Same(r[0], tr(n("b"))) {
		t.Error(c, l, r, e)
	}
	ab, ba := tr(n("p", 1, 2), n("a"), n("b")), tr(n("p", 1, 2), n("b"), n("a"))
	_, _, _, e = upto.Common(ab, ba, []string{"x"})
	c, l, _, f := upto.Common(ab, ba, []string{"y", "x", "z"})
	_, _, _, h := upto.Common(tr(n("x")), a, []string{"x"})
	if e != api.ErrMany || f != api.OK || h != api.ErrClash || !graph.Same(c, tr(n("p", 1, 2), n("y"), n("x"))) || len(l) != 2 || !graph.Same(l[1], tr(n("b"))) {
		t.Error(e, c, l, f, h)
	}
}

func TestWhatFollows(t *testing.T) { // P3.6
	var d kit.Dice
	names := []string{"a", "b"}
	for i := range 400 {
		u, v := d.Tree(5), d.Tree(5)
		x, y := d.Roll(len(u.Nodes)), d.Roll(len(u.Nodes))
		same, _ := alike.Alike(api.Tree{Nodes: u.Nodes, Root: x}, api.Tree{Nodes: u.Nodes, Root: y})
		l, e := upto.Prove(u, x, y)
		_, f := upto.Spread(u, [][2]int{{x, y}})
		if shown, _ := upto.Shows(u, l, x, y); (e == api.OK) != same || e == api.OK && (!shown || len(l) >= len(u.Nodes)) || (f == api.OK) != same {
			t.Error(i, u, x, y, same, l, e, f)
		}
		if s, e := upto.Unify(u, v, names); e == api.OK {
			p, _ := upto.Instance(u, names, s)
			q, _ := upto.Instance(v, names, s)
			if is, _ := alike.Alike(p, q); !is {
				t.Error(i, u, v, s, p, q)
			}
		}
		if s, e := upto.Match(u, v, names); e == api.OK {
			p, _ := upto.Instance(u, names, s)
			if is, _ := alike.Alike(p, v); !is {
				t.Error(i, u, v, s)
			}
		}
		free := []string{"c", "d", "e", "f"}
		if c, left, right, e := upto.Common(u, v, free); e == api.OK {
			p, f := upto.Instance(c, free[:len(left)], left)
			q, g := upto.Instance(c, free[:len(right)], right)
			is, _ := alike.Alike(p, u)
			isToo, _ := alike.Alike(q, v)
			if f != api.OK || g != api.OK || !is || !isToo {
				t.Error(i, u, v, c)
			}
		}
	}
}
