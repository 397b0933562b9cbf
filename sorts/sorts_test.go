package sorts_test

import (
	"reflect"
	"slices"
	"testing"

	"roundelay/api"
	"roundelay/graph"
	"roundelay/kit"
	"roundelay/sorts"
	"roundelay/tree"
)

var n, tr = kit.N, kit.T

func alt(name string, kids ...int) api.Alt    { return api.Alt{Name: name, Kids: kids} }
func sort(rank int, alts ...api.Alt) api.Sort { return api.Sort{Rank: rank, Alts: alts} }
func ty(l ...api.Sort) api.Type               { return api.Type{Sorts: l} }
func lists(rank int) api.Type {
	return ty(sort(rank, alt("nil"), alt("cons", 1, 0)), sort(0, alt("a")))
}
func same(a, b api.Type) bool         { return reflect.DeepEqual(norm(a), norm(b)) }
func errs(l ...api.Errno) []api.Errno { return l }
func all(l []api.Errno, e api.Errno) bool {
	return slices.Equal(l, slices.Repeat([]api.Errno{e}, len(l)))
}
func dice(d *kit.Dice, ranks int) (u api.Type) {
	many := 1 + d.Roll(4)
	for range many {
		s := sort(d.Roll(ranks))
		for _, a := range []api.Alt{alt("a"), alt("b"), alt("s", 0), alt("t", 0), alt("p", 0, 0)} {
			if d.Roll(2) == 0 {
				for i := range a.Kids {
					a.Kids[i] = d.Roll(many)
				}
				s.Alts = append(s.Alts, a)
			}
		}
		u.Sorts = append(u.Sorts, s)
	}
	u.Start = d.Roll(many)
	return u
}

// norm makes all empty lists nil.
func norm(t api.Type) api.Type {
	u := api.Type{Start: t.Start}
	for _, s := range t.Sorts {
		v := api.Sort{Rank: s.Rank}
		for _, a := range s.Alts {
			v.Alts = append(v.Alts, api.Alt{Name: a.Name, Kids: append([]int(nil), a.Kids...)})
		}
		u.Sorts = append(u.Sorts, v)
	}
	return u
}

func TestCheck(t *testing.T) { // P5.1
	many := slices.Repeat([]api.Sort{sort(0)}, 25)
	seven := []api.Alt{alt("a"), alt("b"), alt("c"), alt("d"), alt("e"), alt("f"), alt("g")}
	for i, x := range []struct {
		t api.Type
		e api.Errno
	}{
		{lists(0), api.OK}, {ty(), api.ErrMany}, {ty(many...), api.ErrMany}, {ty(many[1:]...), api.OK}, {ty(sort(9, seven...)), api.ErrMany}, {ty(sort(3, seven[1:]...)), api.OK}, {ty(sort(9, alt("A", 9, 9, 9, 9, 9))), api.ErrMany},
		{ty(sort(0, alt("A", 9)), sort(4)), api.ErrRange}, {ty(sort(-1)), api.ErrRange}, {ty(sort(0, alt("a", 9), alt("A"))), api.ErrForm}, {ty(sort(0, alt("a"), alt("a"), alt("s", 1))), api.ErrNot}, {ty(sort(0, alt("s", -1))), api.ErrNot},
		{api.Type{Sorts: many[:1], Start: 1}, api.ErrNot}, {api.Type{Sorts: many[:1], Start: -1}, api.ErrNot}, {ty(sort(0, alt("a"), alt("b"), alt("a"))), api.ErrTwice}, {ty(sort(0, alt("a"), alt("a", 0))), api.OK},
	} {
		_, _, e3 := sorts.Why(x.t, api.Tree{})
		_, e2 := sorts.Has(x.t, api.Tree{})
		_, e4 := sorts.Shows(x.t, api.Tree{}, make([]int, 3001), nil)
		_, e5 := sorts.Empty(x.t, 99)
		_, e6 := sorts.Ranked(x.t, 9)
		_, e7 := sorts.Start(x.t, 99)
		_, e8 := sorts.Sum(x.t, ty())
		_, e9 := sorts.Sorted(x.t, api.Tree{})
		_, f1 := sorts.Some(x.t)
		_, f2 := sorts.Trim(x.t)
		_, f3 := sorts.Sum(ty(sort(0)), x.t)
		if e := sorts.Check(x.t); e != x.e {
			t.Error(i, e)
		}
		if x.e == api.OK {
			if !slices.Equal(errs(e2, e3, e4, e5, e6, e7, e8, e9), errs(api.ErrMany, api.ErrMany, api.ErrMany, api.ErrNot, api.ErrRange, api.ErrNot, api.ErrMany, api.ErrMany)) {
				t.Error(i, e2, e3, e4, e5, e6, e7, e8, e9)
			}
		} else if !all(errs(e2, e3, e4, e5, e6, e7, e8, e9, f1, f2, f3), x.e) {
			t.Error(i, e2, e3, e4, e5, e6, e7, e8, e9, f1, f2, f3)
		}
	}
	u, e := sorts.Start(lists(0), 1)
	r, f := sorts.Ranked(lists(0), 3)
	if e != api.OK || f != api.OK || u.Start != 1 || !same(r, ty(sort(3, alt("nil"), alt("cons", 1, 0)), sort(3, alt("a")))) {
		t.Error(u, r)
	}
}

func TestHas(t *testing.T) { // P5.2
	lost := tr(n("cons", 1, 2), n("b"), n("nil"))
	xy := tr(n("x", 1), n("y", 0))
	for i, x := range []struct {
		ty          api.Type
		t           api.Tree
		is          bool
		stem, round []int
	}{
		{lists(0), kit.List(), false, nil, []int{1}}, {lists(1), kit.List(), true, nil, nil}, {lists(1), lost, false, []int{0}, nil}, {lists(2), kit.List(), false, nil, []int{1}}, {lists(3), kit.List(), true, nil, nil},
		{ty(sort(1, alt("x", 1)), sort(2, alt("y", 0))), xy, false, nil, []int{0, 0}}, {ty(sort(3, alt("x", 1)), sort(2, alt("y", 0))), xy, true, nil, nil},
		{lists(0), tr(n("cons", 1, 2), n("a"), n("nil")), true, nil, nil}, {lists(0), tr(n("cons", 1), n("a")), false, nil, nil},
	} {
		is, e := sorts.Has(x.ty, x.t)
		stem, round, f := sorts.Why(x.ty, x.t)
		g, _ := sorts.Shows(x.ty, x.t, x.stem, x.round)
		h, _ := sorts.Shows(x.ty, x.t, stem, round)
		if is != x.is || e != api.OK || (f == api.ErrNone) != is || g == is || f == api.OK && !h {
			t.Error(i, is, e, stem, round, f, g, h)
		}
	}
	for i, x := range []struct{ stem, round []int }{{[]int{0}, nil}, {[]int{7}, nil}, {[]int{-1}, []int{1}}, {[]int{0}, []int{0}}, {nil, []int{0}}, {[]int{1}, []int{1, 9}}, {nil, nil}} {
		if is, e := sorts.Shows(lists(0), kit.List(), x.stem, x.round); is || e != api.OK {
			t.Error(i, is, e)
		}
	}
	long := slices.Repeat([]int{1}, 1501)
	is, e := sorts.Shows(lists(0), kit.List(), long, long[2:])
	_, f := sorts.Shows(lists(0), kit.List(), long, long[1:])
	if !is || e != api.OK || f != api.ErrMany {
		t.Error(is, e, f)
	}
	l, e := sorts.Sorted(lists(0), tr(n("cons", 0, 1), n("nil")))
	m, _ := sorts.Sorted(lists(0), kit.List())
	if e != api.OK || !slices.Equal(l, [][2]int{{0, 0}, {0, 1}, {1, 0}}) || !slices.Equal(m, [][2]int{{0, 0}, {1, 1}}) {
		t.Error(l, m)
	}
}

func TestEmpty(t *testing.T) { // P5.3
	s := ty(sort(0, alt("s", 0)), sort(1, alt("s", 1)), sort(0, alt("p", 1, 0), alt("t", 1)), sort(0))
	want := []bool{true, false, false, true}
	for i, w := range want {
		if is, e := sorts.Empty(s, i); is != w || e != api.OK {
			t.Error(i, is, e)
		}
	}
	_, e := sorts.Empty(s, 4)
	_, f := sorts.Empty(s, -1)
	_, g := sorts.Some(s)
	_, h := sorts.Trim(s)
	if e != api.ErrNot || f != api.ErrNot || g != api.ErrNone || h != api.ErrNone {
		t.Error(e, f, g, h)
	}
	s.Start = 2
	u, _ := sorts.Trim(s)
	x, _ := sorts.Some(s)
	if !same(u, ty(sort(0, alt("t", 1)), sort(1, alt("s", 1)))) || !graph.Same(x, tr(n("t", 1), n("s", 1))) {
		t.Error(u, x)
	}
	// Both players choose: the lesser sort must be left in the end.
	if is, _ := sorts.Empty(ty(sort(2, alt("x", 1)), sort(1, alt("y", 0), alt("y", 0, 1))), 0); !is {
		t.Error("not empty")
	}
}

func TestOf(t *testing.T) { // P5.4
	u, e := sorts.Of(kit.List2())
	if e != api.OK || !same(u, ty(sort(1, alt("cons", 1, 0)), sort(1, alt("a")))) {
		t.Error(u, e)
	}
	var long api.Tree
	for i := range 25 {
		long.Nodes = append(long.Nodes, n("s", i+1))
	}
	long.Nodes[24] = n("a")
	_, e = sorts.Of(long)
	long.Root = 1
	_, f := sorts.Of(long)
	if e != api.ErrMany || f != api.OK {
		t.Error(e, f)
	}
	for e, w := range kit.Wrong() {
		if _, f := sorts.Of(w); f != e {
			t.Error(e, f)
		}
	}
	b := ty(sort(2, alt("b"), alt("s", 0)))
	s, e := sorts.Sum(lists(1), b)
	if e != api.OK || !same(s, ty(sort(0, alt("nil"), alt("cons", 2, 1), alt("b"), alt("s", 3)), sort(1, alt("nil"), alt("cons", 2, 1)), sort(0, alt("a")), sort(2, alt("b"), alt("s", 3)))) {
		t.Error(s, e)
	}
	four := ty(append([]api.Sort{sort(0, alt("c"), alt("d"), alt("e"), alt("f"))}, slices.Repeat([]api.Sort{sort(0)}, 23)...)...)
	five := ty(sort(0, alt("c", 0), alt("d", 0), alt("e", 0), alt("f", 0), alt("g", 0), alt("c")))
	_, e = sorts.Sum(lists(0), lists(0))
	_, f = sorts.Sum(lists(0), four)
	_, g := sorts.Sum(b, five)
	_, h := sorts.Sum(four, five)
	if e != api.ErrTwice || f != api.ErrMany || g != api.ErrMany || h != api.ErrTwice {
		t.Error(e, f, g, h)
	}
}

func TestWhatFollows(t *testing.T) { // P5.5
	var d kit.Dice
	for i := range 1500 {
		a, b, x := dice(&d, 4), dice(&d, 2), d.Tree(5)
		is, _ := sorts.Has(a, x)
		l, _ := tree.Trim(x)
		again, _ := sorts.Has(a, l)
		stem, round, e := sorts.Why(a, x)
		shown, _ := sorts.Shows(a, x, stem, round)
		if again != is || (e == api.ErrNone) != is || shown == is {
			t.Error(i, a, x, is, again, stem, round, e, shown)
		}
		empty, _ := sorts.Empty(a, a.Start)
		some, e := sorts.Some(a)
		ok, _ := sorts.Has(a, some)
		u, f := sorts.Trim(a)
		if (e == api.ErrNone) != empty || (f == api.ErrNone) != empty || !empty && (!ok || len(some.Nodes) > len(a.Sorts)) || empty && is {
			t.Error(i, a, empty, some, e, f)
		}
		if !empty {
			in, _ := sorts.Has(u, x)
			v, _ := sorts.Trim(u)
			if in != is || !same(u, v) {
				t.Error(i, a, u, v, x)
			}
		}
		finite, _ := tree.Finite(x)
		r0, _ := sorts.Ranked(a, 0)
		r1, _ := sorts.Ranked(a, 1)
		in0, _ := sorts.Has(r0, x)
		in1, _ := sorts.Has(r1, x)
		if in0 != (in1 && finite) {
			t.Error(i, in0, in1, finite)
		}
		inB, _ := sorts.Has(b, x)
		// Only the ranks of the old sorts come again and again.
		if s, e := sorts.Sum(a, b); e == api.OK {
			if in, _ := sorts.Has(s, x); in != (is || inB) {
				t.Error(i, a, b, s, x, in, is, inB)
			}
		}
	}
}
