package under_test

import (
	"reflect"
	"slices"
	"testing"

	"roundelay/api"
	"roundelay/graph"
	"roundelay/kit"
	"roundelay/sorts"
	"roundelay/tree"
	"roundelay/under"
)

var n, tr = kit.N, kit.T

func alt(name string, kids ...int) api.Alt    { return api.Alt{Name: name, Kids: kids} }
func sort(rank int, alts ...api.Alt) api.Sort { return api.Sort{Rank: rank, Alts: alts} }
func ty(l ...api.Sort) api.Type               { return api.Type{Sorts: l} }
func lists(rank int) api.Type {
	return ty(sort(rank, alt("nil"), alt("cons", 1, 0)), sort(0, alt("a")))
}

// norm makes all empty lists nil.
func norm(t api.Type) api.Type {
	u := api.Type{Start: t.Start}
	for _, s := range t.Sorts {
		v := api.Sort{Rank: s.Rank}
		for _, a := range s.Alts {
			v.Alts = append(v.Alts, api.Alt{Name: a.Name, Kids: append([]int(nil), a.Kids...)})
		}
		u.Sorts = append(u.Sorts, v)
	}
	return u
}
func same(a, b api.Type) bool { return reflect.DeepEqual(norm(a), norm(b)) }

// roll returns a type.
func roll(d *kit.Dice, ranks int) (u api.Type) {
	many := 1 + d.Roll(3)
	for range many {
		s := sort(d.Roll(ranks))
		for _, a := range []api.Alt{alt("a"), alt("b"), alt("s", 0), alt("p", 0, 0)} {
			if d.Roll(2) == 0 {
				for i := range a.Kids {
					a.Kids[i] = d.Roll(many)
				}
				s.Alts = append(s.Alts, a)
			}
		}
		u.Sorts = append(u.Sorts, s)
	}
	u.Start = d.Roll(many)
	return u
}

func TestErrors(t *testing.T) {
	for e, w := range map[api.Errno]api.Type{api.ErrMany: {}, api.ErrRange: ty(sort(4)), api.ErrForm: ty(sort(0, alt("A"))), api.ErrNot: ty(sort(0, alt("s", 1))), api.ErrTwice: ty(sort(0, alt("a"), alt("a")))} {
		_, a1 := under.Under(lists(0), w)
		_, a2 := under.Why(w, ty())
		_, a3 := under.Shows(lists(0), w, under.Thread{Stem: make([]under.Step, 3001)})
		_, a4 := under.Equal(lists(0), w)
		_, a5 := under.Beyond(lists(0), w)
		_, a6 := under.Apart(lists(0), w)
		_, a7 := under.Only(w)
		_, a8 := under.Classes(w)
		_, a9 := under.Fold(w)
		_, a10 := under.Plain(w)
		_, a11 := under.Meet(lists(0), w)
		_, a12 := under.Cover(w, w)
		for i, f := range []api.Errno{a1, a2, a3, a4, a5, a6, a7, a8, a9, a10, a11, a12} {
			if f != e {
				t.Error(i, f, e)
			}
		}
	}
}

func TestUnder(t *testing.T) { // P6.1
	is, e := under.Under(lists(0), lists(1))
	not, _ := under.Under(lists(1), lists(0))
	eq, _ := under.Equal(lists(0), lists(1))
	_, f := under.Why(lists(0), lists(1))
	if !is || e != api.OK || not || eq || f != api.ErrNone {
		t.Error(is, e, not, eq, f)
	}
	round := under.Thread{Round: []under.Step{{"cons", 2, 1}}}
	other := lists(1)
	other.Sorts[1].Alts = append(other.Sorts[1].Alts, alt("b"))
	for i, x := range []struct {
		a, b api.Type
		t    under.Thread
		is   bool
	}{
		{lists(1), lists(0), round, true}, {lists(0), lists(1), round, false}, {lists(1), lists(0), under.Thread{}, false}, {lists(1), lists(0), under.Thread{Stem: round.Round}, false},
		{other, lists(1), under.Thread{Stem: []under.Step{{"cons", 2, 0}, {"b", 0, 0}}}, true}, {other, lists(1), under.Thread{Stem: []under.Step{{"cons", 2, 0}, {"b", 0, 1}}}, false},
		{other, lists(1), under.Thread{Stem: []under.Step{{"cons", 2, 0}, {"b", 0, 0}}, Round: round.Round}, false}, {lists(1), lists(0), under.Thread{Stem: round.Round, Round: append(round.Round, round.Round...)}, true},
		{lists(1), lists(0), under.Thread{Round: []under.Step{{"cons", 2, 2}}}, false}, {lists(1), lists(0), under.Thread{Round: []under.Step{{"cons", 2, -1}}}, false}, {lists(1), lists(0), under.Thread{Round: []under.Step{{"cons", 1, 0}}}, false},
		{ty(sort(1, alt("s", 0), alt("t", 1)), sort(0)), ty(sort(0, alt("s", 0))), under.Thread{Stem: []under.Step{{"t", 1, 0}}}, false},
	} {
		if is, e := under.Shows(x.a, x.b, x.t); is != x.is || e != api.OK {
			t.Error(i, is, e)
		}
	}
	long := slices.Repeat(round.Round, 3000)
	is, e = under.Shows(lists(1), lists(0), under.Thread{Round: long})
	_, f = under.Shows(lists(1), lists(0), under.Thread{Stem: round.Round, Round: long})
	if !is || e != api.OK || f != api.ErrMany {
		t.Error(is, e, f)
	}
}

func TestTrees(t *testing.T) { // P6.2
	u, e := under.Beyond(lists(1), lists(0))
	_, f := under.Beyond(lists(0), lists(1))
	v, g := under.Apart(lists(0), lists(1))
	_, h := under.Apart(lists(0), lists(0))
	if e != api.OK || f != api.ErrNone || g != api.OK || h != api.ErrNone || !graph.Same(u, kit.List()) || !graph.Same(v, kit.List()) {
		t.Error(u, e, f, v, g, h)
	}
	only, e := under.Only(ty(sort(0, alt("s", 1), alt("u")), sort(0, alt("s", 1))))
	_, f = under.Only(lists(0))
	_, g = under.Only(ty(sort(0, alt("s", 0))))
	endless, h := under.Only(ty(sort(1, alt("s", 1)), sort(1, alt("s", 0))))
	if e != api.OK || f != api.ErrMany || g != api.ErrNone || h != api.OK || !graph.Same(only, tr(n("u"))) || !graph.Same(endless, tr(n("s", 0))) {
		t.Error(only, e, f, g, endless, h)
	}
	// A chain of 15 sorts: three times 15, and 15, are 60.
	chain := func(many int) (a, b api.Type) {
		for i := range many {
			a.Sorts = append(a.Sorts, sort(1, alt("s", (i+1)%many)))
			b.Sorts = append(b.Sorts, sort(0, alt("s", (i+1)%many)))
		}
		return a, b
	}
	a, b := chain(15)
	u, e = under.Beyond(a, b)
	in, _ := sorts.Has(a, u)
	a, b = chain(16)
	_, f = under.Beyond(a, b)
	_, g = under.Apart(b, a)
	if e != api.OK || !in || f != api.ErrLong || g != api.ErrLong {
		t.Error(e, in, f, g)
	}
}

func TestSorts(t *testing.T) { // P6.3
	two := ty(sort(1, alt("s", 1)), sort(1, alt("s", 0)))
	f, e := under.Fold(two)
	if e != api.OK || !same(f, ty(sort(1, alt("s", 0)))) {
		t.Error(f, e)
	}
	two.Sorts[1].Rank = 0
	f, _ = under.Fold(two)
	c, _ := under.Classes(two)
	p, _ := under.Plain(two)
	if !same(f, two) || !slices.Equal(c, []int{0, 0}) || p {
		t.Error(f, c, p)
	}
	// The order of alternatives does not matter; that of the first sort is kept; what is not reached is left out.
	x := api.Type{Sorts: []api.Sort{sort(2), sort(0, alt("p", 2, 3), alt("a")), sort(0, alt("b"), alt("a")), sort(0, alt("a"), alt("b"))}, Start: 1}
	f, _ = under.Fold(x)
	c, _ = under.Classes(x)
	if !same(f, ty(sort(0, alt("p", 1, 1), alt("a")), sort(0, alt("b"), alt("a")))) || !slices.Equal(c, []int{0, 1, 2, 2}) {
		t.Error(f, c)
	}
	for i, y := range []struct {
		t  api.Type
		is bool
	}{{lists(0), true}, {lists(2), true}, {lists(1), false}, {ty(sort(0, alt("s", 1)), sort(1)), true}, {ty(sort(1, alt("s", 0)), sort(0)), true}, {ty(sort(3, alt("s", 1)), sort(1, alt("a"))), true}} {
		if is, e := under.Plain(y.t); is != y.is || e != api.OK {
			t.Error(i, is, e)
		}
	}
}

func TestMeet(t *testing.T) { // P6.4
	m, e := under.Meet(lists(0), lists(1))
	c, f := under.Cover(lists(0), lists(1))
	if e != api.OK || f != api.OK || !same(m, lists(0)) || !same(c, ty(sort(1, alt("nil"), alt("cons", 1, 0)), sort(1, alt("a")))) {
		t.Error(m, e, c, f)
	}
	empty := ty(sort(0))
	mixed := ty(sort(1, alt("s", 1)), sort(2, alt("t", 0), alt("a")))
	odd := ty(sort(3, alt("s", 0), alt("t", 0), alt("a")))
	_, e1 := under.Meet(empty, mixed)
	_, e2 := under.Meet(mixed, mixed)
	m3, e3 := under.Meet(odd, mixed)
	m4, e4 := under.Meet(mixed, odd)
	m5, e5 := under.Meet(odd, ty(sort(1, alt("t", 0), alt("s", 0))))
	_, e6 := under.Meet(ty(sort(0, alt("a"))), ty(sort(0, alt("b"))))
	if e1 != api.ErrNone || e2 != api.ErrClash || e3 != api.OK || e4 != api.OK || e5 != api.OK || e6 != api.ErrNone || !same(m3, mixed) || !same(m4, mixed) || !same(m5, ty(sort(3, alt("s", 0), alt("t", 0)))) {
		t.Error(e1, e2, m3, e3, m4, e4, m5, e5, e6)
	}
	chain := func(many int) (a api.Type) {
		for i := range many {
			a.Sorts = append(a.Sorts, sort(1, alt("s", (i+1)%many)))
		}
		return a
	}
	_, e1 = under.Meet(chain(5), chain(6))
	_, e2 = under.Cover(chain(5), chain(6))
	_, e3 = under.Meet(chain(4), chain(6))
	_, e4 = under.Cover(ty(sort(0, alt("a"), alt("b"), alt("c"), alt("d"))), ty(sort(0, alt("e"), alt("f"), alt("g"))))
	_, e5 = under.Cover(empty, empty)
	c6, e6 := under.Cover(empty, lists(0))
	c7, e7 := under.Cover(ty(sort(0, alt("s", 1)), sort(0, alt("a"))), ty(sort(0, alt("u", 1), alt("s", 1)), sort(0, alt("b"))))
	if e1 != api.ErrMany || e2 != api.ErrMany || e3 != api.OK || e4 != api.ErrMany || e5 != api.ErrNone || e6 != api.OK || e7 != api.OK || !same(c6, c) || !same(c7, ty(sort(1, alt("s", 1), alt("u", 2)), sort(1, alt("a"), alt("b")), sort(1, alt("b")))) {
		t.Error(e1, e2, e3, e4, e5, c6, e6, c7, e7)
	}
}

func TestWhatFollows(t *testing.T) { // P6.5
	var d kit.Dice
	for i := range 1500 {
		a, b, x := roll(&d, 4), roll(&d, 2+2*d.Roll(2)), d.Tree(4)
		is, _ := under.Under(a, b)
		why, e := under.Why(a, b)
		shown, _ := under.Shows(a, b, why)
		beyond, f := under.Beyond(a, b)
		inA, _ := sorts.Has(a, beyond)
		inB, _ := sorts.Has(b, beyond)
		if (e == api.ErrNone) != is || shown == is || f == api.OK && (!inA || inB) || (f == api.ErrNone) != is {
			t.Error(i, a, b, is, why, e, shown, beyond, f)
		}
		self, _ := under.Under(a, a)
		fold, _ := under.Fold(a)
		eq, _ := under.Equal(a, fold)
		hasA, _ := sorts.Has(a, x)
		hasB, _ := sorts.Has(b, x)
		if !self || !eq || is && hasA && !hasB {
			t.Error(i, a, b, x, self, eq, is)
		}
		one, _ := sorts.Of(x)
		if in, _ := under.Under(one, a); in != hasA {
			t.Error(i, x, a, in, hasA)
		}
		if m, e := under.Meet(a, b); e == api.OK {
			if in, _ := sorts.Has(m, x); in != (hasA && hasB) {
				t.Error(i, a, b, m, x, in)
			}
		} else if e == api.ErrNone && hasA && hasB {
			t.Error(i, a, b, x)
		}
		if c, e := under.Cover(a, b); e == api.OK {
			p, _ := under.Under(a, c)
			q, _ := under.Under(b, c)
			if !p || !q {
				t.Error(i, a, b, c)
			}
		}
		class, _ := under.Classes(a)
		for j := range class {
			for k := range j + 1 {
				y, _ := sorts.Start(a, j)
				z, _ := sorts.Start(a, k)
				if eq, _ := under.Equal(y, z); eq != (class[j] == class[k]) {
					t.Error(i, a, j, k, class)
				}
			}
		}
		if u, e := under.Only(a); e == api.OK {
			if in, _ := sorts.Has(a, u); !in || hasA && cut(x) != cut(u) {
				t.Error(i, a, u, x)
			}
		}
	}
}

func cut(t api.Tree) string { s, _ := tree.Cut(t, 7); return s }
