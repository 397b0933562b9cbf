package rel_test

import (
	"reflect"
	"slices"
	"testing"

	"roundelay/alike"
	"roundelay/api"
	"roundelay/kit"
	"roundelay/rel"
	"roundelay/sorts"
)

func pat(name string, vars ...string) api.Pattern { return api.Pattern{Name: name, Vars: vars} }
func atom(name string, args ...string) api.Atom   { return api.Atom{Rel: name, Args: args} }
func clause(name string, head []api.Pattern, body ...api.Atom) api.Clause {
	return api.Clause{Rel: name, Head: head, Body: body}
}
func rl(name string, arity, rank int) api.Rel { return api.Rel{Name: name, Arity: arity, Rank: rank} }
func head(l ...api.Pattern) []api.Pattern     { return l }
func goal(name string, texts ...string) api.Goal {
	return api.Goal{Rel: name, Args: kit.Xs(texts...)}
}

// fin has fin of lists that end, or not, by its rank.
func fin(rank int) api.Rules {
	return api.Rules{Rels: []api.Rel{rl("fin", 1, rank)}, Clauses: []api.Clause{clause("fin", head(pat("nil"))), clause("fin", head(pat("cons", "h", "t")), atom("fin", "t"))}}
}

// inf has inf and fin, of s and t.
func inf(rank int) api.Rules {
	return api.Rules{Rels: []api.Rel{rl("inf", 1, rank), rl("fin", 1, 2)}, Clauses: []api.Clause{clause("inf", head(pat("s", "x")), atom("fin", "x")), clause("fin", head(pat("t", "x")), atom("inf", "x"))}}
}

func TestCheck(t *testing.T) { // P12.1
	one := api.Rel{Name: "r", Arity: 2}
	rules := func(c ...api.Clause) api.Rules { return api.Rules{Rels: []api.Rel{one, rl("q", 1, 0)}, Clauses: c} }
	two := head(pat("", "x"), pat("s", "y"))
	for i, x := range []struct {
		r api.Rules
		e api.Errno
	}{
		{rules(), api.OK}, {api.Rules{}, api.ErrMany}, {api.Rules{Rels: make([]api.Rel, 9)}, api.ErrMany}, {rules(make([]api.Clause, 25)...), api.ErrMany}, {api.Rules{Rels: []api.Rel{rl("R", 9, 9)}}, api.ErrForm}, {api.Rules{Rels: []api.Rel{rl("r", 0, 9)}}, api.ErrMany}, {api.Rules{Rels: []api.Rel{rl("r", 4, 9)}}, api.ErrMany},
		{api.Rules{Rels: []api.Rel{rl("r", 3, 4)}}, api.ErrRange}, {api.Rules{Rels: []api.Rel{rl("r", 3, -1)}}, api.ErrRange}, {api.Rules{Rels: []api.Rel{one, rl("r", 1, 1), rl("", 0, 0)}}, api.ErrTwice}, {api.Rules{Rels: []api.Rel{one, rl("r", 0, 1)}}, api.ErrMany},
		{rules(clause("z", nil)), api.ErrNot}, {rules(clause("r", head(pat("A", "X")))), api.ErrMany}, {rules(clause("r", two, make([]api.Atom, 5)...)), api.ErrMany}, {rules(clause("r", head(pat("p", "a", "b", "c", "d", "e"), pat("", "x")))), api.ErrMany}, {rules(clause("r", head(pat("A"), pat("")))), api.ErrMany}, {rules(clause("r", head(pat("A"), pat("", "x", "y")))), api.ErrMany},
		{rules(clause("r", head(pat("A"), pat("", "x")), atom("z"))), api.ErrForm}, {rules(clause("r", head(pat("a", "X"), pat("", "x")), atom("z"))), api.ErrForm}, {rules(clause("r", head(pat("a"), pat("", "")))), api.ErrForm}, {rules(clause("r", two, atom("z", "u"))), api.ErrNot}, {rules(clause("r", two, atom("r", "u"))), api.ErrMany}, {rules(clause("r", two, atom("r", "x", "u"), atom("z"))), api.ErrNone},
		{rules(clause("r", two, atom("q", "x"), atom("r", "y", "y"), atom("q", "y"), atom("q", "y"))), api.OK}, {rules(clause("r", two), clause("z", nil)), api.ErrNot},
	} {
		bad := goal("no")
		e := rel.Check(x.r)
		_, e1 := rel.Decide(x.r, bad)
		_, e2 := rel.Prove(x.r, bad)
		_, e3 := rel.Refute(x.r, bad)
		_, e4 := rel.Goals(x.r, bad)
		_, e5 := rel.Fits(x.r, 99, bad)
		_, e6 := rel.Below(x.r, 99, bad)
		_, e7 := rel.Join(x.r, rules())
		_, e8 := rel.Ranked(x.r, "", 9)
		e9 := rel.CheckGoal(x.r, bad)
		want := slices.Repeat([]api.Errno{x.e}, 9)
		if x.e == api.OK {
			want = []api.Errno{api.ErrNot, api.ErrNot, api.ErrNot, api.ErrNot, api.ErrNot, api.ErrNot, api.ErrTwice, api.ErrNot, api.ErrNot}
		}
		if got := []api.Errno{e1, e2, e3, e4, e5, e6, e7, e8, e9}; e != x.e || !slices.Equal(got, want) {
			t.Error(i, e, got)
		}
	}
	bad := api.Goal{Rel: "r", Args: []api.Tree{kit.X("a"), {Nodes: []api.Node{kit.N("A")}}}}
	if e, f := rel.CheckGoal(rules(), goal("r", "a")), rel.CheckGoal(rules(), bad); e != api.ErrMany || f != api.ErrForm {
		t.Error(e, f)
	}
}

func TestDecide(t *testing.T) { // P12.2
	same, _ := rel.Equality([]string{"cons", "a", "b"}, []int{2, 0, 0})
	for i, x := range []struct {
		r  api.Rules
		g  api.Goal
		is bool
		n  int
	}{
		{fin(0), goal("fin", "cons(a,nil)"), true, 2}, {fin(0), goal("fin", "1=cons(a,1)"), false, 1}, {fin(1), goal("fin", "1=cons(a,1)"), true, 1}, {fin(1), goal("fin", "cons(a,b)"), false, 2}, {inf(1), goal("inf", "1=s(t(1))"), false, 2}, {inf(3), goal("inf", "1=s(t(1))"), true, 2},
		{same, goal("same", "1=cons(a,1)", "1=cons(a,cons(a,1))"), true, 2}, {same, goal("same", "1=cons(a,1)", "1=cons(a,cons(b,1))"), false, 4},
	} {
		is, e := rel.Decide(x.r, x.g)
		p, f := rel.Prove(x.r, x.g)
		q, g := rel.Refute(x.r, x.g)
		l, h := rel.Goals(x.r, x.g)
		if is != x.is || e != api.OK || h != api.OK || len(l) != x.n || (f == api.OK) != is || (g == api.OK) == is || f != api.OK && f != api.ErrNone || g != api.OK && g != api.ErrNone {
			t.Error(i, is, p, q, len(l), e, f, g, h)
		}
		if is && (!rel.Same(p.Goals[0], x.g) || len(p.Clauses) != len(p.Goals)) || !is && (!rel.Same(q.Goals[0], x.g) || len(q.Picks) != len(q.Goals) || len(q.Picks[0]) != len(x.r.Clauses)) {
			t.Error(i, p, q)
		}
	}
	// A question of more and more pairs: 17 times 19 are too many, 17 times 17 are not.
	ring := func(n int) string {
		s := "1"
		for i := range n {
			s = []string{"s(", "t("}[min(1, i%n)] + s + ")"
		}
		return "1=" + s
	}
	pairs := api.Rules{Rels: []api.Rel{rl("r", 2, 1)}, Clauses: []api.Clause{clause("r", head(pat("s", "x"), pat("s", "y")), atom("r", "x", "y")), clause("r", head(pat("s", "x"), pat("t", "y")), atom("r", "x", "y")), clause("r", head(pat("t", "x"), pat("s", "y")), atom("r", "x", "y")), clause("r", head(pat("t", "x"), pat("t", "y")), atom("r", "x", "y"))}}
	_, e := rel.Goals(pairs, goal("r", ring(17), ring(19)))
	_, f := rel.Decide(pairs, goal("r", ring(17), ring(19)))
	l, g := rel.Goals(pairs, goal("r", ring(12), ring(25)))
	if e != api.ErrGrow || f != api.ErrGrow || g != api.OK || len(l) != 300 {
		t.Error(e, f, g, len(l))
	}
}

func TestClauses(t *testing.T) { // P12.3
	r := api.Rules{Rels: []api.Rel{rl("p", 2, 0), rl("q", 1, 0)}, Clauses: []api.Clause{clause("p", head(pat("", "x"), pat("", "x"))), clause("p", head(pat("s", "x"), pat("", "y")), atom("p", "y", "x"), atom("q", "x")), clause("q", head(pat("d", "x", "x")), atom("q", "x"))}}
	for i, x := range []struct {
		c  int
		g  api.Goal
		is bool
		e  api.Errno
	}{
		{0, goal("p", "1=s(1)", "1=s(s(1))"), true, api.OK}, {0, goal("p", "a", "b"), false, api.OK}, {1, goal("p", "s(a)", "b"), true, api.OK}, {1, goal("p", "s(a,a)", "b"), false, api.OK}, {1, goal("q", "s(a)"), false, api.OK}, {2, goal("q", "d(a,a)"), true, api.OK}, {2, goal("q", "d(a,b)"), false, api.OK},
		{3, goal("q", "a"), false, api.ErrNot}, {-1, goal("q", "a"), false, api.ErrNot},
	} {
		is, e := rel.Fits(r, x.c, x.g)
		l, f := rel.Below(r, x.c, x.g)
		want := x.e
		if e == api.OK && !is {
			want = api.ErrClash
		}
		if is != x.is || e != x.e || f != want {
			t.Error(i, is, e, l, f)
		}
	}
	l, _ := rel.Below(r, 1, goal("p", "s(2=a)", "1=t(t(1))"))
	if len(l) != 2 || !rel.Same(l[0], goal("p", "1=t(1)", "a")) || len(l[0].Args[0].Nodes) != 1 || !rel.Same(l[1], goal("q", "a")) || rel.Same(l[0], l[1]) || rel.Same(goal("q", "a"), api.Goal{Rel: "q"}) || rel.Same(api.Goal{Rel: "q", Args: []api.Tree{{}}}, api.Goal{Rel: "q", Args: []api.Tree{{}}}) {
		t.Error(l)
	}
}

func TestMade(t *testing.T) { // P12.4
	ty := api.Type{Sorts: []api.Sort{{Rank: 2, Alts: []api.Alt{{Name: "nil"}, {Name: "cons", Kids: []int{1, 0}}}}, {Rank: 1, Alts: []api.Alt{{Name: "a"}}}}}
	r, e := rel.Typed(ty)
	want := api.Rules{Rels: []api.Rel{rl("sa", 1, 2), rl("sb", 1, 1)}, Clauses: []api.Clause{clause("sa", head(pat("nil"))), clause("sa", head(pat("cons", "a", "b")), atom("sb", "a"), atom("sa", "b")), clause("sb", head(pat("a")))}}
	if e != api.OK || !reflect.DeepEqual(r, want) {
		t.Error(r, e)
	}
	_, e1 := rel.Typed(api.Type{})
	_, e2 := rel.Typed(api.Type{Sorts: make([]api.Sort, 9)})
	wide := api.Type{Sorts: slices.Repeat([]api.Sort{{Alts: []api.Alt{{Name: "a"}, {Name: "b"}, {Name: "c"}, {Name: "d"}, {Name: "e"}}}}, 5)}
	_, e3 := rel.Typed(wide)
	wide.Sorts[0].Alts = wide.Sorts[0].Alts[1:]
	_, e4 := rel.Typed(wide)
	if e1 != api.ErrMany || e2 != api.ErrMany || e3 != api.ErrMany || e4 != api.OK {
		t.Error(e1, e2, e3, e4)
	}
	q, e := rel.Equality([]string{"p", "a"}, []int{2, 0})
	if e != api.OK || !reflect.DeepEqual(q, api.Rules{Rels: []api.Rel{rl("same", 2, 1)}, Clauses: []api.Clause{clause("same", head(pat("p", "a", "b"), pat("p", "e", "f")), atom("same", "a", "e"), atom("same", "b", "f")), clause("same", head(pat("a"), pat("a")))}}) {
		t.Error(q, e)
	}
	_, e1 = rel.Equality([]string{"A"}, nil)
	_, e2 = rel.Equality(make([]string, 25), make([]int, 25))
	_, e3 = rel.Equality([]string{"a", "A"}, []int{5, 0})
	_, e4 = rel.Equality([]string{"a", "A"}, []int{4, 0})
	_, e5 := rel.Equality([]string{"A", "a"}, []int{5, 0})
	_, e6 := rel.Equality([]string{"a"}, []int{-1})
	if e1 != api.ErrClash || e2 != api.ErrMany || e3 != api.ErrRange || e4 != api.ErrForm || e5 != api.ErrForm || e6 != api.ErrRange {
		t.Error(e1, e2, e3, e4, e5, e6)
	}
	j, e := rel.Join(fin(0), q)
	_, e1 = rel.Join(fin(0), api.Rules{})
	_, e2 = rel.Join(fin(0), fin(1))
	many := fin(0)
	many.Clauses = slices.Repeat(many.Clauses[:1], 23)
	_, e3 = rel.Join(many, q)
	if e != api.OK || len(j.Rels) != 2 || len(j.Clauses) != 4 || j.Clauses[2].Rel != "same" || e1 != api.ErrMany || e2 != api.ErrTwice || e3 != api.ErrMany {
		t.Error(j, e, e1, e2, e3)
	}
	k, e := rel.Ranked(inf(1), "fin", 3)
	_, e1 = rel.Ranked(inf(1), "no", 9)
	_, e2 = rel.Ranked(inf(1), "fin", 4)
	if e != api.OK || k.Rels[1].Rank != 3 || k.Rels[0].Rank != 1 || e1 != api.ErrNot || e2 != api.ErrRange {
		t.Error(k, e, e1, e2)
	}
}

func TestWhatFollows(t *testing.T) { // P12.5
	var d kit.Dice
	same, _ := rel.Equality([]string{"a", "b", "s", "t", "p"}, []int{0, 0, 1, 1, 2})
	for i := range 400 {
		a, b := d.Tree(4), d.Tree(4)
		is, _ := alike.Alike(a, b)
		if holds, e := rel.Decide(same, api.Goal{Rel: "same", Args: []api.Tree{a, b}}); holds != is || e != api.OK {
			t.Error(i, a, b, holds, e)
		}
		ty := api.Type{}
		for range 3 {
			s := api.Sort{Rank: d.Roll(4)}
			for _, x := range []api.Alt{{Name: "a"}, {Name: "b"}, {Name: "s", Kids: []int{d.Roll(3)}}, {Name: "p", Kids: []int{d.Roll(3), d.Roll(3)}}} {
				if d.Roll(3) > 0 {
					s.Alts = append(s.Alts, x)
				}
			}
			ty.Sorts = append(ty.Sorts, s)
		}
		r, _ := rel.Typed(ty)
		in, _ := sorts.Has(ty, a)
		least, _ := alike.Least(a)
		x, _ := rel.Decide(r, api.Goal{Rel: "sa", Args: []api.Tree{a}})
		y, _ := rel.Decide(r, api.Goal{Rel: "sa", Args: []api.Tree{least}})
		if x != in || y != in {
			t.Error(i, ty, a, x, y, in)
		}
		more := api.Rules{Rels: r.Rels, Clauses: append(slices.Clone(r.Clauses), clause("sa", head(pat("", "x")), atom("sb", "x")))}
		if z, _ := rel.Decide(more, api.Goal{Rel: "sa", Args: []api.Tree{a}}); x && !z {
			t.Error(i, "a clause more loses")
		}
	}
}
