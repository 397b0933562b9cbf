package proof_test

import (
	"fmt"
	"slices"
	"testing"

	"roundelay/api"
	"roundelay/kit"
	"roundelay/proof"
	"roundelay/rel"
	"roundelay/solve"
	"roundelay/sorts"
)

func pat(name string, vars ...string) api.Pattern { return api.Pattern{Name: name, Vars: vars} }
func atom(name string, args ...string) api.Atom   { return api.Atom{Rel: name, Args: args} }
func clause(name string, head []api.Pattern, body ...api.Atom) api.Clause {
	return api.Clause{Rel: name, Head: head, Body: body}
}
func rl(name string, arity, rank int) api.Rel {
	return api.Rel{Name: name, Arity: arity, Rank: rank}
}
func goal(name string, texts ...string) api.Goal { return api.Goal{Rel: name, Args: kit.Xs(texts...)} }
func pr(clauses []int, goals ...api.Goal) api.Proof {
	return api.Proof{Goals: goals, Clauses: clauses}
}
func ref(picks [][]int, goals ...api.Goal) api.Refutation {
	return api.Refutation{Goals: goals, Picks: picks}
}

// inf is inf of s, of a rank.
func inf(rank int) api.Rules {
	return api.Rules{Rels: []api.Rel{rl("inf", 1, rank)}, Clauses: []api.Clause{clause("inf", []api.Pattern{pat("s", "x")}, atom("inf", "x"))}}
}

// tree is t of trees that end, with leaves a, in one way or the other.
func tree() api.Rules {
	return api.Rules{Rels: []api.Rel{rl("t", 1, 0), rl("u", 1, 0)}, Clauses: []api.Clause{
		clause("t", []api.Pattern{pat("a")}), clause("t", []api.Pattern{pat("p", "x", "y")}, atom("t", "x"), atom("t", "y")), clause("t", []api.Pattern{pat("", "x")}, atom("u", "x")), clause("u", []api.Pattern{pat("s", "x")}, atom("t", "x")),
	}}
}

var endless = goal("inf", "1=s(1)")

func TestKernel(t *testing.T) { // P13.1
	for i, x := range []struct {
		r  api.Rules
		g  api.Goal
		p  api.Proof
		is bool
		e  api.Errno
	}{
		{inf(1), endless, pr([]int{0}, endless), true, api.OK}, {inf(0), endless, pr([]int{0}, endless), false, api.OK}, {inf(1), goal("inf", "1=s(s(1))"), pr([]int{0}, endless), true, api.OK}, {inf(1), goal("inf", "s(a)"), pr([]int{0}, endless), false, api.OK}, {inf(1), goal("inf", "s(a)"), pr([]int{0}, goal("inf", "s(a)")), false, api.OK},
		{inf(1), goal("inf", "a"), pr([]int{0}, goal("inf", "a")), false, api.OK}, {inf(1), goal("q"), pr(nil), false, api.ErrNot}, {inf(1), endless, pr(nil), false, api.ErrMany}, {inf(1), endless, pr([]int{0, 0}, endless), false, api.ErrMany}, {inf(1), endless, pr(make([]int, 301), slices.Repeat([]api.Goal{endless}, 301)...), false, api.ErrMany},
		{inf(1), endless, pr(make([]int, 300), slices.Repeat([]api.Goal{endless}, 300)...), true, api.OK}, {inf(1), endless, pr([]int{9, 0}, endless, goal("q")), false, api.ErrNot}, {inf(1), endless, pr([]int{9, 0}, endless, goal("inf")), false, api.ErrMany}, {inf(1), endless, pr([]int{1}, endless), false, api.ErrNot}, {inf(1), endless, pr([]int{-1}, endless), false, api.ErrNot},
		{tree(), goal("t", "p(a,s(a))"), pr([]int{1, 0, 2, 3}, goal("t", "p(a,s(a))"), goal("t", "a"), goal("t", "s(a)"), goal("u", "s(a)")), true, api.OK}, {tree(), goal("t", "p(a,a)"), pr([]int{1, 3}, goal("t", "p(a,a)"), goal("t", "a")), false, api.OK}, {tree(), goal("t", "1=s(1)"), pr([]int{2, 3}, goal("t", "1=s(1)"), goal("u", "1=s(1)")), false, api.OK},
		{api.Rules{}, endless, pr(nil), false, api.ErrMany},
	} {
		if is, e := proof.Proves(x.r, x.g, x.p); is != x.is || e != x.e {
			t.Error(i, is, e)
		}
	}
	bad := goal("t", "p(s(b),a)")
	sb := goal("t", "s(b)")
	full := ref([][]int{{-1, 0, 0, -1}, {-1, -1, 0, -1}, {-1, -1, -1, 0}, {-1, -1, 0, -1}, {-1, -1, -1, -1}, {-1, -1, -1, -1}}, bad, sb, goal("u", "s(b)"), goal("t", "b"), goal("u", "b"), goal("u", "p(s(b),a)"))
	other := full
	other.Picks = slices.Clone(full.Picks)
	other.Picks[0] = []int{-1, 1, 0, -1}
	for i, x := range []struct {
		r  api.Rules
		g  api.Goal
		x  api.Refutation
		is bool
		e  api.Errno
	}{
		{inf(0), endless, ref([][]int{{0}}, endless), true, api.OK}, {inf(1), endless, ref([][]int{{0}}, endless), false, api.OK}, {inf(0), endless, ref([][]int{{-1}}, endless), false, api.OK}, {inf(0), endless, ref([][]int{{1}}, endless), false, api.OK}, {inf(0), goal("inf", "a"), ref([][]int{{-1}}, goal("inf", "a")), true, api.OK}, {inf(0), goal("inf", "a"), ref([][]int{{0}}, goal("inf", "a")), false, api.OK}, {inf(0), goal("inf", "a"), ref([][]int{{-2}}, goal("inf", "a")), false, api.OK},
		{inf(0), goal("inf", "s(a)"), ref([][]int{{0}}, goal("inf", "s(a)")), false, api.OK}, {inf(0), endless, ref(nil), false, api.ErrMany}, {inf(0), endless, ref([][]int{{0, 0}}, endless), false, api.ErrMany}, {inf(0), endless, ref([][]int{{0}, {0}}, endless), false, api.ErrMany}, {inf(0), endless, ref([][]int{{0}, {0}}, endless, goal("q")), false, api.ErrNot}, {inf(0), goal("q"), ref(nil), false, api.ErrNot},
		{tree(), bad, full, true, api.OK}, {tree(), bad, other, false, api.OK},
	} {
		if is, e := proof.Refutes(x.r, x.g, x.x); is != x.is || e != x.e {
			t.Error(i, is, e)
		}
	}
}

// ty is lists of a, of a rank.
func ty(rank int) api.Type {
	return api.Type{Sorts: []api.Sort{{Rank: rank, Alts: []api.Alt{{Name: "cons", Kids: []int{1, 0}}}}, {Alts: []api.Alt{{Name: "a"}}}}}
}

const ones = "ones[] = cons(a(), ones[]). f[x] = f[x]. id[x] = x."

func TestFacts(t *testing.T) { // P13.2
	bad := kit.T(kit.N("A"))
	for i, x := range []struct {
		f proof.Fact
		e api.Errno
	}{
		{proof.Fact{}, api.ErrRange}, {proof.Fact{Kind: 8}, api.ErrRange}, {proof.Fact{Kind: proof.Alike, A: bad}, api.ErrForm}, {proof.Fact{Kind: proof.Apart, A: kit.List(), B: bad}, api.ErrForm}, {proof.Fact{Kind: proof.Of, A: bad}, api.ErrMany}, {proof.Fact{Kind: proof.NotOf, A: bad, Type: ty(0)}, api.ErrForm}, {proof.Fact{Kind: proof.Of, A: bad, Type: ty(4)}, api.ErrRange},
		{proof.Fact{Kind: proof.True}, api.ErrMany}, {proof.Fact{Kind: proof.False, Rules: inf(0)}, api.ErrNot}, {proof.Fact{Kind: proof.Value, A: bad}, api.ErrMany}, {proof.Fact{Kind: proof.Value, A: bad, Prog: kit.P(ones), Name: "id"}, api.ErrClash}, {proof.Fact{Kind: proof.Value, A: bad, Prog: kit.P(ones), Name: "ones"}, api.ErrForm},
	} {
		e := proof.Check(x.f)
		_, f := proof.Not(x.f)
		_, g := proof.Accept(x.f, proof.Evidence{Pairs: make([][2]int, 9999)})
		_, _, h := proof.Find(x.f)
		if e != x.e || f != e || g != e || h != e {
			t.Error(i, e, f, g, h)
		}
	}
	all := proof.Fact{Kind: proof.Alike, A: kit.List(), B: kit.List2(), Type: ty(1), Rules: tree(), Goal: goal("q"), Prog: kit.P(ones), Name: "x", Args: kit.Xs("a")}
	not, e := proof.Not(all)
	back, f := proof.Not(not)
	if e != api.OK || f != api.OK || not.Kind != proof.Apart || !eq(back, all) {
		t.Error(not, e, f)
	}
	not.Prog.Defs[0].Body.Args[0].Name, not.Rules.Clauses[0].Head[0].Name, not.Type.Sorts[0].Alts[0].Kids[0], not.A.Nodes[0].Kids[0] = "z", "z", 0, 0
	if !eq(back, all) {
		t.Error("memory is shared")
	}
	if _, e := proof.Not(proof.Fact{Kind: proof.Value, A: kit.List(), Prog: kit.P(ones), Name: "ones"}); e != api.ErrNone {
		t.Error(e)
	}
}

func TestAccept(t *testing.T) { // P13.3
	l, m, a := kit.List(), kit.List2(), kit.T(kit.N("cons", 1, 1), kit.N("a"))
	relation := [][2]int{{0, 0}, {1, 1}, {0, 2}}
	tab, _ := solve.Solve(kit.P(ones), "ones", nil)
	value := proof.Fact{Kind: proof.Value, A: m, Prog: kit.P(ones), Name: "ones"}
	wrong := value
	wrong.A = a
	id := value
	id.Name, id.Args = "id", kit.Xs("a")
	long := slices.Repeat([]int{1}, 3001)
	for i, x := range []struct {
		f  proof.Fact
		e  proof.Evidence
		is bool
		n  api.Errno
	}{
		{proof.Fact{Kind: proof.Alike, A: l, B: m}, proof.Evidence{Pairs: relation}, true, api.OK}, {proof.Fact{Kind: proof.Alike, A: l, B: m}, proof.Evidence{Pairs: relation[:2]}, false, api.OK}, {proof.Fact{Kind: proof.Alike, A: l, B: m}, proof.Evidence{Pairs: make([][2]int, 3601)}, false, api.ErrMany}, {proof.Fact{Kind: proof.Alike, A: l, B: m}, proof.Evidence{Pairs: [][2]int{{0, 3}}}, false, api.ErrNot},
		{proof.Fact{Kind: proof.Apart, A: l, B: a}, proof.Evidence{Stem: []int{1}}, true, api.OK}, {proof.Fact{Kind: proof.Apart, A: l, B: a}, proof.Evidence{Stem: []int{0}}, false, api.OK}, {proof.Fact{Kind: proof.Apart, A: l, B: a}, proof.Evidence{Stem: []int{1, 0}}, false, api.OK}, {proof.Fact{Kind: proof.Apart, A: l, B: a}, proof.Evidence{Stem: []int{-1}}, false, api.OK}, {proof.Fact{Kind: proof.Apart, A: l, B: a}, proof.Evidence{Stem: long}, false, api.ErrMany}, {proof.Fact{Kind: proof.Apart, A: l, B: m}, proof.Evidence{Stem: long[1:]}, false, api.OK},
		{proof.Fact{Kind: proof.Of, A: l, Type: ty(1)}, proof.Evidence{Pairs: [][2]int{{0, 0}, {1, 1}}}, true, api.OK}, {proof.Fact{Kind: proof.Of, A: l, Type: ty(0)}, proof.Evidence{Pairs: [][2]int{{0, 0}, {1, 1}}}, false, api.OK}, {proof.Fact{Kind: proof.Of, A: l, Type: ty(1)}, proof.Evidence{Pairs: [][2]int{{0, 0}}}, false, api.OK}, {proof.Fact{Kind: proof.Of, A: l, Type: ty(1)}, proof.Evidence{Pairs: [][2]int{{1, 1}}}, false, api.OK}, {proof.Fact{Kind: proof.Of, A: l, Type: ty(1)}, proof.Evidence{Pairs: [][2]int{{0, 0}, {1, 1}, {1, 0}}}, false, api.OK},
		{proof.Fact{Kind: proof.Of, A: l, Type: ty(1)}, proof.Evidence{Pairs: make([][2]int, 1441)}, false, api.ErrMany}, {proof.Fact{Kind: proof.Of, A: l, Type: ty(1)}, proof.Evidence{Pairs: [][2]int{{2, 0}}}, false, api.ErrNot}, {proof.Fact{Kind: proof.Of, A: l, Type: ty(1)}, proof.Evidence{Pairs: [][2]int{{0, 2}}}, false, api.ErrNot},
		{proof.Fact{Kind: proof.NotOf, A: l, Type: ty(0)}, proof.Evidence{Round: []int{1}}, true, api.OK}, {proof.Fact{Kind: proof.NotOf, A: l, Type: ty(1)}, proof.Evidence{Round: []int{1}}, false, api.OK}, {proof.Fact{Kind: proof.NotOf, A: l, Type: ty(0)}, proof.Evidence{Round: long}, false, api.ErrMany},
		{proof.Fact{Kind: proof.True, Rules: inf(1), Goal: endless}, proof.Evidence{Proof: pr([]int{0}, endless)}, true, api.OK}, {proof.Fact{Kind: proof.True, Rules: inf(1), Goal: endless}, proof.Evidence{}, false, api.ErrMany}, {proof.Fact{Kind: proof.False, Rules: inf(0), Goal: endless}, proof.Evidence{Refutation: ref([][]int{{0}}, endless)}, true, api.OK}, {proof.Fact{Kind: proof.False, Rules: inf(1), Goal: endless}, proof.Evidence{}, false, api.ErrMany},
		{value, proof.Evidence{Table: tab}, true, api.OK}, {wrong, proof.Evidence{Table: tab}, false, api.OK}, {id, proof.Evidence{Table: tab}, false, api.OK}, {value, proof.Evidence{}, false, api.ErrMany}, {value, proof.Evidence{Table: solve.Table{Rows: []solve.Row{{Name: "ones", Value: a}}, Ranks: []int{0}}}, false, api.OK}, {value, proof.Evidence{Table: solve.Table{Rows: tab.Rows, Ranks: []int{-1}}}, false, api.ErrRange},
	} {
		if is, e := proof.Accept(x.f, x.e); is != x.is || e != x.n {
			t.Error(i, is, e)
		}
	}
}

// facts returns facts of all kinds.
func facts(d *kit.Dice) []proof.Fact {
	a, b := d.Tree(4), d.Tree(4)
	var u api.Type
	for range 3 {
		s := api.Sort{Rank: d.Roll(4)}
		for _, x := range []api.Alt{{Name: "a"}, {Name: "b"}, {Name: "s", Kids: []int{d.Roll(3)}}, {Name: "t", Kids: []int{d.Roll(3)}}, {Name: "p", Kids: []int{d.Roll(3), d.Roll(3)}}} {
			if d.Roll(4) > 0 {
				s.Alts = append(s.Alts, x)
			}
		}
		u.Sorts = append(u.Sorts, s)
	}
	r, _ := rel.Typed(u)
	r.Clauses = append(r.Clauses, clause("sb", []api.Pattern{pat("", "x")}, atom("sc", "x")), clause("sc", []api.Pattern{pat("", "x")}, atom("sa", "x"), atom("sb", "x")))
	p := d.Prog()
	return []proof.Fact{{Kind: proof.Alike, A: a, B: b}, {Kind: proof.Apart, A: a, B: b}, {Kind: proof.Of, A: a, Type: u}, {Kind: proof.NotOf, A: b, Type: u}, {Kind: proof.True, Rules: r, Goal: api.Goal{Rel: "sa", Args: []api.Tree{a}}}, {Kind: proof.False, Rules: r, Goal: api.Goal{Rel: "sb", Args: []api.Tree{b}}}, {Kind: proof.Value, Prog: p, Name: "f", Args: []api.Tree{a}, A: b}}
}

func TestFind(t *testing.T) { // P13.4 and P13.6
	var d kit.Dice
	found := map[int]int{}
	for range 300 {
		for _, f := range facts(&d) {
			out, is, e := proof.Find(f)
			if e != api.OK {
				if _, g := solve.Solve(f.Prog, f.Name, f.Args); f.Kind != proof.Value || g != e {
					t.Error(f, e)
				}
				continue
			}
			not, g := proof.Not(f)
			yes, _ := proof.Accept(f, out)
			no, _ := proof.Accept(not, out)
			if f.Kind == proof.Value {
				v, _ := solve.Value(f.Prog, f.Name, f.Args)
				if yes != is || is != (kit.S(v) == kit.S(f.A)) || len(out.Table.Rows) == 0 {
					t.Error(f, is)
				}
				continue
			}
			if g != api.OK || is && !yes || !is && !no || yes && no {
				t.Error(f, is, yes, no, g)
			}
			if is {
				found[f.Kind]++
			}
			if f.Kind == proof.Of {
				if in, _ := sorts.Has(f.Type, f.A); in != is {
					t.Error(f, is)
				}
			}
		}
	}
	for k := proof.Alike; k <= proof.False; k++ {
		if found[k] < 10 {
			t.Error(k, found[k])
		}
	}
	wide := api.Rules{Rels: []api.Rel{rl("r", 2, 1)}, Clauses: []api.Clause{clause("r", []api.Pattern{pat("s", "x"), pat("s", "y")}, atom("r", "x", "y")), clause("r", []api.Pattern{pat("s", "x"), pat("t", "y")}, atom("r", "x", "y")), clause("r", []api.Pattern{pat("t", "x"), pat("s", "y")}, atom("r", "x", "y")), clause("r", []api.Pattern{pat("t", "x"), pat("t", "y")}, atom("r", "x", "y"))}}
	ring := func(n int) (u api.Tree) {
		for i := range n {
			u.Nodes = append(u.Nodes, kit.N([]string{"s", "t"}[min(i, 1)], (i+1)%n))
		}
		return u
	}
	if _, _, e := proof.Find(proof.Fact{Kind: proof.False, Rules: wide, Goal: api.Goal{Rel: "r", Args: []api.Tree{ring(17), ring(18)}}}); e != api.ErrGrow {
		t.Error(e)
	}
}

func TestJoin(t *testing.T) { // P13.5
	r := tree()
	g, a, s, u := goal("t", "p(a,s(a))"), goal("t", "a"), goal("t", "s(a)"), goal("u", "s(a)")
	p := pr([]int{1, 2, 3, 0, 0, 2}, g, s, u, a, a, s)
	tidy, e := proof.Tidy(r, p)
	if e != api.OK || !eq(tidy, pr([]int{1, 0, 2, 3}, goal("t", "p(1=a,s(1))"), a, s, u)) {
		t.Error(tidy, e)
	}
	high, e := proof.Height(r, p)
	_, f := proof.Height(inf(1), pr([]int{0}, endless))
	zero, _ := proof.Height(r, pr([]int{0}, a))
	if high != 3 || e != api.OK || f != api.ErrClash || zero != 0 {
		t.Error(high, e, f, zero)
	}
	q := pr([]int{1, 0}, goal("t", "p(a,a)"), a)
	j, e := proof.Join(r, p, q)
	if e != api.OK || len(j.Goals) != 7 || j.Clauses[6] != 1 || !rel.Same(j.Goals[6], q.Goals[0]) {
		t.Error(j, e)
	}
	front, e := proof.Front(r, p, goal("t", "s(a)"))
	if e != api.OK || !eq(front, pr([]int{2, 3, 0}, s, u, a)) {
		t.Error(front, e)
	}
	bad := pr([]int{0}, g)
	empty := pr(nil)
	_, e1 := proof.Tidy(r, empty)
	_, e2 := proof.Tidy(r, bad)
	_, e3 := proof.Height(r, bad)
	_, e4 := proof.Join(r, bad, empty)
	_, e5 := proof.Join(r, p, bad)
	_, e6 := proof.Front(r, bad, goal("q"))
	_, e7 := proof.Front(r, p, goal("q"))
	_, e8 := proof.Front(r, p, goal("t", "p(a,a)"))
	_, e9 := proof.Join(r, pr(make([]int, 300), slices.Repeat([]api.Goal{a}, 300)...), q)
	_, e10 := proof.Tidy(api.Rules{}, pr([]int{9}, a))
	if want := []api.Errno{api.ErrMany, api.ErrWrong, api.ErrWrong, api.ErrMany, api.ErrWrong, api.ErrWrong, api.ErrNot, api.ErrNone, api.ErrMany, api.ErrMany}; !slices.Equal([]api.Errno{e1, e2, e3, e4, e5, e6, e7, e8, e9, e10}, want) {
		t.Error(e1, e2, e3, e4, e5, e6, e7, e8, e9, e10)
	}
	m, e := proof.Move(p, 20)
	_, f = proof.Move(p, 21)
	_, h := proof.Move(p, -1)
	none, k := proof.Move(empty, 99)
	_, low := proof.Move(pr([]int{-9223372036854775808}), -9223372036854775808)
	if e != api.OK || f != api.ErrRange || h != api.ErrRange || k != api.OK || low != api.ErrRange || len(none.Goals) != 0 || !slices.Equal(m.Clauses, []int{21, 22, 23, 20, 20, 22}) || len(m.Goals) != 6 {
		t.Error(m, e, f, h, k)
	}
	// What joins proofs proves both first goals, and rules behind others have the same proofs.
	both, _ := rel.Join(inf(1), r)
	moved, _ := proof.Move(j, 1)
	if is, e := proof.Proves(both, g, moved); !is || e != api.OK {
		t.Error(is, e)
	}
	if x, e := proof.Front(r, j, q.Goals[0]); e != api.OK || len(x.Goals) != 2 {
		t.Error(x, e)
	}
}

// eq reports whether two things are the same, where nil lists are as empty ones.
func eq(a, b any) bool { return fmt.Sprint(a) == fmt.Sprint(b) }
