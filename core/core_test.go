package core_test

import (
	"slices"
	"strings"
	"testing"

	"roundelay/api"
	"roundelay/core"
	"roundelay/kit"
	"roundelay/prog"
	"roundelay/solve"
)

func op(kind int, name string, num int, args ...int) api.Op {
	return api.Op{Kind: kind, Name: name, Num: num, Args: args}
}
func br(head string, kids, result int, ops ...api.Op) api.Branch {
	return api.Branch{Head: head, Kids: kids, Ops: ops, Result: result}
}
func bl(name string, arity int, l ...api.Branch) api.Block {
	return api.Block{Name: name, Arity: arity, Branches: l}
}
func co(l ...api.Block) api.Core { return api.Core{Blocks: l} }
func low(s string) api.Core      { c, _ := core.Lower(kit.P(s)); return c }

const ones = "ones[] = cons(a(), ones[])."

func TestCheck(t *testing.T) { // P18.1
	a := op(core.Node, "a", 0)
	ok := bl("f", 0, br("", 0, 0, a))
	arg := func(ops ...api.Op) api.Core { return co(bl("f", 1, br("s", 2, len(ops)-1, ops...))) }
	many := slices.Repeat([]api.Op{a}, 61)
	for i, x := range []struct {
		c api.Core
		e api.Errno
	}{
		{co(ok), api.OK}, {co(), api.ErrMany}, {co(slices.Repeat([]api.Block{ok}, 13)...), api.ErrMany}, {co(slices.Repeat([]api.Block{ok}, 12)...), api.ErrTwice}, {co(bl("F", 9)), api.ErrMany}, {co(bl("F", 9, slices.Repeat([]api.Branch{br("", 0, 0, a)}, 7)...)), api.ErrMany}, {co(bl("F", 9, br("", 9, 0))), api.ErrMany}, {co(bl("F", 9, br("", 9, 0, many...))), api.ErrMany}, {co(bl("f", 0, br("", 0, 0, many[1:]...))), api.OK},
		{co(bl("F", 5, br("", 0, 0, a))), api.ErrRange}, {co(bl("F", -1, br("", 0, 0, a))), api.ErrRange}, {co(bl("F", 1, br("A", 5, 0, a))), api.ErrRange}, {co(bl("F", 1, br("A", -1, 0, a))), api.ErrRange}, {co(bl("F", 0, br("a", 0, 0, a))), api.ErrForm}, {co(bl("f", 0, br("A", 0, 0, a))), api.ErrForm},
		{co(bl("f", 0, br("", 1, 0, a))), api.ErrClash}, {co(bl("f", 1, br("", 0, 0, a), br("a", 0, 0, a))), api.ErrClash}, {co(bl("f", 0, br("a", 0, 0, a))), api.ErrClash}, {co(bl("f", 1, br("a", 1, 0, a), br("a", 1, 0, a))), api.ErrTwice}, {co(bl("f", 1, br("a", 1, 0, a), br("a", 0, 0, a))), api.OK}, {co(ok, bl("f", 0, br("", 0, 9, op(9, "", 0)))), api.ErrTwice}, {co(ok, bl("F", 0, br("", 0, 0, a))), api.ErrForm},
		{arg(op(0, "A", 9)), api.ErrRange}, {arg(op(6, "A", 9)), api.ErrRange}, {arg(op(core.Take, "a", 9)), api.ErrForm}, {arg(op(core.Below, "a", 9)), api.ErrForm}, {arg(op(core.Node, "", 9)), api.ErrForm}, {arg(op(core.Tie, "A", 9)), api.ErrForm}, {arg(op(core.Take, "", 1, 7)), api.ErrNot}, {arg(op(core.Take, "", -1)), api.ErrNot}, {arg(op(core.Below, "", 2)), api.ErrNot}, {arg(op(core.Node, "a", 1)), api.ErrNot}, {arg(op(core.Ask, "f", 1)), api.ErrNot},
		{arg(op(core.Take, "", 0, 7)), api.ErrMany}, {arg(op(core.Below, "", 1, 7)), api.ErrMany}, {arg(a, op(core.Node, "p", 0, 9, 9, 9, 9, 9)), api.ErrMany}, {arg(a, op(core.Node, "p", 0, 0, 1)), api.ErrNot}, {arg(op(core.Node, "p", 0, -1)), api.ErrNot}, {arg(op(core.Ask, "g", 0)), api.ErrNot}, {arg(op(core.Ask, "f", 0)), api.ErrClash}, {arg(a, op(core.Tie, "f", 0, 0, 0)), api.ErrClash},
		{arg(a, op(core.Tie, "f", 0, 0), op(core.Ask, "f", 0, 1)), api.ErrClash}, {arg(a, op(core.Tie, "f", 0, 0), op(core.Node, "s", 0, 1), op(core.Tie, "f", 0, 2)), api.ErrClash}, {arg(a, op(core.Ask, "f", 0, 0), op(core.Node, "s", 0, 1), op(core.Tie, "f", 0, 2)), api.OK}, {co(bl("f", 0, br("", 0, 1, a))), api.ErrNot}, {co(bl("f", 0, br("", 0, -1, a))), api.ErrNot}, {co(bl("f", 1, br("a", 0, 1, a), br("b", 0, 0, op(0, "", 0)))), api.ErrNot},
	} {
		e := core.Check(x.c)
		_, e1 := core.Raise(x.c)
		_, e2 := core.Value(x.c, "", nil)
		_, e3 := core.Print(x.c)
		_, e4 := core.Size(x.c)
		_, e5 := core.Tied(x.c, 99, 0)
		_, e6 := core.Used(x.c, 0, 99)
		_, e7 := core.Find(x.c, "")
		_, e8 := core.Count(x.c)
		got := []api.Errno{e1, e2, e3, e4, e5, e6, e7, e8}
		if e != x.e || e != api.OK && !slices.Equal(got, slices.Repeat([]api.Errno{e}, 8)) {
			t.Error(i, e, got)
		}
		if e == api.OK && (e2 != api.ErrNot || e5 != api.ErrNot || e6 != api.ErrNot || e7 != api.ErrNot) {
			t.Error(i, got)
		}
	}
}

func TestLower(t *testing.T) { // P18.2
	want := co(bl("map", 1, br("cons", 2, 4, op(core.Below, "", 0), op(core.Node, "s", 0, 0), op(core.Below, "", 1), op(core.Tie, "map", 0, 2), op(core.Node, "cons", 0, 1, 3))))
	if c := low("map[x] of cons(h, t): cons(s(h), map[t])."); !core.Same(c, want) {
		t.Error(c)
	}
	two := low("two[] = p(id[ones[]], ones[]). id[x] = x." + ones)
	if !core.Same(co(two.Blocks[0]), co(bl("two", 0, br("", 0, 3, op(core.Ask, "ones", 0), op(core.Tie, "id", 0, 0), op(core.Tie, "ones", 0), op(core.Node, "p", 0, 1, 2))))) {
		t.Error(two.Blocks[0])
	}
	if _, e := core.Lower(api.Prog{}); e != api.ErrMany {
		t.Error(e)
	}
	p, e := core.Raise(want)
	if e != api.OK || !prog.Same(p, kit.P("map[a] of cons(e, f): cons(s(e), map[f]).")) {
		t.Error(p, e)
	}
	// What is used several times comes several times, what is not used does not come.
	shared := co(bl("f", 2, br("", 0, 3, op(core.Take, "", 1), op(core.Ask, "f", 0, 0, 0), op(core.Node, "b", 0), op(core.Node, "p", 0, 1, 1))))
	p, e = core.Raise(shared)
	if e != api.OK || !prog.Same(p, kit.P("f[a, b] = p(f[b, b], f[b, b]).")) {
		t.Error(p, e)
	}
	double := func(many int) api.Core {
		ops := []api.Op{op(core.Node, "a", 0)}
		for i := range many {
			ops = append(ops, op(core.Node, "p", 0, i, i))
		}
		return co(bl("f", 0, br("", 0, many, ops...)))
	}
	_, e = core.Raise(double(3))
	_, f := core.Raise(double(4))
	_, g := core.Raise(double(59))
	if e != api.OK || f != api.ErrMany || g != api.ErrMany {
		t.Error(e, f, g)
	}
}

func TestValue(t *testing.T) { // P18.3
	c := low(ones + "f[x] = f[x]. map[x] of cons(h, t): cons(s(h), map[t]). g[] = s(h[g[]]). h[x] = x. up[x] = cons(x, up[s(x)]).")
	for i, x := range []struct {
		name string
		args []api.Tree
		s    string
		e    api.Errno
	}{
		{"ones", nil, "1=cons(a,1)", api.OK}, {"f", kit.Xs("a"), "", api.ErrWait}, {"map", kit.Xs("1=cons(a,1)"), "1=cons(s(a),1)", api.OK}, {"map", kit.Xs("a"), "", api.ErrStuck}, {"g", nil, "", api.ErrWait}, {"up", kit.Xs("a"), "", api.ErrGrow}, {"q", kit.Xs("a"), "", api.ErrNot}, {"f", nil, "", api.ErrClash}, {"f", []api.Tree{{}}, "", api.ErrMany},
	} {
		if v, e := core.Value(c, x.name, x.args); e != x.e || e == api.OK && kit.S(v) != x.s {
			t.Error(i, kit.S(v), e)
		}
	}
	// The result of an Ask is a value: the call does not pass on.
	asks := co(bl("f", 0, br("", 0, 0, op(core.Ask, "g", 0))), bl("g", 0, br("", 0, 1, op(core.Tie, "g", 0), op(core.Node, "s", 0, 0))), bl("h", 0, br("", 0, 0, op(core.Ask, "h", 0))))
	v, e := core.Value(asks, "f", nil)
	_, f := core.Value(asks, "h", nil)
	if e != api.OK || kit.S(v) != "1=s(1)" || f != api.ErrWait {
		t.Error(kit.S(v), e, f)
	}
}

func TestLook(t *testing.T) { // P18.4
	c := low(ones + "map[x] of cons(h, t): cons(s(h), map[t]).")
	s, e := core.Print(c)
	want := "block ones 0\nof any\n  0 node a\n  1 tie ones\n  2 node cons 0 1\n  is 2\nblock map 1\nof cons/2\n  0 below 0\n  1 node s 0\n  2 below 1\n  3 tie map 2\n  4 node cons 1 3\n  is 4\n"
	n, _ := core.Size(c)
	k, _ := core.Count(c)
	at, _ := core.Find(c, "map")
	tied, f := core.Tied(c, 0, 0)
	if s != want || e != api.OK || n != 8 || k != [5]int{0, 2, 4, 0, 2} || at != 1 || f != api.OK || !slices.Equal(tied, []bool{false, true, true}) {
		t.Error(s, n, k, at, tied)
	}
	x := co(bl("f", 1, br("", 0, 2, op(core.Take, "", 0), op(core.Node, "s", 0, 0), op(core.Take, "", 0), op(core.Node, "s", 0, 2), op(core.Ask, "f", 0, 1), op(core.Node, "s", 0, 4))))
	used, e := core.Used(x, 0, 0)
	p, _ := core.Print(x)
	if e != api.OK || !slices.Equal(used, []bool{true, true, true, false, true, false}) || !strings.Contains(p, "  0 take 0\n") || !strings.Contains(p, "  4 ask f 1\n") {
		t.Error(used, p)
	}
	y := co(bl("f", 1, br("", 0, 3, x.Blocks[0].Branches[0].Ops...)))
	if !core.Same(c, c) || core.Same(x, y) || core.Same(c, co(c.Blocks[:1]...)) || !core.Same(api.Core{}, api.Core{}) {
		t.Error("Same")
	}
	_, e1 := core.Tied(c, 0, 1)
	_, e2 := core.Used(c, -1, 0)
	_, e3 := core.Find(c, "q")
	if e1 != api.ErrNot || e2 != api.ErrNot || e3 != api.ErrNot {
		t.Error(e1, e2, e3)
	}
}

func TestWhatFollows(t *testing.T) { // P18.5
	var d kit.Dice
	for i := range 1500 {
		p := d.Prog()
		c, e := core.Lower(p)
		if e != api.OK {
			t.Fatal(i, e)
		}
		q, e := core.Raise(c)
		again, f := core.Lower(q)
		if e != api.OK || f != api.OK || !core.Same(c, again) {
			t.Error(i, p, q, e, f)
		}
		name := []string{"f", "g", "h", "k"}[d.Roll(4)]
		args := []api.Tree{d.Tree(4), d.Tree(4)}[:map[string]int{"f": 1, "g": 2, "h": 1, "k": 0}[name]]
		v, e := solve.Value(p, name, args)
		w, f := core.Value(c, name, args)
		if e != f || kit.S(v) != kit.S(w) {
			t.Error(i, p, name, args, kit.S(v), e, kit.S(w), f)
		}
	}
}
