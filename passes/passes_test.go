package passes_test

import (
	"slices"
	"testing"

	"roundelay/api"
	"roundelay/core"
	"roundelay/kit"
	"roundelay/passes"
	"roundelay/solve"
)

func op(kind int, name string, num int, args ...int) api.Op {
	return api.Op{Kind: kind, Name: name, Num: num, Args: args}
}
func br(head string, kids, result int, ops ...api.Op) api.Branch {
	return api.Branch{Head: head, Kids: kids, Ops: ops, Result: result}
}
func bl(name string, arity int, l ...api.Branch) api.Block {
	return api.Block{Name: name, Arity: arity, Branches: l}
}
func co(l ...api.Block) api.Core { return api.Core{Blocks: l} }
func low(s string) api.Core      { c, _ := core.Lower(kit.P(s)); return c }

// first is the core of the first block's only branch, as it should be.
func first(t *testing.T, c api.Core, result int, ops ...api.Op) {
	t.Helper()
	got := c.Blocks[0].Branches[0]
	want := c.Blocks[0]
	want.Branches = []api.Branch{br(got.Head, got.Kids, result, ops...)}
	if !core.Same(co(c.Blocks[0]), co(want)) {
		s, _ := core.Print(c)
		t.Error(s)
	}
}

const ones = "ones[] = cons(a(), ones[])."

func two() api.Core { return low("two[] = p(id[ones[]], ones[]). id[x] = x." + ones) }

func TestErrors(t *testing.T) {
	bad, ok := co(), low(ones)
	_, e1 := passes.Drop(bad)
	_, e2 := passes.Share(bad)
	_, e3 := passes.Inline(bad)
	_, e4 := passes.Known(bad)
	_, e5 := passes.Loosen(bad)
	_, e6 := passes.Merge(bad)
	_, e7 := passes.Classes(bad)
	_, e8 := passes.Only(bad, "q")
	_, e9 := passes.Plain(bad)
	_, _, f1 := passes.All(bad)
	_, f2 := passes.Agrees(bad, ok, "", nil)
	_, f3 := passes.Agrees(ok, bad, "", nil)
	_, f4 := passes.Shorter(bad, ok)
	_, f5 := passes.Shorter(ok, bad)
	for i, e := range []api.Errno{e1, e2, e3, e4, e5, e6, e7, e8, e9, f1, f2, f3, f4, f5} {
		if e != api.ErrMany {
			t.Error(i, e)
		}
	}
}

func TestUnused(t *testing.T) { // P19.1
	c := co(bl("f", 1, br("", 0, 3, op(core.Take, "", 0), op(core.Node, "s", 0, 0), op(core.Take, "", 0), op(core.Node, "s", 0, 2), op(core.Tie, "f", 0, 0), op(core.Node, "a", 0))))
	d, e := passes.Drop(c)
	s, f := passes.Share(c)
	if e != api.OK || f != api.OK {
		t.Error(e, f)
	}
	first(t, d, 2, op(core.Take, "", 0), op(core.Take, "", 0), op(core.Node, "s", 0, 1), op(core.Tie, "f", 0, 0))
	first(t, s, 1, op(core.Take, "", 0), op(core.Node, "s", 0, 0), op(core.Tie, "f", 0, 0), op(core.Node, "a", 0))
	calls := co(bl("f", 0, br("", 0, 5, op(core.Ask, "f", 0), op(core.Tie, "f", 0), op(core.Ask, "f", 0), op(core.Tie, "f", 0), op(core.Node, "p", 0, 0, 2), op(core.Node, "p", 0, 1, 3))))
	s, _ = passes.Share(calls)
	first(t, s, 3, op(core.Ask, "f", 0), op(core.Tie, "f", 0), op(core.Node, "p", 0, 0, 0), op(core.Node, "p", 0, 1, 1))
}

func TestPutting(t *testing.T) { // P19.2
	c, e := passes.Inline(two())
	if e != api.OK {
		t.Error(e)
	}
	first(t, c, 2, op(core.Ask, "ones", 0), op(core.Tie, "ones", 0), op(core.Node, "p", 0, 0, 1))
	plain, _ := passes.Plain(two())
	if !slices.Equal(plain, []bool{false, true, false}) {
		t.Error(plain)
	}
	k := low("g[] = f[s(a())]. f[x] of s(y): y; t(y): f[y]; p(u, y): q(y, u, h[]).  h[] = b().")
	plain, _ = passes.Plain(k)
	if !slices.Equal(plain, []bool{false, false, true}) {
		t.Error(plain)
	}
	d, _ := passes.Known(k)
	first(t, d, 0, op(core.Node, "a", 0), op(core.Node, "s", 0, 0))
	d, _ = passes.Drop(d)
	first(t, d, 0, op(core.Node, "a", 0))
	// A branch that is not plain is not put, nor is one for another head, nor for what is no node; a block with a branch any is left to Inline.
	for _, s := range []string{"g[] = f[t(a())].", "g[] = f[s(a(), a())].", "g[] = f[h[]].", "g[] = f[p(a(), b())].", "g[] = h[]."} {
		c := low(s + "f[x] of s(y): y; t(y): f[y]; p(u, y): q(y, u, h[]).  h[] = b().")
		d, _ := passes.Known(c)
		if !core.Same(c, d) {
			t.Error(s)
		}
	}
	// What other blocks are is asked of the core before.
	chain := low("a[] = p(b[], b[]). b[] = s(c[]). c[] = d().")
	d, _ = passes.Inline(chain)
	first(t, d, 2, op(core.Tie, "b", 0), op(core.Tie, "b", 0), op(core.Node, "p", 0, 0, 1))
	d, _ = passes.Inline(d)
	first(t, d, 4, op(core.Node, "d", 0), op(core.Node, "s", 0, 0), op(core.Node, "d", 0), op(core.Node, "s", 0, 2), op(core.Node, "p", 0, 1, 3))
	// 57 operations and a call for which three are put are 60; with one more it is too long.
	long := func(many int) api.Core {
		ops := []api.Op{op(core.Tie, "h", 0)}
		for range many {
			ops = append(ops, op(core.Node, "a", 0))
		}
		return co(bl("g", 0, br("", 0, 0, ops...)), bl("h", 0, br("", 0, 2, op(core.Node, "b", 0), op(core.Node, "s", 0, 0), op(core.Node, "s", 0, 1))))
	}
	d, _ = passes.Inline(long(57))
	if len(d.Blocks[0].Branches[0].Ops) != 60 || d.Blocks[0].Branches[0].Result != 2 || core.Check(d) != api.OK {
		t.Error(d)
	}
	d, _ = passes.Inline(long(58))
	if !core.Same(d, long(58)) {
		t.Error(d)
	}
}

func TestLoosen(t *testing.T) { // P19.3
	c := co(bl("f", 1, br("", 0, 5, op(core.Take, "", 0), op(core.Ask, "f", 0, 0), op(core.Node, "s", 0, 1), op(core.Ask, "f", 0, 2), op(core.Ask, "f", 0, 0), op(core.Node, "p", 0, 3, 4))))
	d, e := passes.Loosen(c)
	if e != api.OK || core.Check(d) != api.OK {
		t.Error(e)
	}
	first(t, d, 5, op(core.Take, "", 0), op(core.Ask, "f", 0, 0), op(core.Node, "s", 0, 1), op(core.Tie, "f", 0, 2), op(core.Tie, "f", 0, 0), op(core.Node, "p", 0, 3, 4))
	d, _ = passes.Loosen(two())
	if !core.Same(d, two()) {
		t.Error(d)
	}
}

func TestBlocks(t *testing.T) { // P19.4
	c := low("z[] = p(more[], ones[])." + ones + "more[] = cons(a(), more[]). other[] = cons(b(), ones[]). x[a] = y[a]. y[a] = x[a]. w[a] = q(a).")
	l, e := passes.Classes(c)
	m, f := passes.Merge(c)
	if e != api.OK || f != api.OK || !slices.Equal(l, []int{0, 1, 1, 3, 4, 4, 6}) || len(m.Blocks) != 5 || core.Check(m) != api.OK {
		t.Error(l, e, m, f)
	}
	first(t, m, 2, op(core.Tie, "ones", 0), op(core.Tie, "ones", 0), op(core.Node, "p", 0, 0, 1))
	alt := low("f[x] of s(y): y; t(y): y. g[x] of t(y): y; s(y): y. h[x] of s(y): y.")
	l, _ = passes.Classes(alt)
	if !slices.Equal(l, []int{0, 1, 2}) {
		t.Error(l)
	}
	o, e := passes.Only(c, "other")
	_, f = passes.Only(c, "q")
	dead := co(bl("f", 0, br("", 0, 1, op(core.Tie, "g", 0), op(core.Node, "a", 0))), bl("h", 0, br("", 0, 0, op(core.Node, "a", 0))), bl("g", 0, br("", 0, 0, op(core.Node, "a", 0))))
	d, _ := passes.Only(dead, "f")
	if e != api.OK || f != api.ErrNot || len(o.Blocks) != 2 || o.Blocks[0].Name != "ones" || o.Blocks[1].Name != "other" || len(d.Blocks) != 2 {
		t.Error(o, e, f, d)
	}
}

func TestAll(t *testing.T) { // P19.5
	c, n, e := passes.All(two())
	if e != api.OK || n != 2 {
		t.Error(n, e)
	}
	first(t, c, 1, op(core.Tie, "ones", 0), op(core.Node, "p", 0, 0, 0))
	same, n, _ := passes.All(low(ones))
	if n != 0 || !core.Same(same, low(ones)) {
		t.Error(n)
	}
	a, b := low("f[] = a(). w[x] = w[x]."), low("f[] = b(). w[x] = x.")
	is, e := passes.Agrees(a, b, "f", nil)
	none, _ := passes.Agrees(a, b, "w", kit.Xs("a"))
	not, _ := passes.Agrees(b, a, "w", kit.Xs("a"))
	_, e1 := passes.Agrees(a, b, "q", nil)
	_, e2 := passes.Agrees(a, low("g[] = a()."), "f", nil)
	_, e3 := passes.Agrees(a, b, "w", nil)
	_, e4 := passes.Agrees(a, low("f[x] = x."), "f", nil)
	_, e5 := passes.Agrees(a, b, "w", []api.Tree{{}})
	if is || e != api.OK || !none || not || e1 != api.ErrNot || e2 != api.ErrNot || e3 != api.ErrClash || e4 != api.ErrClash || e5 != api.ErrMany {
		t.Error(is, e, none, not, e1, e2, e3, e4, e5)
	}
	x, _ := passes.Shorter(a, b)
	y, _ := passes.Shorter(b, a)
	z, _ := passes.Shorter(low("f[] = a()."), low("g[] = a()."))
	u, _ := passes.Shorter(a, low("f[] = a()."))
	if !x || y || z || u {
		t.Error(x, y, z, u)
	}
}

func TestWhatFollows(t *testing.T) { // P19.6
	var d kit.Dice
	for i := range 800 {
		p := d.Prog()
		c, _ := core.Lower(p)
		name := []string{"f", "g", "h", "k"}[d.Roll(4)]
		args := []api.Tree{d.Tree(4), d.Tree(4)}[:map[string]int{"f": 1, "g": 2, "h": 1, "k": 0}[name]]
		all := func(c api.Core) (api.Core, api.Errno) { x, _, e := passes.All(c); return x, e }
		for j, f := range []func(api.Core) (api.Core, api.Errno){passes.Drop, passes.Share, passes.Inline, passes.Known, passes.Loosen, all} {
			x, e := f(c)
			if e != api.OK || core.Check(x) != api.OK {
				t.Fatal(i, j, e)
			}
			if is, e := passes.Agrees(c, x, name, args); !is || e != api.OK {
				t.Error(i, j, p, name, args)
			}
			again, _ := f(x)
			shorter, _ := passes.Shorter(c, x)
			if j != 2 && j != 3 && j != 5 && (!shorter || !core.Same(x, again)) {
				t.Error(i, j, shorter)
			}
			if j == 0 {
				for b, blk := range x.Blocks {
					for n := range blk.Branches {
						if used, _ := core.Used(x, b, n); slices.Contains(used, false) {
							t.Error(i, used)
						}
					}
				}
			}
			if q, e := core.Raise(x); e == api.OK {
				v, e := solve.Value(p, name, args)
				w, f := solve.Value(q, name, args)
				if e == api.OK && (f != api.OK || kit.S(v) != kit.S(w)) {
					t.Error(i, j, p, q, e, f)
				}
			}
		}
		m, _ := passes.Merge(c)
		l, _ := passes.Classes(c)
		at, _ := core.Find(c, name)
		if len(m.Blocks) > len(c.Blocks) {
			t.Error(i)
		}
		v, e := core.Value(c, name, args)
		w, f := core.Value(m, c.Blocks[l[at]].Name, args)
		if e == api.OK && (f != api.OK || kit.S(v) != kit.S(w)) {
			t.Error(i, e, f)
		}
	}
}
