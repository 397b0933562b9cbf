package machine_test

import (
	"slices"
	"testing"

	"roundelay/api"
	"roundelay/code"
	"roundelay/core"
	"roundelay/kit"
	"roundelay/machine"
	"roundelay/passes"
)

var n = kit.N

func low(s string) api.Core { c, _ := core.Lower(kit.P(s)); return c }

const ones = "ones[] = cons(a(), ones[])."

// start is the state of a call.
func start(c api.Core, name string, args ...string) api.State {
	s, e := machine.New(c, name, kit.Xs(args...))
	if e != api.OK {
		panic(e)
	}
	return s
}

// many is as many steps as there are.
func many(c api.Core, s api.State) api.State { s, _ = machine.Run(c, s, machine.MaxSteps); return s }

func TestCheck(t *testing.T) { // P21.1
	c := low("f[x] of s(y): p(x, y); a(): k[]. k[] = a().")
	a := kit.Xs("a")
	call := func(b, r int, args ...api.Tree) api.Entry { return api.Entry{Block: b, Branch: r, Args: args} }
	k, ended := call(1, 0), api.Entry{Block: 1, Ended: true, Result: -2}
	frame := func(c, n int, slots ...int) api.Frame { return api.Frame{Call: c, Next: n, Slots: slots} }
	bad := n("A", 0, 0, 0, 0, 9)
	for i, x := range []struct {
		s api.State
		e api.Errno
	}{
		{api.State{}, api.OK}, {api.State{Calls: slices.Repeat([]api.Entry{k}, 41)}, api.ErrMany}, {api.State{Calls: slices.Repeat([]api.Entry{k}, 40)}, api.OK}, {api.State{Frames: []api.Frame{{}}}, api.ErrMany}, {api.State{Cells: make([]api.Node, 200001)}, api.ErrMany}, {api.State{Cells: []api.Node{bad}}, api.ErrForm}, {api.State{Cells: []api.Node{n("p", 0, 0, 0, 0, 9)}}, api.ErrMany}, {api.State{Cells: []api.Node{n("p", 7), bad}}, api.ErrNot}, {api.State{Cells: []api.Node{n("p", -1)}}, api.ErrNot}, {api.State{Cells: []api.Node{n("p", -1, 0)}, Calls: []api.Entry{k}}, api.OK},
		{api.State{Calls: []api.Entry{call(2, 0)}}, api.ErrNot}, {api.State{Calls: []api.Entry{call(0, 2)}}, api.ErrNot}, {api.State{Calls: []api.Entry{call(-1, 0)}}, api.ErrNot}, {api.State{Calls: []api.Entry{call(0, 0)}}, api.ErrClash}, {api.State{Calls: []api.Entry{call(0, 0, api.Tree{})}}, api.ErrMany}, {api.State{Calls: []api.Entry{ended}}, api.ErrNot}, {api.State{Calls: []api.Entry{{Block: 1, Result: -9}}}, api.OK}, {api.State{Calls: []api.Entry{ended, k}}, api.OK},
		{api.State{Calls: []api.Entry{k}, Frames: []api.Frame{frame(1, 9)}}, api.ErrNot}, {api.State{Calls: []api.Entry{k}, Frames: []api.Frame{frame(0, 2)}}, api.ErrRange}, {api.State{Calls: []api.Entry{k}, Frames: []api.Frame{frame(0, -1)}}, api.ErrRange}, {api.State{Calls: []api.Entry{k}, Frames: []api.Frame{frame(0, 1)}}, api.ErrClash}, {api.State{Calls: []api.Entry{k}, Frames: []api.Frame{frame(0, 1, 0)}}, api.ErrNot}, {api.State{Calls: []api.Entry{k}, Frames: []api.Frame{frame(0, 1, -1)}}, api.OK}, {api.State{Calls: []api.Entry{call(0, 1, a...), call(9, 9)}, Frames: []api.Frame{frame(9, 9)}}, api.ErrNot},
	} {
		e := machine.Check(c, x.s)
		if e != x.e {
			t.Error(i, e)
		}
		if e == api.OK {
			continue
		}
		_, e1 := machine.Step(c, x.s)
		_, e2 := machine.Run(c, x.s, -1)
		_, e3 := machine.Value(c, x.s)
		_, e4 := machine.Waiting(c, x.s)
		_, _, e5 := machine.Sweep(c, x.s)
		_, e6 := machine.Open(c, x.s)
		if !slices.Equal([]api.Errno{e1, e2, e3, e4, e5, e6}, slices.Repeat([]api.Errno{e}, 6)) {
			t.Error(i, e1, e2, e3, e4, e5, e6)
		}
	}
	if e := machine.Check(api.Core{}, api.State{Cells: []api.Node{bad}}); e != api.ErrMany {
		t.Error(e)
	}
	s := many(low(ones), start(low(ones), "ones"))
	u := many(low(ones), start(low(ones), "ones"))
	if !machine.Same(s, u) {
		t.Error(s, u)
	}
	for i, change := range []func(){func() { u.Steps++ }, func() { u.Error = 1 }, func() { u.Cells[1].Kids[0] = 1 }, func() { u.Calls[0].Ended = false }, func() { u.Frames = []api.Frame{{}} }} {
		u = many(low(ones), start(low(ones), "ones"))
		if change(); machine.Same(s, u) {
			t.Error(i)
		}
	}
}

func TestRun(t *testing.T) { // P21.2
	c := low(ones + "f[x] = f[x]. two[] = p(id[ones[]], ones[]). id[x] = x. map[x] of cons(h, t): cons(s(h), map[t]). up[x] = cons(x, up[s(x)]). large[x] = id[d[x]]. d[x] of s(y): t(t(d[y])); a(): a(). big[x] = id[t(x)].")
	s := start(c, "ones")
	want := api.State{Calls: []api.Entry{{}}, Frames: []api.Frame{{}}}
	if !machine.Same(s, want) || machine.Over(s) {
		t.Error(s)
	}
	for i, x := range []api.State{
		{Cells: []api.Node{n("a")}, Calls: []api.Entry{{}}, Frames: []api.Frame{{Next: 1, Slots: []int{0}}}, Steps: 1}, {Cells: []api.Node{n("a")}, Calls: []api.Entry{{}}, Frames: []api.Frame{{Next: 2, Slots: []int{0, -1}}}, Steps: 2},
		{Cells: []api.Node{n("a"), n("cons", 0, -1)}, Calls: []api.Entry{{}}, Frames: []api.Frame{{Next: 3, Slots: []int{0, -1, 1}}}, Steps: 3}, {Cells: []api.Node{n("a"), n("cons", 0, -1)}, Calls: []api.Entry{{Ended: true, Result: 1}}, Steps: 4}, {Cells: []api.Node{n("a"), n("cons", 0, -1)}, Calls: []api.Entry{{Ended: true, Result: 1}}, Steps: 4},
	} {
		var e api.Errno
		if s, e = machine.Step(c, s); e != api.OK || !machine.Same(s, x) || machine.Over(s) != (i > 2) {
			t.Error(i, s, e)
		}
	}
	s = many(c, start(c, "f", "a"))
	if s.Error != api.ErrWait || s.Steps != 3 || len(s.Frames) != 1 || s.Calls[0].Ended || !machine.Over(s) {
		t.Error(s)
	}
	// two asks ones: begun, four steps, and then it is asked again, and loaded.
	s, _ = machine.Run(c, start(c, "two"), 6)
	if len(s.Cells) != 4 || s.Frames[0].Next != 1 || !slices.Equal(s.Frames[0].Slots, []int{2}) || s.Cells[2].Name != "cons" {
		t.Error(s)
	}
	s, _ = machine.Step(c, start(c, "map", "1=cons(a,cons(a,1))"))
	if len(s.Calls[0].Args[0].Nodes) != 2 || len(s.Cells) != 1 || s.Cells[0].Name != "a" {
		t.Error(s)
	}
	chain := func(many int) (u api.Tree) {
		for i := range many {
			u.Nodes = append(u.Nodes, n("s", i+1))
		}
		u.Nodes = append(u.Nodes, n("a"))
		return u
	}
	for i, x := range []struct {
		name string
		arg  api.Tree
		e    api.Errno
	}{{"up", kit.X("a"), api.ErrGrow}, {"large", chain(30), api.ErrMany}, {"big", chain(59), api.ErrMany}, {"map", kit.X("cons(a,a)"), api.ErrStuck}} {
		s, e := machine.New(c, x.name, []api.Tree{x.arg})
		if s = many(c, s); e != api.OK || s.Error != x.e || len(s.Frames) == 0 {
			t.Error(i, s.Error, e)
		}
	}
	_, e1 := machine.New(c, "q", nil)
	_, e2 := machine.New(c, "f", nil)
	_, e3 := machine.New(c, "f", []api.Tree{{}})
	_, e4 := machine.New(c, "map", kit.Xs("a"))
	_, e5 := machine.Run(c, s, -1)
	_, e6 := machine.Run(c, s, machine.MaxSteps+1)
	_, e7 := machine.New(api.Core{}, "q", nil)
	if !slices.Equal([]api.Errno{e1, e2, e3, e4, e5, e6, e7}, []api.Errno{api.ErrNot, api.ErrClash, api.ErrMany, api.ErrStuck, api.ErrRange, api.ErrRange, api.ErrMany}) {
		t.Error(e1, e2, e3, e4, e5, e6, e7)
	}
}

func TestWrong(t *testing.T) { // P21.2: what does not come of New
	c := api.Core{Blocks: []api.Block{{Name: "f", Arity: 1, Branches: []api.Branch{{Head: "s", Kids: 1, Ops: []api.Op{{Kind: core.Below}, {Kind: core.Tie, Name: "f", Args: []int{0}}}, Result: 1}}}}}
	noKid := api.State{Calls: []api.Entry{{Args: kit.Xs("a")}}, Frames: []api.Frame{{}}}
	open := api.State{Calls: []api.Entry{{Args: kit.Xs("s(a)")}}, Frames: []api.Frame{{Next: 1, Slots: []int{-1}}}}
	deep := api.State{Cells: []api.Node{n("s", -1)}, Calls: open.Calls, Frames: []api.Frame{{Next: 1, Slots: []int{0}}}}
	round := api.State{Calls: []api.Entry{{Args: kit.Xs("s(a)")}, {Args: kit.Xs("s(b)"), Ended: true, Result: -3}, {Args: kit.Xs("s(d)"), Ended: true, Result: -2}}, Frames: []api.Frame{{Next: 2, Slots: []int{-2, -2}}}}
	full := api.State{Cells: slices.Repeat([]api.Node{n("a")}, machine.MaxCells), Calls: open.Calls, Frames: []api.Frame{{}}}
	for i, x := range []struct {
		s api.State
		e api.Errno
	}{{noKid, api.ErrWrong}, {open, api.ErrWrong}, {deep, api.ErrWrong}, {full, api.ErrFull}, {round, api.OK}} {
		s, e := machine.Step(c, x.s)
		_, f := machine.Run(c, x.s, 1)
		if e != x.e || f != e || e != api.OK && s.Steps != 0 {
			t.Error(i, e, f)
		}
	}
	// Results that lead round, but not back to the call that returns, are no error of the step.
	if s, _ := machine.Step(c, round); s.Error != api.OK || !s.Calls[0].Ended {
		t.Error(s)
	}
}

func TestValue(t *testing.T) { // P21.3
	c := low(ones + "f[x] = f[x].")
	b, _ := code.Encode(c)
	s := start(c, "ones")
	_, e1 := machine.Value(c, s)
	_, e2 := machine.Value(c, api.State{})
	_, e3 := machine.Value(c, api.State{Error: 77, Frames: nil})
	_, e4 := machine.Value(c, api.State{Calls: []api.Entry{{}}})
	v, e5 := machine.Value(c, many(c, s))
	w, e6 := machine.Call(c, "ones", nil)
	x, e7 := machine.Bytes(b, "ones", nil)
	_, e8 := machine.Bytes(b[:9], "ones", nil)
	_, e9 := machine.Call(c, "f", kit.Xs("a"))
	_, f1 := machine.Bytes(b, "q", nil)
	if want := []api.Errno{api.ErrNone, api.ErrNone, 77, api.ErrWrong, api.OK, api.OK, api.OK, api.ErrWrong, api.ErrWait, api.ErrNot}; !slices.Equal([]api.Errno{e1, e2, e3, e4, e5, e6, e7, e8, e9, f1}, want) {
		t.Error(e1, e2, e3, e4, e5, e6, e7, e8, e9, f1)
	}
	for _, u := range []api.Tree{v, w, x} {
		if kit.S(u) != "1=cons(a,1)" || len(u.Nodes) != 2 {
			t.Error(u)
		}
	}
	var large api.State
	for i := range 61 {
		large.Cells = append(large.Cells, n("s", min(i+1, 60)))
	}
	large.Cells[60] = n("a")
	large.Calls = []api.Entry{{Ended: true}}
	if _, e := machine.Value(c, large); e != api.ErrMany {
		t.Error(e)
	}
}

func TestLook(t *testing.T) { // P21.4
	c := low("a[] = s(b[]). b[] = s(g[]). g[] = h[b[]]. h[x] = x.")
	s := many(c, start(c, "a"))
	l, e := machine.Waiting(c, s)
	o, f := machine.Open(c, s)
	_, g := machine.Waiting(c, start(c, "a"))
	if e != api.OK || f != api.OK || g != api.ErrNone || !slices.Equal(l, []string{"a", "b", "g"}) || !slices.Equal(o, []int{0, 1, 2}) {
		t.Error(l, o, e, f, g)
	}
	x := api.State{
		Cells: []api.Node{n("x"), n("p", 3, -1), n("x"), n("b"), n("c"), n("d", 6), n("e", 5)}, Calls: []api.Entry{{Ended: true, Result: 4}, {Result: 5}, {Ended: true, Result: -1}},
		Frames: []api.Frame{{Call: 1, Next: 1, Slots: []int{1}}}, Steps: 9,
	}
	d := low("a[] = s(b[]).  b[] = a().")
	y, many, e := machine.Sweep(d, x)
	want := api.State{Cells: []api.Node{n("p", 1, -1), n("b"), n("c")}, Calls: []api.Entry{{Ended: true, Result: 2}, {Result: 5}, {Ended: true, Result: -1}}, Frames: []api.Frame{{Call: 1, Next: 1, Slots: []int{0}}}, Steps: 9}
	if e != api.OK || many != 4 || !machine.Same(y, want) {
		t.Error(y, many, e)
	}
	y.Cells[0].Kids[0] = 7
	if x.Cells[1].Kids[0] != 3 {
		t.Error("memory is shared")
	}
}

func TestWhatFollows(t *testing.T) { // P21.5
	var d kit.Dice
	for i := range 1200 {
		c, _ := core.Lower(d.Prog())
		if i%3 == 0 {
			c, _, _ = passes.All(c)
		}
		name := []string{"f", "g", "h", "k"}[d.Roll(4)]
		args := []api.Tree{d.Tree(4), d.Tree(4)}[:map[string]int{"f": 1, "g": 2, "h": 1, "k": 0}[name]]
		v, e := core.Value(c, name, args)
		w, f := machine.Call(c, name, args)
		if e != f || kit.S(v) != kit.S(w) {
			t.Error(i, name, args, e, f)
		}
		s, e := machine.New(c, name, args)
		if e != api.OK {
			continue
		}
		x, y := d.Roll(40), d.Roll(40)
		p, _ := machine.Run(c, s, x)
		q, _ := machine.Run(c, p, y)
		r, _ := machine.Run(c, s, x+y)
		if !machine.Same(q, r) || machine.Check(c, q) != api.OK {
			t.Error(i, x, y)
		}
		z, _, e := machine.Sweep(c, q)
		z = many(c, z)
		u, g := machine.Value(c, z)
		if e != api.OK || !machine.Over(z) || g != f || kit.S(u) != kit.S(w) {
			t.Error(i, e, g, f)
		}
	}
}
