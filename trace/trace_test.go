package trace_test

import (
	"fmt"
	"slices"
	"testing"

	"roundelay/api"
	"roundelay/core"
	"roundelay/kit"
	"roundelay/machine"
	"roundelay/trace"
)

func low(s string) api.Core { c, _ := core.Lower(kit.P(s)); return c }

// begun is the trace of a call, run is it at its end.
func begun(s, name string, args ...string) api.Trace {
	t, e := trace.New(low(s), name, kit.Xs(args...))
	if e != api.OK {
		panic(e)
	}
	return t
}
func run(s, name string, args ...string) api.Trace {
	t := begun(s, name, args...)
	for !machine.Over(t.Now) {
		u, e := trace.Step(t)
		if e != api.OK {
			panic(e)
		}
		t = u
	}
	return t
}

// eq compares things, where nil lists are as empty ones.
func eq(a, b any) bool { return fmt.Sprint(a) == fmt.Sprint(b) }

const (
	ones    = "ones[] = cons(a(), ones[])."
	two     = "two[] = p(id[ones[]], ones[]). id[x] = x." + ones
	waiting = "g[] = s(h[g[]]). h[x] = x. f[x] = f[x]."
)

func TestCheck(t *testing.T) { // P26.1
	ok := run(two, "two")
	edit := func(f func(u *api.Trace)) api.Trace {
		u := run(two, "two")
		f(&u)
		return u
	}
	fail := func(e api.Errno, l ...api.Errno) {
		t.Helper()
		if !slices.Equal(l, slices.Repeat([]api.Errno{e}, len(l))) {
			t.Error(e, l)
		}
	}
	for i, x := range []struct {
		t api.Trace
		e api.Errno
	}{
		{ok, api.OK}, {begun(ones, "ones"), api.OK}, {edit(func(u *api.Trace) { u.Core = api.Core{} }), api.ErrMany}, {edit(func(u *api.Trace) { u.Now.Cells[0].Name = "A" }), api.ErrForm}, {edit(func(u *api.Trace) { u.Past = u.Past[1:] }), api.ErrMany}, {edit(func(u *api.Trace) { u.Now.Steps = 401; u.Past = make([]api.Delta, 401) }), api.ErrMany}, {api.Trace{Core: low(ones)}, api.ErrWrong}, {edit(func(u *api.Trace) { u.Now.Cells[0].Name = "b" }), api.ErrWrong},
		{edit(func(u *api.Trace) { u.Past[0].Cells++ }), api.ErrWrong}, {edit(func(u *api.Trace) { u.Past[0].Frame.Call = 1 }), api.ErrWrong}, {edit(func(u *api.Trace) { u.Now.Steps++; u.Past = append(u.Past, api.Delta{}) }), api.ErrWrong}, {edit(func(u *api.Trace) { u.Past[len(u.Past)-1].Frame.Slots[0] = 0 }), api.ErrWrong}, {edit(func(u *api.Trace) { u.Now.Steps--; u.Past = u.Past[:len(u.Past)-1] }), api.ErrWrong}, {edit(func(u *api.Trace) { u.Past[0], u.Past[1] = u.Past[1], u.Past[0] }), api.ErrWrong},
	} {
		e := trace.Check(x.t)
		if e != x.e {
			t.Error(i, e)
		}
		if e == api.OK {
			continue
		}
		_, e1 := trace.Step(x.t)
		_, e2 := trace.Back(x.t)
		_, e3 := trace.To(x.t, -1)
		_, e4 := trace.Events(x.t)
		_, e5 := trace.Begun(x.t, -1)
		_, e6 := trace.Made(x.t, -1)
		_, e7 := trace.Ended(x.t, -1)
		_, e8 := trace.Until(x.t, "zz")
		_, _, e9 := trace.Deep(x.t)
		_, f1 := trace.Why(x.t)
		_, f2 := trace.Because(x.t, nil)
		_, f3 := trace.Told(x.t)
		fail(e, e1, e2, e3, e4, e5, e6, e7, e8, e9, f1, f2, f3)
	}
	_, e1 := trace.New(api.Core{}, "f", nil)
	_, e2 := trace.New(low(ones), "q", nil)
	n, e3 := trace.New(low(ones), "ones", nil)
	if e1 != api.ErrMany || e2 != api.ErrNot || e3 != api.OK || len(n.Past) != 0 || len(n.Now.Frames) != 1 {
		t.Error(e1, e2, n, e3)
	}
	n.Core.Blocks[0].Branches[0].Ops[0].Name = "z"
	if trace.Check(ok) != api.OK {
		t.Error("memory is shared")
	}
}

func TestMoves(t *testing.T) { // P26.2
	u := run(ones, "ones")
	b, e := trace.Back(u)
	if e != api.OK || b.Now.Frames[0].Next != 3 || b.Now.Calls[0].Ended || b.Now.Steps != 3 || len(b.Past) != 3 || len(u.Past) != 4 || !u.Now.Calls[0].Ended {
		t.Error(b, e)
	}
	_, e1 := trace.Step(u)
	_, e2 := trace.Back(begun(ones, "ones"))
	_, e3 := trace.To(u, -1)
	_, e4 := trace.To(u, 401)
	_, e5 := trace.To(u, 5)
	x, e6 := trace.To(u, 1)
	y, e7 := trace.To(x, 4)
	if !slices.Equal([]api.Errno{e1, e2, e3, e4, e5, e6, e7}, []api.Errno{api.ErrNone, api.ErrNone, api.ErrRange, api.ErrRange, api.ErrNone, api.OK, api.OK}) || x.Now.Steps != 1 || !eq(y, u) {
		t.Error(e1, e2, e3, e4, e5, e6, e7)
	}
	// A trace may have 400 steps: eleven steps for each call of a long run.
	long := "c[x] of s(y): p(p(p(p(p(y, y), y), y), y), c[y]); a(): a()."
	chain := api.Tree{}
	for i := range 39 {
		chain.Nodes = append(chain.Nodes, kit.N("s", i+1))
	}
	chain.Nodes = append(chain.Nodes, kit.N("a"))
	v, _ := trace.New(low(long), "c", []api.Tree{chain})
	v, e = trace.To(v, 400)
	_, f := trace.Step(v)
	if e != api.OK || f != api.ErrFull {
		t.Error(e, f)
	}
	_, f = trace.Until(v, "c")
	if f != api.ErrFull {
		t.Error(f)
	}
}

func TestDeltas(t *testing.T) { // P26.3
	u := run(ones, "ones")
	want := []api.Delta{{Cells: 1, Slot: true}, {Slot: true}, {Cells: 1, Slot: true}, {Returned: true, Frame: api.Frame{Next: 3, Slots: []int{0, -1, 1}}}}
	if !eq(u.Past, want) {
		t.Error(u.Past)
	}
	s, _ := machine.New(low(ones), "ones", nil)
	d, e := trace.Diff(low(ones), s)
	_, f := trace.Diff(low(ones), u.Now)
	_, g := trace.Diff(api.Core{}, u.Now)
	wrong := api.State{Calls: []api.Entry{{Args: kit.Xs("a")}}, Frames: []api.Frame{{}}}
	_, h := trace.Diff(low("f[x] of s(y): y."), wrong)
	if e != api.OK || !eq(d, want[0]) || f != api.ErrNone || g != api.ErrMany || h != api.ErrWrong {
		t.Error(d, e, f, g, h)
	}
	base := func() api.State {
		return api.State{Cells: []api.Node{kit.N("a"), kit.N("b")}, Calls: []api.Entry{{Ended: true, Result: 1}, {}}, Frames: []api.Frame{{Call: 1, Next: 1, Slots: []int{0}}}, Steps: 5}
	}
	begins := base()
	begins.Frames = append(begins.Frames, api.Frame{Call: 1})
	failed := base()
	failed.Error = api.ErrGrow
	zero := base()
	zero.Steps = 0
	bare := base()
	bare.Frames = nil
	frame := api.Frame{Call: 0, Next: 1, Slots: []int{7}}
	for i, x := range []struct {
		s  api.State
		d  api.Delta
		is bool
	}{
		{base(), api.Delta{}, true}, {zero, api.Delta{}, false}, {base(), api.Delta{Cells: 2, Slot: true}, true}, {base(), api.Delta{Cells: 3}, false}, {base(), api.Delta{Cells: -1}, false}, {bare, api.Delta{Slot: true}, false}, {bare, api.Delta{Begun: true}, false}, {begins, api.Delta{Slot: true}, false}, {begins, api.Delta{Begun: true}, true}, {base(), api.Delta{Begun: true}, false}, {begins, api.Delta{Begun: true, Slot: true}, false}, {begins, api.Delta{Begun: true, Returned: true, Frame: frame}, false}, {base(), api.Delta{Slot: true, Returned: true, Frame: frame}, false},
		{base(), api.Delta{Returned: true, Frame: frame}, true}, {bare, api.Delta{Returned: true, Frame: frame}, true}, {base(), api.Delta{Returned: true, Frame: api.Frame{Call: 2}}, false}, {base(), api.Delta{Returned: true, Frame: api.Frame{Call: 1}}, false}, {base(), api.Delta{Returned: true, Frame: api.Frame{Call: 0, Next: 2, Slots: []int{0}}}, false}, {failed, api.Delta{}, false}, {base(), api.Delta{Error: 9}, false}, {failed, api.Delta{Error: api.ErrGrow}, true}, {failed, api.Delta{Error: api.ErrGrow, Slot: true}, false}, {failed, api.Delta{Error: api.ErrGrow, Cells: 1}, false},
	} {
		before := fmt.Sprint(x.s)
		v, e := trace.Undo(x.s, x.d)
		if (e == api.OK) != x.is || e != api.OK && (e != api.ErrWrong || len(v.Cells) > 0) || fmt.Sprint(x.s) != before {
			t.Error(i, e)
		}
		if e == api.OK && (v.Steps != 4 || v.Error != api.OK || len(v.Cells) != 2-x.d.Cells) {
			t.Error(i, v)
		}
	}
	v, _ := trace.Undo(base(), api.Delta{Returned: true, Frame: frame})
	if v.Calls[0].Ended || v.Calls[0].Result != 0 || !eq(v.Frames[1], frame) {
		t.Error(v)
	}
}

func TestEvents(t *testing.T) { // P26.4
	l, e := trace.Events(run(ones, "ones"))
	if e != api.OK || !eq(l, "[{1 2 0 -1} {2 4 0 0} {3 2 0 -1} {4 6 0 0}]") {
		t.Error(l)
	}
	u := run(two, "two")
	l, _ = trace.Events(u)
	if want := "[{1 3 0 1} {2 2 1 -1} {3 4 1 1} {4 2 1 -1} {5 6 1 1} {6 5 0 1} {7 3 0 2} {8 1 2 -1} {9 6 2 2} {10 4 0 2} {11 4 0 1} {12 2 0 -1} {13 6 0 0}]"; !eq(l, want) {
		t.Error(l)
	}
	l, _ = trace.Events(run(waiting, "f", "a"))
	if !eq(l, "[{1 1 0 -1} {2 4 0 0} {3 7 0 -1}]") {
		t.Error(l)
	}
	for i, want := range []int{0, 1, 7} {
		if n, e := trace.Begun(u, i); n != want || e != api.OK {
			t.Error(i, n, e)
		}
	}
	for i, want := range []int{13, 5, 9} {
		if n, e := trace.Ended(u, i); n != want || e != api.OK {
			t.Error(i, n, e)
		}
	}
	for i, want := range []int{2, 4, 6, 6, 8, 8, 12} {
		if n, e := trace.Made(u, i); n != want || e != api.OK {
			t.Error(i, n, e)
		}
	}
	half, _ := trace.To(u, 6)
	_, e1 := trace.Begun(u, 3)
	_, e2 := trace.Ended(u, -1)
	_, e3 := trace.Made(u, 7)
	_, e4 := trace.Ended(half, 0)
	v, e5 := trace.Until(half, "id")
	_, e6 := trace.Until(u, "id")
	_, e7 := trace.Until(half, "q")
	_, e8 := trace.Until(half, "ones")
	if !slices.Equal([]api.Errno{e1, e2, e3, e4, e5, e6, e7, e8}, []api.Errno{api.ErrNot, api.ErrNot, api.ErrNot, api.ErrNone, api.OK, api.ErrNone, api.ErrNot, api.ErrNone}) || v.Now.Steps != 7 || len(v.Now.Calls) != 3 {
		t.Error(e1, e2, e3, e4, e5, e6, e7, e8)
	}
	m, s, _ := trace.Deep(u)
	n, r, _ := trace.Deep(run(ones, "ones"))
	if m != 2 || s != 1 || n != 1 || r != 0 {
		t.Error(m, s, n, r)
	}
}

func TestWhy(t *testing.T) { // P26.5
	for _, x := range []struct {
		p, name string
		ring    string
		told    string
		no      [][]int
	}{
		{waiting, "f", "[0]", "[f]", [][]int{{0, 0}, nil, {1}, {-1}}}, {waiting, "g", "[0 0]", "[g g]", [][]int{{0}, {0, 0, 0}, {0, 1}}}, {"f[x] = g[x]. g[x] = h[x]. h[x] = f[x].", "f", "[0 1 2]", "[f g h]", [][]int{{0, 1}, {0, 2, 1}, {1, 2, 0}}},
		{"a[] = p(e[], b[]). e[] = p(k[], a[]). k[] = s(a[]). b[] = d[e[]]. d[x] = x.", "a", "[3 1 0]", "[b e a]", [][]int{{3, 1}, {3, 0}, {1, 0}, {3, 1, 2}}}, {"a[] = s(b[]). b[] = s(g[]). g[] = h[b[]]. h[x] = x.", "a", "[2 1]", "[g b]", [][]int{{2, 1, 1}, {2, 0}}},
		{"a[] = p(q[], w[]). q[] = s(r[]). r[] = s(a[]). w[] = i[q[]]. i[x] = x.", "a", "[3 1 2 0]", "[w q r a]", [][]int{{3, 1, 0}, {3, 1, 2}}},
	} {
		args := []string{}
		if x.name == "f" {
			args = []string{"a"}
		}
		u := run(x.p, x.name, args...)
		ring, e := trace.Why(u)
		names, f := trace.Told(u)
		is, g := trace.Because(u, ring)
		if e != api.OK || f != api.OK || g != api.OK || !eq(ring, x.ring) || !eq(names, x.told) || !is {
			t.Error(x.p, ring, names, is, e, f, g)
		}
		for _, l := range append(x.no, make([]int, 41)) {
			if is, e := trace.Because(u, l); is || e != api.OK {
				t.Error(x.p, l, is, e)
			}
		}
	}
	// A way that is not the shortest shows it, too.
	u := run("a[] = p(e[], b[]). e[] = p(k[], a[]). k[] = s(a[]). b[] = d[e[]]. d[x] = x.", "a")
	if is, _ := trace.Because(u, []int{3, 1, 2, 0}); !is {
		t.Error("by k it waits, too")
	}
	_, e1 := trace.Why(run(ones, "ones"))
	_, e2 := trace.Told(begun(ones, "ones"))
	_, e3 := trace.Because(run(ones, "ones"), []int{0})
	if e1 != api.ErrNone || e2 != api.ErrNone || e3 != api.ErrNone {
		t.Error(e1, e2, e3)
	}
}

func TestWhatFollows(t *testing.T) { // P26.6
	var d kit.Dice
	waits := 0
	for i := range 150 {
		c, _ := core.Lower(d.Prog())
		name := []string{"f", "g", "h", "k"}[d.Roll(4)]
		args := []api.Tree{d.Tree(4), d.Tree(4)}[:map[string]int{"f": 1, "g": 2, "h": 1, "k": 0}[name]]
		u, e := trace.New(c, name, args)
		if e != api.OK {
			continue
		}
		all := []api.Trace{u}
		for len(all) < 40 {
			v, e := trace.Step(u)
			if e != api.OK {
				break
			}
			b, e := trace.Back(v)
			s, f := trace.Undo(v.Now, v.Past[len(v.Past)-1])
			if e != api.OK || f != api.OK || !eq(b, u) || !machine.Same(s, u.Now) {
				t.Fatal(i, e, f)
			}
			u = v
			all = append(all, u)
		}
		l, e := trace.Events(u)
		if e != api.OK || len(l) != len(u.Past) {
			t.Error(i, l, e)
		}
		n := d.Roll(len(all))
		w, e := trace.To(u, n)
		if e != api.OK || !eq(w, all[n]) {
			t.Error(i, n, e)
		}
		for k := range u.Now.Calls {
			b, _ := trace.Begun(u, k)
			if len(all[b].Now.Calls) != k+1 || b > 0 && len(all[b-1].Now.Calls) != k {
				t.Error(i, k, b)
			}
		}
		for k := range u.Now.Cells {
			b, _ := trace.Made(u, k)
			if len(all[b].Now.Cells) <= k || len(all[b-1].Now.Cells) > k {
				t.Error(i, k, b)
			}
		}
		var frames []int
		for _, f := range u.Now.Frames {
			frames = append(frames, f.Call)
		}
		open, _ := machine.Open(c, u.Now)
		if !slices.Equal(frames, open) {
			t.Error(i, frames, open)
		}
		if ring, e := trace.Why(u); e == api.OK {
			waits++
			if is, _ := trace.Because(u, ring); !is {
				t.Error(i, ring)
			}
		}
	}
	if waits < 10 {
		t.Error(waits)
	}
}
