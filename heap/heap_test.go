package heap_test

import (
	"slices"
	"testing"

	"roundelay/api"
	"roundelay/heap"
	"roundelay/kit"
)

// made returns a heap of so many cells.
func made(cells int) *heap.Heap { h, _ := heap.New(cells); return h }

// put puts trees.
func put(h *heap.Heap, texts ...string) (l []int) {
	for _, s := range texts {
		c, _ := h.Put(kit.X(s))
		l = append(l, c)
	}
	return l
}

// get is the text of a cell.
func get(h *heap.Heap, cell int) string {
	t, e := h.Get(cell)
	if e != api.OK {
		return ""
	}
	return kit.S(t)
}

func TestNone(t *testing.T) {
	for _, h := range []*heap.Heap{nil, {}} {
		_, e1 := h.Make("", nil)
		e2 := h.Tie(0, 0, 0)
		_, e3 := h.Put(api.Tree{})
		_, e4 := h.Get(0)
		_, e5 := h.Find(api.Tree{})
		_, e6 := h.Alike(0, 0)
		e7 := h.Hold(0)
		e8 := h.Drop(0)
		_, e9 := h.Held()
		_, f1 := h.Merge()
		_, f2 := h.Sweep()
		_, f3 := h.Pack()
		_, f4 := h.Tight()
		_, f5 := h.Save()
		f6 := h.Back(0)
		for i, e := range []api.Errno{e1, e2, e3, e4, e5, e6, e7, e8, e9, f1, f2, f3, f4, f5, f6} {
			if e != api.ErrNone {
				t.Error(i, e)
			}
		}
		if h.Size() != 0 || h.Free() != 0 || heap.Same(h, h) || heap.Same(made(1), h) || heap.Same(h, made(1)) {
			t.Error("no heap")
		}
	}
}

func TestMake(t *testing.T) { // P23.1
	_, e := heap.New(0)
	h, f := heap.New(401)
	if e != api.ErrRange || f != api.ErrRange || h != nil || made(400).Free() != 400 {
		t.Error(e, f)
	}
	h = made(2)
	a, e1 := h.Make("a", nil)
	_, e2 := h.Make("A", make([]int, 9))
	_, e3 := h.Make("p", []int{9, 9, 9, 9, 9})
	_, e4 := h.Make("p", []int{0, 1})
	_, e5 := h.Make("p", []int{-1})
	b, e6 := h.Make("cons", []int{0, 0})
	_, e7 := h.Make("p", []int{0})
	_, e8 := h.Make("p", []int{2})
	e9 := h.Tie(1, 1, 1)
	if want := []api.Errno{api.OK, api.ErrForm, api.ErrMany, api.ErrNot, api.ErrNot, api.OK, api.ErrFull, api.ErrNot, api.OK}; !slices.Equal([]api.Errno{e1, e2, e3, e4, e5, e6, e7, e8, e9}, want) || a != 0 || b != 1 {
		t.Error(e1, e2, e3, e4, e5, e6, e7, e8, e9)
	}
	for i, x := range [][3]int{{2, 0, 0}, {-1, 0, 0}, {1, 2, 0}, {1, -1, 0}, {1, 0, 2}, {0, 0, 0}} {
		if e := h.Tie(x[0], x[1], x[2]); e != api.ErrNot {
			t.Error(i, e)
		}
	}
	if get(h, 1) != "1=cons(a,1)" {
		t.Error(get(h, 1))
	}
	// The least free cell is taken again.
	h = made(3)
	put(h, "s(b)")
	h.Hold(1)
	h.Sweep()
	if c, _ := h.Make("z", []int{1}); c != 0 {
		t.Error(c)
	}
}

func TestTrees(t *testing.T) { // P23.2
	h := made(4)
	h.Make("a", nil)
	h.Make("cons", []int{0, 0})
	h.Tie(1, 1, 1)
	c := put(h, "1=cons(a,cons(a,1))", "p(1=b,1)")
	if !slices.Equal(c, []int{1, 2}) || get(h, 2) != "p(1=b,1)" || h.Free() != 0 {
		t.Error(c, get(h, 2))
	}
	d, e := h.Put(kit.X("q(a,q(a,b))"))
	f, g := h.Find(kit.X("b"))
	_, k := h.Find(kit.X("q"))
	if d != 0 || e != api.ErrFull || h.Size() != 4 || f != 3 || g != api.OK || k != api.ErrNot {
		t.Error(d, e, f, g, k)
	}
	for e, w := range kit.Wrong() {
		_, f := h.Put(w)
		_, g := h.Find(w)
		if f != e || g != e {
			t.Error(e, f, g)
		}
	}
	_, e = h.Get(4)
	is, g := h.Alike(1, 1)
	not, _ := h.Alike(0, 3)
	_, k = h.Alike(0, 4)
	if e != api.ErrNot || !is || g != api.OK || not || k != api.ErrNot {
		t.Error(e, is, g, not, k)
	}
	// What was there before a Put is used; new cells are taken in order, also round.
	h = made(9)
	put(h, "s(a)", "t(b)")
	h.Hold(0)
	h.Sweep()
	if c := put(h, "1=p(q(1,t(b)),s(a))"); c[0] != 2 || get(h, 2) != "1=p(q(1,t(b)),s(a))" || get(h, 3) != "1=q(p(1,s(a)),t(b))" || h.Size() != 6 {
		t.Error(c, get(h, 2), get(h, 3))
	}
	long := made(70)
	last, _ := long.Make("a", nil)
	for range 60 {
		last, _ = long.Make("s", []int{last})
	}
	if _, e := long.Get(last); e != api.ErrMany {
		t.Error(e)
	}
}

func TestHolds(t *testing.T) { // P23.3
	h := made(6)
	put(h, "s(a)", "b", "t(s(c))")
	e1, e2, e3, e4 := h.Hold(6), h.Drop(6), h.Drop(0), h.Hold(0)
	l, _ := h.Held()
	if e1 != api.ErrNot || e2 != api.ErrNot || e3 != api.ErrNone || e4 != api.OK || !slices.Equal(l, []int{0}) {
		t.Error(e1, e2, e3, e4, l)
	}
	for range heap.MaxHolds - 1 {
		h.Hold(0)
	}
	e1, e2 = h.Hold(0), h.Drop(0)
	h.Hold(4)
	n, e := h.Sweep()
	l, _ = h.Held()
	again, _ := h.Sweep()
	if e1 != api.ErrFull || e2 != api.OK || n != 2 || e != api.OK || !slices.Equal(l, []int{0, 4}) || again != 0 || get(h, 0) != "s(a)" || get(h, 4) != "s(c)" || h.Size() != 4 {
		t.Error(e1, e2, n, e, l, again)
	}
}

func TestMerge(t *testing.T) { // P23.4
	h := made(6)
	h.Make("a", nil)
	h.Make("cons", []int{0, 0})
	h.Tie(1, 1, 1)
	h.Make("cons", []int{0, 1})
	h.Hold(2)
	h.Hold(1)
	h.Make("s", []int{2})
	tight, _ := h.Tight()
	n, e := h.Merge()
	after, _ := h.Tight()
	l, _ := h.Held()
	if tight || n != 1 || e != api.OK || !after || !slices.Equal(l, []int{1}) || h.Size() != 3 || get(h, 3) != "s(1=cons(a,1))" || get(h, 2) != "" {
		t.Error(tight, n, e, after, l)
	}
	if h.Drop(1) != api.OK || h.Drop(1) != api.OK || h.Drop(1) != api.ErrNone {
		t.Error("it is held as often as all of them were")
	}
	// A ring of six becomes one cell.
	ring := made(6)
	ring.Make("s", nil)
	ring = made(6)
	first, _ := ring.Make("a", nil)
	for range 5 {
		first, _ = ring.Make("s", []int{first})
	}
	ring = made(7)
	last, _ := ring.Make("x", nil)
	for range 6 {
		last, _ = ring.Make("s", []int{last})
	}
	ring.Tie(1, 0, last)
	if n, _ := ring.Merge(); n != 5 || get(ring, 1) != "1=s(1)" {
		t.Error(n, get(ring, 1))
	}
	full := made(2)
	full.Make("a", nil)
	full.Make("a", nil)
	for range 501 {
		full.Hold(0)
		full.Hold(1)
	}
	if _, e := full.Merge(); e != api.ErrFull || full.Size() != 2 {
		t.Error(e)
	}
	full.Drop(0)
	full.Drop(1)
	if n, e := full.Merge(); n != 1 || e != api.OK {
		t.Error(n, e)
	}
	// Those that are held come first, each followed by what is reached from it.
	p := made(9)
	put(p, "z", "p(a,s(a))", "q(s(a),b)")
	p.Hold(4)
	p.Hold(1)
	to, e := p.Pack()
	if e != api.OK || !slices.Equal(to, []int{-1, 0, 1, 2, 3, 4, -1, -1, -1}) || get(p, 3) != "q(s(a),b)" {
		t.Error(to, e)
	}
	p.Drop(0)
	to, _ = p.Pack()
	if !slices.Equal(to, []int{-1, 3, 1, 0, 2, -1, -1, -1, -1}) || get(p, 0) != "q(s(a),b)" || p.Size() != 4 {
		t.Error(to, get(p, 0))
	}
}

func TestVersions(t *testing.T) { // P23.5
	h := made(5)
	put(h, "s(a)")
	h.Hold(0)
	v, e := h.Save()
	h.Tie(0, 0, 0)
	put(h, "b")
	h.Drop(0)
	w, _ := h.Save()
	other := made(5)
	put(other, "s(a)")
	unheld := heap.Same(h, other)
	other.Hold(0)
	if v != 0 || e != api.OK || w != 1 || unheld || heap.Same(h, other) || heap.Same(made(4), made(5)) || !heap.Same(made(5), made(5)) {
		t.Error(v, e, w)
	}
	if e := h.Back(0); e != api.OK || !heap.Same(h, other) || get(h, 0) != "s(a)" {
		t.Error(e, get(h, 0))
	}
	h.Tie(0, 0, 0)
	if h.Back(0) != api.OK || get(h, 0) != "s(a)" || h.Back(1) != api.OK || get(h, 0) != "1=s(1)" || h.Back(2) != api.ErrNot || h.Back(-1) != api.ErrNot {
		t.Error("versions stay as they are")
	}
	for range 6 {
		h.Save()
	}
	if _, e := h.Save(); e != api.ErrFull {
		t.Error(e)
	}
}

func TestWhatFollows(t *testing.T) { // P23.6
	var d kit.Dice
	for i := range 60 {
		h := made(60)
		is := map[int]string{} // what cells that are held unfold to
		for range 80 {
			switch d.Roll(8) {
			case 0, 1:
				if c, e := h.Put(d.Tree(5)); e == api.OK && h.Hold(c) == api.OK {
					is[c] = get(h, c)
				}
			case 2:
				c, e := h.Make([]string{"a", "b"}[d.Roll(2)], nil)
				if e == api.OK {
					h.Make("s", []int{c})
				}
			case 3:
				before := h.Size()
				n, e := h.Merge()
				tight, _ := h.Tight()
				if e != api.OK || h.Size() != before-n || !tight {
					t.Fatal(i, n, e, tight)
				}
				held, _ := h.Held()
				for c, s := range is {
					if k, e := h.Find(kit.X(s)); e != api.OK || !slices.Contains(held, k) {
						t.Fatal(i, c, s)
					} else if k != c {
						delete(is, c)
						is[k] = s
					}
				}
			case 4:
				h.Sweep()
			case 5:
				to, _ := h.Pack()
				next := map[int]string{}
				for c, s := range is {
					next[to[c]] = s
				}
				is = next
			case 6:
				for c := range is {
					h.Hold(c)
					h.Drop(c)
				}
			case 7:
				h.Merge()
				h.Put(d.Tree(4))
				held, _ := h.Held()
				is = map[int]string{}
				for _, c := range held {
					is[c] = get(h, c)
				}
				if tight, _ := h.Tight(); !tight {
					t.Fatal(i, "Put makes it untight")
				}
				for _, c := range held {
					u, _ := h.Get(c)
					if k, _ := h.Put(u); k != c {
						t.Fatal(i, k, c)
					}
				}
			}
			for c, s := range is {
				if get(h, c) != s {
					t.Fatal(i, c, s, get(h, c))
				}
			}
			if h.Size()+h.Free() != 60 {
				t.Fatal(h.Size(), h.Free())
			}
		}
	}
}
