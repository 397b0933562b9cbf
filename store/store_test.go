package store_test

import (
	"bytes"
	"fmt"
	"slices"
	"strings"
	"testing"

	"roundelay/api"
	"roundelay/disk"
	"roundelay/kit"
	"roundelay/store"
)

func fresh() api.Disk { d, _ := store.New(); return d }

// set binds a name, gone takes it away.
func set(name, text string) api.Change { return api.Change{Name: name, Tree: kit.X(text)} }
func gone(name string) api.Change      { return api.Change{Name: name, Gone: true} }

// commit commits changes.
func commit(d api.Disk, l ...api.Change) api.Disk {
	n, e := store.Commit(d, l)
	if e != api.OK {
		panic(fmt.Sprint(e, l))
	}
	return n
}

// show is what a list is, as a text.
func show(l []api.Named) string {
	var s []string
	for _, x := range l {
		s = append(s, x.Name+"="+kit.S(x.Tree))
	}
	return strings.Join(s, " ")
}
func all(d api.Disk) string { l, e := store.All(d); return fmt.Sprint(show(l)+" ", e) }

// chain is a tree of so many nodes.
func chain(many int) string {
	return strings.Repeat("s(", many-1) + "a" + strings.Repeat(")", many-1)
}

func TestCheck(t *testing.T) { // P25.1
	d := fresh()
	g, e := store.Gen(d)
	l, _ := store.All(d)
	r, _ := store.Room(d)
	n, _ := store.Next(d)
	used := 0
	for _, s := range d.Sectors {
		if !bytes.Equal(s, make([]byte, 64)) {
			used++
		}
	}
	root, _ := disk.Open(d.Sectors[0])
	half, _ := disk.Open(d.Sectors[22])
	if g != 1 || e != api.OK || len(l) != 0 || r != 20 || n != 2 || used != 2 || fmt.Sprint(root) != "{1 1 0 1 [0 1]}" || fmt.Sprint(half) != "{1 2 0 1 [0]}" {
		t.Error(g, e, l, r, n, used, root, half)
	}
	short, _ := disk.New(63)
	blank, _ := disk.New(64)
	down := fresh()
	down.Down = true
	busy, _ := disk.Put(fresh(), 5, make([]byte, 64))
	torn := fresh()
	torn.Sectors[22][8] = 1
	for i, x := range []struct {
		d api.Disk
		e api.Errno
	}{{api.Disk{}, api.ErrMany}, {short, api.ErrMany}, {down, api.ErrDown}, {busy, api.ErrClash}, {blank, api.ErrWrong}, {torn, api.ErrWrong}, {fresh(), api.OK}} {
		e := store.Check(x.d)
		_, e1 := store.Gen(x.d)
		_, e2 := store.All(x.d)
		_, e3 := store.Get(x.d, "q")
		_, e4 := store.Gens(x.d)
		_, e5 := store.Past(x.d, 9)
		_, e6 := store.Room(x.d)
		_, e7 := store.Acts(x.d, nil)
		_, e8 := store.Commit(x.d, []api.Change{{}})
		_, e9 := store.Fold(x.d)
		_, f1 := store.Next(x.d)
		got := []api.Errno{e1, e2, e3, e4, e5, e6, e7, e8, e9, f1}
		want := slices.Repeat([]api.Errno{x.e}, 10)
		if x.e == api.OK {
			want = []api.Errno{api.OK, api.OK, api.ErrNone, api.OK, api.ErrNone, api.OK, api.ErrMany, api.ErrMany, api.OK, api.OK}
		}
		if e != x.e || !slices.Equal(got, want) {
			t.Error(i, e, got)
		}
	}
}

func TestRead(t *testing.T) { // P25.2
	d := commit(commit(commit(fresh(), set("x", "1=cons(a,1)")), set("b", "p(1=a,1)"), set("y", "a")), gone("y"))
	g, _ := store.Gen(d)
	gens, _ := store.Gens(d)
	past, e := store.Past(d, 3)
	first, _ := store.Past(d, 1)
	_, f := store.Past(d, 5)
	x, h := store.Get(d, "x")
	_, k := store.Get(d, "y")
	r, _ := store.Room(d)
	if g != 4 || !slices.Equal(gens, []int{1, 2, 3, 4}) || e != api.OK || show(past) != "b=p(1=a,1) x=1=cons(a,1) y=a" || len(first) != 0 || f != api.ErrNone || kit.S(x) != "1=cons(a,1)" || h != api.OK || k != api.ErrNone || r != 17 || all(d) != "b=p(1=a,1) x=1=cons(a,1) 0" {
		t.Error(g, gens, show(past), e, f, h, k, r, all(d))
	}
	d.Sectors[60][63] = 255
	n, e := store.Next(d)
	d.Sectors[61][0], d.Sectors[61][1], d.Sectors[61][2], d.Sectors[61][3] = 255, 255, 255, 255
	_, f = store.Next(d)
	_, h = store.Commit(d, []api.Change{set("z", "a")})
	_, k = store.Fold(d)
	if n != 255<<24+1 || e != api.OK || f != api.ErrFull || h != api.ErrFull || k != api.ErrFull || all(d) != "b=p(1=a,1) x=1=cons(a,1) 0" {
		t.Error(n, e, f, h, k)
	}
}

func TestCommit(t *testing.T) { // P25.3
	acts, e := store.Acts(fresh(), []api.Change{{Name: "x", Tree: kit.List2()}})
	body := []byte{1, 0, 0, 0, 1, 1, 120, 1, 2, 4, 99, 111, 110, 115, 2, 1, 0, 1, 97, 0}
	o, _ := disk.Open(acts[0].Data)
	if e != api.OK || len(acts) != 2 || acts[0].At != 2 || acts[1].At != -1 || fmt.Sprint(o) != fmt.Sprint(api.Seal{Gen: 2, Kind: 3, Index: 0, Total: 1, Body: body}) {
		t.Error(acts, e)
	}
	twelve := func(from byte) (l []api.Change) {
		for i := range 12 {
			l = append(l, set(string([]byte{from, 'a' + byte(i)}), "a"))
		}
		return l
	}
	full := commit(fresh(), twelve('a')...)
	bad := api.Change{Name: "Q", Tree: kit.T(kit.N("A"))}
	big := func(many int) (l []api.Change) {
		for i := range many {
			l = append(l, set(string([]byte{'a' + byte(i)}), "s("+chain(59)+")"))
		}
		return l
	}
	for i, x := range []struct {
		d api.Disk
		l []api.Change
		e api.Errno
	}{
		{fresh(), nil, api.ErrMany}, {fresh(), append(twelve('a'), set("z", "a")), api.ErrMany}, {fresh(), append(slices.Repeat([]api.Change{gone("")}, 13), bad), api.ErrForm}, {fresh(), []api.Change{gone("A"), gone("A")}, api.ErrForm}, {fresh(), []api.Change{gone("q"), gone("q")}, api.ErrTwice}, {fresh(), []api.Change{set("a", "a"), gone("q")}, api.ErrNone}, {full, []api.Change{set("z", "a")}, api.ErrMany}, {full, []api.Change{set("z", "a"), gone("ab")}, api.OK}, {full, twelve('a'), api.OK},
		{fresh(), big(4), api.OK}, {fresh(), big(5), api.ErrFull}, {fresh(), []api.Change{{Name: "g", Gone: true, Tree: bad.Tree}}, api.ErrNone},
	} {
		a, e := store.Acts(x.d, x.l)
		c, f := store.Commit(x.d, x.l)
		if e != x.e || f != x.e || e == api.OK && (len(a) < 2 || store.Check(c) != api.OK) {
			t.Error(i, e, f)
		}
	}
	// Twenty commits of one piece fill the journal; the next one is folded into the half 1, with the root at 1, the one after it begins the journal again.
	d := fresh()
	for i := range 20 {
		d = commit(d, set("x", []string{"a", "b"}[i%2]))
	}
	r, _ := store.Room(d)
	acts, _ = store.Acts(d, []api.Change{set("y", "z")})
	d = commit(d, set("y", "z"))
	gens, _ := store.Gens(d)
	room, _ := store.Room(d)
	if r != 0 || len(acts) != 4 || acts[0].At != 43 || acts[1].At != -1 || acts[2].At != 1 || acts[3].At != -1 || !slices.Equal(gens, []int{22}) || room != 20 || all(d) != "x=b y=z 0" {
		t.Error(r, acts, gens, room, all(d))
	}
	d = commit(d, gone("x"))
	gens, _ = store.Gens(d)
	large, _ := store.Acts(d, big(4))
	folded, _ := store.Acts(commit(d, set("z", "a")), big(4))
	if !slices.Equal(gens, []int{22, 23}) || large[0].At != 3 || len(large) != 20 || folded[0].At != 22 || folded[len(folded)-2].At != 0 || all(d) != "y=z 0" {
		t.Error(gens, len(large), folded)
	}
}

func TestFold(t *testing.T) { // P25.4
	d := commit(fresh(), set("x", "a"))
	f, e := store.Fold(d)
	gens, _ := store.Gens(f)
	g, _ := store.Fold(f)
	more, _ := store.Gens(g)
	root, _ := disk.Open(g.Sectors[0])
	if e != api.OK || all(f) != all(d) || !slices.Equal(gens, []int{3}) || !slices.Equal(more, []int{4}) || root.Gen != 4 || root.Body[0] != 0 || all(g) != all(d) {
		t.Error(e, gens, more, root)
	}
}

func TestBytes(t *testing.T) { // P25.5
	l := []api.Named{{Name: "a", Tree: kit.List()}, {Name: "ab", Tree: kit.X("b")}}
	b, e := store.Bytes(l)
	want := []byte{2, 1, 97, 2, 4, 99, 111, 110, 115, 2, 1, 0, 1, 97, 0, 2, 97, 98, 1, 1, 98, 0}
	p, f := store.Parse(b)
	none, _ := store.Bytes(nil)
	if e != api.OK || f != api.OK || !bytes.Equal(b, want) || show(p) != show(l) || !bytes.Equal(none, []byte{0}) {
		t.Error(b, e, p, f)
	}
	for i, x := range []struct {
		l []api.Named
		e api.Errno
	}{{make([]api.Named, 13), api.ErrMany}, {make([]api.Named, 12), api.ErrForm}, {[]api.Named{l[1], l[0]}, api.ErrForm}, {[]api.Named{l[0], l[0]}, api.ErrForm}, {[]api.Named{{Name: "x", Tree: kit.List2()}}, api.ErrForm}, {[]api.Named{{Name: "X", Tree: kit.List()}}, api.ErrForm}} {
		if _, e := store.Bytes(x.l); e != x.e {
			t.Error(i, e)
		}
	}
	for i := range b {
		if _, e := store.Parse(b[:i]); e != api.ErrForm {
			t.Error(i, e)
		}
	}
	if _, e := store.Parse(append(b, 0)); e != api.ErrForm {
		t.Error(e)
	}
	for i, x := range [][]byte{{13}, bytes.Repeat([]byte{255}, 99), {1, 1, 97, 0}, {1, 1, 97, 2, 1, 97, 0, 1, 97, 0}, {1, 0, 1, 1, 97, 0}} {
		if _, e := store.Parse(x); e != api.ErrForm {
			t.Error(i, e)
		}
	}
}

func TestRecords(t *testing.T) { // what holds in the journal
	d := commit(commit(commit(fresh(), set("x", "a")), set("y", chain(30))), set("z", "c"))
	gens := func(d api.Disk) string { g, e := store.Gens(d); return fmt.Sprint(g, e) }
	if gens(d) != "[1 2 3 4] 0" {
		t.Error(gens(d))
	}
	edit := func(at int, s api.Seal) api.Disk {
		c, _ := disk.Flush(d)
		c.Sectors[at], _ = disk.Seal(s)
		return c
	}
	o, _ := disk.Open(d.Sectors[2])
	with := func(f func(s *api.Seal)) string {
		s := o
		s.Body = slices.Clone(o.Body)
		f(&s)
		return gens(edit(2, s))
	}
	for i, x := range []struct {
		f    func(s *api.Seal)
		want string
	}{
		{func(s *api.Seal) {}, "[1 2 3 4] 0"}, {func(s *api.Seal) { s.Gen = 1 }, "[1] 0"}, {func(s *api.Seal) { s.Gen = 3 }, "[1 3] 0"}, {func(s *api.Seal) { s.Kind = 2 }, "[1] 0"}, {func(s *api.Seal) { s.Index = 1 }, "[1] 0"}, {func(s *api.Seal) { s.Total = 2 }, "[1] 0"}, {func(s *api.Seal) { s.Total = 0 }, "[1] 0"}, {func(s *api.Seal) { s.Body[0] = 2 }, "[1] 0"}, {func(s *api.Seal) { s.Body = s.Body[:len(s.Body)-1] }, "[1] 0"}, {func(s *api.Seal) { s.Body = append(s.Body, 0) }, "[1] 0"},
		{func(s *api.Seal) { s.Body = []byte{1, 0, 0, 0, 1, 1, 'x', 0} }, "[1] 0"}, {func(s *api.Seal) { s.Body = []byte{1, 0, 0, 0, 0} }, "[1] 0"}, {func(s *api.Seal) { s.Body = []byte{1, 0, 0, 0, 1, 1, 'X', 1, 1, 1, 'a', 0} }, "[1] 0"}, {func(s *api.Seal) { s.Body = []byte{1, 0, 0, 0, 1, 1, 'x', 2, 1, 1, 'a', 0} }, "[1] 0"}, {func(s *api.Seal) { s.Body = s.Body[:3] }, "[1] 0"},
	} {
		if got := with(x.f); got != x.want {
			t.Error(i, got)
		}
	}
	// The greater of two roots counts; the one at 0 if both have the same number.
	f, _ := store.Fold(d)
	same, _ := disk.Flush(f)
	root, _ := disk.Open(f.Sectors[1])
	root.Body = []byte{0, 1}
	piece, _ := disk.Open(f.Sectors[22])
	piece.Gen = root.Gen
	same.Sectors[0], _ = disk.Seal(root)
	same.Sectors[22], _ = disk.Seal(piece)
	if all(same) != " 0" || all(f) != all(d) {
		t.Error(all(same), all(f))
	}
}

func TestCrashes(t *testing.T) { // P25.6 and P25.7
	c, _ := store.Commit(fresh(), []api.Change{set("x", "1=cons(a,1)")})
	acts, _ := store.Acts(fresh(), []api.Change{set("x", "1=cons(a,1)")})
	for kept, want := range map[int]int{64: 2, 63: 2, 60: 1, 0: 1} {
		d, _ := disk.Do(fresh(), acts, 1)
		d, _ = disk.Crash(d, []int{kept})
		d, _ = disk.On(d)
		if g, e := store.Gen(d); g != want || e != api.OK {
			t.Error(kept, g, e)
		}
	}
	if all(c) != "x=1=cons(a,1) 0" {
		t.Error(all(c))
	}
	var dice kit.Dice
	for i := range 60 {
		d := fresh()
		states := map[int]string{1: all(d)}
		acked := 1
		for range 60 {
			var l []api.Change
			for range 1 + dice.Roll(3) {
				name := string([]byte{'a' + byte(dice.Roll(5))})
				if dice.Roll(4) == 0 {
					l = append(l, gone(name))
				} else {
					l = append(l, set(name, []string{"a", "1=s(1)", chain(20 + dice.Roll(20)), "p(1=b,1)"}[dice.Roll(4)]))
				}
			}
			acts, e := store.Acts(d, l)
			if e != api.OK {
				continue
			}
			next, _ := store.Next(d)
			after, _ := store.Commit(d, l)
			if g, _ := store.Gen(after); g != next {
				t.Fatal(i, g, next)
			}
			states[next] = all(after)
			n := dice.Roll(len(acts) + 4)
			if n >= len(acts) {
				d, acked = after, next
				continue
			}
			d, _ = disk.Do(d, acts, n)
			var kept []int
			for range d.Writes {
				kept = append(kept, []int{0, 64, dice.Roll(65), 60 + dice.Roll(5), dice.Roll(5)}[dice.Roll(5)])
			}
			d, _ = disk.Crash(d, kept)
			d, _ = disk.On(d)
			g, e := store.Gen(d)
			if e != api.OK || g != acked && g != next || all(d) != states[g] {
				t.Fatal(i, g, acked, next, e, all(d), states[g])
			}
			acked = g
		}
		gens, _ := store.Gens(d)
		for _, g := range gens {
			l, e := store.Past(d, g)
			if e != api.OK || fmt.Sprint(show(l)+" ", e) != states[g] {
				t.Error(i, g, show(l), states[g])
			}
		}
	}
}
