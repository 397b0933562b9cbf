package link_test

import (
	"fmt"
	"slices"
	"strings"
	"testing"

	"roundelay/api"
	"roundelay/code"
	"roundelay/core"
	"roundelay/kit"
	"roundelay/link"
)

// asm is the core of lines.
func asm(lines ...string) api.Core {
	c, at, e := code.Assemble(strings.Join(lines, "\n"))
	if e != api.OK {
		panic(fmt.Sprint(at, e, lines))
	}
	return c
}

// mod is a module; stubs of what it wants are taken away again.
func mod(name string, gives []string, wants []api.Want, lines ...string) api.Module {
	for _, w := range wants {
		lines = append(lines, fmt.Sprint("block ", w.Name, " ", w.Arity), "of any", "node stub", "is 0")
	}
	c := asm(lines...)
	return api.Module{Name: name, Blocks: c.Blocks[:len(c.Blocks)-len(wants)], Gives: gives, Wants: wants}
}
func want(name string, arity int) api.Want { return api.Want{Name: name, Arity: arity} }

var help = []string{"block help 1", "of any", "take 0", "node s 0", "is 1"}

func lists() api.Module {
	return mod("lists", []string{"map"}, []api.Want{want("f", 1)}, "block map 1", "of cons/2", "below 0", "tie f 0", "below 1", "tie map 2", "node cons 1 3", "is 4")
}
func letters() api.Module {
	return mod("letters", []string{"f"}, nil, append([]string{"block f 1", "of any", "take 0", "tie help 0", "is 1"}, help...)...)
}
func more() api.Module {
	return mod("more", []string{"g"}, []api.Want{want("map", 1)}, "block g 1", "of any", "take 0", "tie help 0", "is 1", "block help 1", "of any", "take 0", "tie map 0", "is 1")
}

// plain is a module of private blocks of the arity 1, some of which it gives.
func plain(name string, gives []string, blocks ...string) api.Module {
	var lines []string
	for _, b := range blocks {
		lines = append(lines, "block "+b+" 1", "of any", "take 0", "is 0")
	}
	return mod(name, gives, nil, lines...)
}

// names returns the names of blocks.
func names(l []api.Block) string {
	var s []string
	for _, b := range l {
		s = append(s, b.Name)
	}
	return strings.Join(s, " ")
}

func TestCheck(t *testing.T) { // P22.1
	big := plain("m", nil, "a", "b", "c", "d", "e", "f", "g", "h", "i", "j", "k", "l")
	over := big
	over.Wants = []api.Want{want("x", 1)}
	edit := func(f func(m *api.Module)) api.Module { m := lists(); f(&m); return m }
	for i, x := range []struct {
		m api.Module
		e api.Errno
	}{
		{lists(), api.OK}, {big, api.OK}, {api.Module{Name: "M"}, api.ErrForm}, {api.Module{Name: "m"}, api.ErrMany}, {over, api.ErrMany}, {edit(func(m *api.Module) { m.Gives = []string{"q", "q"} }), api.ErrTwice}, {edit(func(m *api.Module) { m.Wants = append(m.Wants, want("f", 2)) }), api.ErrTwice}, {edit(func(m *api.Module) { m.Wants = append(m.Wants, want("map", 1)) }), api.ErrTwice},
		{edit(func(m *api.Module) { m.Gives = []string{"f"} }), api.ErrNot}, {edit(func(m *api.Module) { m.Wants = nil }), api.ErrNot}, {edit(func(m *api.Module) { m.Wants[0].Arity = 2 }), api.ErrClash}, {edit(func(m *api.Module) { m.Wants = append(m.Wants, want("x", 9)) }), api.ErrRange}, {edit(func(m *api.Module) { m.Wants = append(m.Wants, want("X", 1)) }), api.ErrForm}, {edit(func(m *api.Module) { m.Blocks = append(m.Blocks, m.Blocks[0]) }), api.ErrTwice},
	} {
		e := link.Check(x.m)
		if e != x.e {
			t.Error(i, e)
		}
		if e == api.OK {
			continue
		}
		l := []api.Module{letters(), x.m}
		_, e1 := link.Core(x.m)
		_, e2 := link.Link(l)
		_, e3 := link.Missing(l)
		_, _, e4 := link.Owner(l, "")
		_, e5 := link.Layers(l)
		_, e6 := link.Join(x.m, api.Module{})
		_, e7 := link.Join(letters(), x.m)
		_, e8 := link.Hide(x.m, []string{"zz"})
		_, e9 := link.Rename(x.m, "zz", "")
		_, f1 := link.Fit(x.m)
		_, f2 := link.Pack(x.m)
		if got := []api.Errno{e1, e2, e3, e4, e5, e6, e7, e8, e9, f1, f2}; !slices.Equal(got, slices.Repeat([]api.Errno{e}, 11)) {
			t.Error(i, got)
		}
	}
	for _, l := range [][]api.Module{nil, slices.Repeat([]api.Module{{}}, 9)} {
		_, e1 := link.Link(l)
		_, e2 := link.Missing(l)
		_, _, e3 := link.Owner(l, "")
		_, e4 := link.Layers(l)
		if e1 != api.ErrMany || e2 != api.ErrMany || e3 != api.ErrMany || e4 != api.ErrMany {
			t.Error(e1, e2, e3, e4)
		}
	}
	c, e := link.Core(lists())
	if e != api.OK || names(c.Blocks) != "map f" || len(c.Blocks[1].Branches[0].Ops) != 1 || c.Blocks[1].Branches[0].Ops[0].Name != "stub" || c.Blocks[1].Arity != 1 {
		t.Error(c, e)
	}
	if !link.Same(lists(), lists()) || link.Same(lists(), letters()) || link.Same(lists(), edit(func(m *api.Module) { m.Wants[0].Arity = 2 })) || link.Same(lists(), edit(func(m *api.Module) { m.Gives = nil })) || link.Same(lists(), edit(func(m *api.Module) { m.Name = "x" })) {
		t.Error("Same")
	}
}

func TestLink(t *testing.T) { // P22.2
	two, e := link.Link([]api.Module{lists(), letters()})
	all, f := link.Link([]api.Module{lists(), letters(), more()})
	if e != api.OK || f != api.OK || names(two.Blocks) != "map f help" || names(all.Blocks) != "map f help g helpaa" || core.Check(all) != api.OK || all.Blocks[3].Branches[0].Ops[1].Name != "helpaa" || all.Blocks[1].Branches[0].Ops[1].Name != "help" {
		t.Error(names(two.Blocks), names(all.Blocks), e, f)
	}
	m, _ := link.Missing([]api.Module{lists(), more()})
	layers, _ := link.Layers([]api.Module{lists(), letters(), more()})
	mo, b, g := link.Owner([]api.Module{lists(), letters(), more()}, "f")
	if !slices.Equal(m, []api.Want{want("f", 1)}) || fmt.Sprint(layers) != "[[1] [0] [2]]" || mo != 1 || b != 0 || g != api.OK {
		t.Error(m, layers, mo, b, g)
	}
	other := letters()
	other.Name = "other"
	clash := plain("c", []string{"f"}, "f")
	clash.Blocks[0].Arity = 2
	big := plain("big", nil, "a", "b", "c", "d", "e", "h", "i", "j", "k", "l")
	_, e1 := link.Link([]api.Module{lists()})
	_, e2 := link.Link([]api.Module{letters(), letters()})
	_, e3 := link.Missing([]api.Module{letters(), other})
	_, e4 := link.Link([]api.Module{lists(), clash})
	_, e5 := link.Link([]api.Module{letters(), lists(), big})
	_, _, e6 := link.Owner([]api.Module{lists()}, "f")
	_, _, e7 := link.Owner([]api.Module{letters()}, "help")
	_, e8 := link.Layers([]api.Module{letters(), letters()})
	_, e9 := link.Link([]api.Module{more(), lists(), clash})
	if want := []api.Errno{api.ErrNone, api.ErrTwice, api.ErrTwice, api.ErrClash, api.ErrMany, api.ErrNone, api.ErrNone, api.ErrTwice, api.ErrClash}; !slices.Equal([]api.Errno{e1, e2, e3, e4, e5, e6, e7, e8, e9}, want) {
		t.Error(e1, e2, e3, e4, e5, e6, e7, e8, e9)
	}
	// Names that are taken: six letters and two more, the first that are free; what is given later is taken, too.
	l, e := link.Link([]api.Module{plain("a", nil, "abcdefgh", "x", "xaa"), plain("b", []string{"x"}, "x", "abcdefgh", "abcdefaa"), plain("c", nil, "x")})
	if e != api.OK || names(l.Blocks) != "abcdefgh xaa xaaaa x abcdefaa abcdefab xab" {
		t.Error(names(l.Blocks), e)
	}
	// Two that want something of each other are one layer; it comes where the least of them may.
	a := mod("a", []string{"fa"}, []api.Want{want("fc", 0)}, "block fa 0", "of any", "tie fc", "is 0")
	c := mod("c", []string{"fc"}, []api.Want{want("fa", 0), want("fd", 0), want("zz", 3)}, "block fc 0", "of any", "tie fa", "is 0")
	d := plain("d", []string{"fd"}, "fd")
	d.Blocks[0].Arity, d.Blocks[0].Branches[0].Ops[0] = 0, api.Op{Kind: core.Node, Name: "a"}
	layers, e = link.Layers([]api.Module{a, plain("b", nil, "q"), c, d})
	if e != api.OK || fmt.Sprint(layers) != "[[1] [3] [0 2]]" {
		t.Error(layers, e)
	}
}

func TestParts(t *testing.T) { // P22.3
	j, e := link.Join(lists(), letters())
	if e != api.OK || j.Name != "lists" || names(j.Blocks) != "map f help" || fmt.Sprint(j.Gives, j.Wants) != "[map f] []" {
		t.Error(j, e)
	}
	k, e := link.Join(lists(), more())
	if e != api.OK || names(k.Blocks) != "map g help" || !slices.Equal(k.Wants, []api.Want{want("f", 1)}) || link.Check(k) != api.OK {
		t.Error(k, e)
	}
	f2 := mod("ftwo", nil, []api.Want{want("f", 2)}, "block h 0", "of any", "node a", "ask f 0 0", "is 1")
	given := plain("given", []string{"f"}, "f")
	given.Blocks[0].Arity = 2
	hidden := plain("hidden", nil, "f")
	// A block h that is renamed to haa, which the other module wants.
	haa := mod("haa", []string{"h"}, []api.Want{want("haa", 1)}, "block h 1", "of any", "take 0", "tie haa 0", "is 1")
	big := plain("big", nil, "a", "b", "c", "d", "e", "g", "i", "j", "k", "l")
	_, e1 := link.Join(letters(), letters())
	_, e2 := link.Join(lists(), given)
	_, e3 := link.Join(lists(), f2)
	_, e4 := link.Join(lists(), hidden)
	_, e5 := link.Join(haa, plain("h", nil, "h"))
	_, e6 := link.Join(lists(), big)
	_, e7 := link.Join(letters(), big)
	_, e8 := link.Join(plain("big", nil, "a", "b", "c"), plain("big", nil, "a"))
	if want := []api.Errno{api.ErrTwice, api.ErrClash, api.ErrClash, api.ErrClash, api.ErrClash, api.OK, api.OK, api.OK}; !slices.Equal([]api.Errno{e1, e2, e3, e4, e5, e6, e7, e8}, want) {
		t.Error(e1, e2, e3, e4, e5, e6, e7, e8)
	}
	if _, e := link.Join(k, big); e != api.ErrMany {
		t.Error(e)
	}
	all, _ := link.Link([]api.Module{lists(), letters(), more()})
	s, e := link.Split(all, []int{0, 1, 1, 0, 0})
	if e != api.OK || len(s) != 2 || s[0].Name != "parta" || names(s[0].Blocks) != "map g helpaa" || !slices.Equal(s[0].Wants, []api.Want{want("f", 1)}) || s[1].Name != "partb" || names(s[1].Blocks) != "f help" || len(s[1].Wants) != 0 || fmt.Sprint(s[1].Gives) != "[f help]" {
		t.Error(s, e)
	}
	_, e1 = link.Split(api.Core{}, nil)
	_, e2 = link.Split(all, []int{9, 0})
	_, e3 = link.Split(all, []int{0, 0, 2, 8, 0})
	_, e4 = link.Split(all, []int{0, 0, 2, -1, 0})
	_, e5 = link.Split(all, []int{0, 0, 2, 2, 0})
	if e1 != api.ErrMany || e2 != api.ErrMany || e3 != api.ErrRange || e4 != api.ErrRange || e5 != api.ErrNone {
		t.Error(e1, e2, e3, e4, e5)
	}
}

func TestChange(t *testing.T) { // P22.4
	j, _ := link.Join(lists(), letters())
	h, e := link.Hide(j, []string{"f"})
	x, f := link.Fit(h)
	if e != api.OK || f != api.OK || fmt.Sprint(h.Gives) != "[map]" || names(x.Blocks) != "map f help" {
		t.Error(h, x, e, f)
	}
	h, _ = link.Hide(j, []string{"map"})
	x, _ = link.Fit(h)
	if names(x.Blocks) != "f help" {
		t.Error(x)
	}
	more2 := lists()
	more2.Wants = append(more2.Wants, want("zz", 2))
	x, _ = link.Fit(more2)
	if !link.Same(x, lists()) {
		t.Error(x)
	}
	r, e := link.Rename(lists(), "f", "ff")
	b, _ := link.Rename(letters(), "help", "map")
	g, _ := link.Rename(letters(), "f", "z")
	back, f := link.Rename(r, "ff", "ff")
	if e != api.OK || f != api.OK || !slices.Equal(r.Wants, []api.Want{want("ff", 1)}) || r.Blocks[0].Branches[0].Ops[1].Name != "ff" || !link.Same(back, r) || b.Blocks[1].Name != "map" || b.Blocks[0].Branches[0].Ops[1].Name != "map" || fmt.Sprint(g.Gives) != "[z]" || link.Check(g) != api.OK {
		t.Error(r, b, g)
	}
	// A node of the same name is left as it is.
	nodes := mod("m", nil, nil, "block s 1", "of any", "take 0", "node s 0", "tie s 0", "is 2")
	if y, _ := link.Rename(nodes, "s", "t"); y.Blocks[0].Branches[0].Ops[1].Name != "s" || y.Blocks[0].Branches[0].Ops[2].Name != "t" {
		t.Error(y)
	}
	all, _ := link.Link([]api.Module{lists(), letters(), more()})
	s, e := link.Shake(all, []string{"f"})
	if e != api.OK || names(s.Blocks) != "f help" {
		t.Error(s, e)
	}
	_, e1 := link.Hide(j, []string{"f", "f", "q"})
	_, e2 := link.Hide(j, []string{"f", "f"})
	_, e3 := link.Rename(j, "q", "")
	_, e4 := link.Rename(j, "f", "F")
	_, e5 := link.Rename(j, "f", "help")
	_, e6 := link.Rename(lists(), "map", "f")
	_, e7 := link.Fit(plain("m", nil, "a"))
	_, e8 := link.Shake(all, nil)
	_, e9 := link.Shake(all, []string{"f", "q"})
	_, f1 := link.Shake(api.Core{}, nil)
	if want := []api.Errno{api.ErrNot, api.ErrTwice, api.ErrNot, api.ErrForm, api.ErrTwice, api.ErrTwice, api.ErrNone, api.ErrMany, api.ErrNot, api.ErrMany}; !slices.Equal([]api.Errno{e1, e2, e3, e4, e5, e6, e7, e8, e9, f1}, want) {
		t.Error(e1, e2, e3, e4, e5, e6, e7, e8, e9, f1)
	}
}

func TestPack(t *testing.T) { // P22.5
	p, e := link.Pack(letters())
	if e != api.OK || !slices.Equal(p[:12], []byte{7, 'l', 'e', 't', 't', 'e', 'r', 's', 1, 1, 'f', 0}) {
		t.Error(p, e)
	}
	for _, m := range []api.Module{lists(), letters(), more(), plain("a", nil, "b")} {
		b, e := link.Pack(m)
		u, f := link.Unpack(b)
		if e != api.OK || f != api.OK || !link.Same(m, u) {
			t.Error(m, u, e, f)
		}
		for i := range b {
			if _, e := link.Unpack(b[:i]); e != api.ErrForm {
				t.Error(i, e)
			}
			other := slices.Clone(b)
			other[i] ^= 1
			if x, e := link.Unpack(other); e == api.OK {
				again, _ := link.Pack(x)
				if !slices.Equal(again, other) {
					t.Error(i, x)
				}
			}
		}
	}
	// What is told to be wanted must be a stub.
	b, _ := link.Pack(letters())
	b[11] = 1
	if _, e := link.Unpack(b); e != api.ErrForm {
		t.Error(e)
	}
}

func TestWhatFollows(t *testing.T) { // P22.6
	var d kit.Dice
	for i := range 400 {
		c, _ := core.Lower(d.Prog())
		groups := make([]int, 4)
		for j := range groups {
			groups[j] = d.Roll(3)
		}
		parts, e := link.Split(c, groups)
		if e != api.OK {
			continue
		}
		whole, e := link.Link(parts)
		slices.Reverse(parts)
		turned, f := link.Link(parts)
		if e != api.OK || f != api.OK || slices.IsSorted(groups) && !core.Same(whole, c) {
			t.Fatal(i, groups, e, f)
		}
		joined := parts
		if len(parts) > 1 {
			m, e := link.Join(parts[0], parts[1])
			if e != api.OK {
				t.Error(i, e)
			}
			joined = append([]api.Module{m}, parts[2:]...)
		}
		j, e := link.Link(joined)
		if e != api.OK {
			t.Error(i, e)
		}
		name := []string{"f", "g", "h", "k"}[d.Roll(4)]
		args := []api.Tree{d.Tree(4), d.Tree(4)}[:map[string]int{"f": 1, "g": 2, "h": 1, "k": 0}[name]]
		s, _ := link.Shake(c, []string{name})
		v, e := core.Value(c, name, args)
		for k, x := range []api.Core{whole, turned, j, s} {
			if w, f := core.Value(x, name, args); e != f || kit.S(v) != kit.S(w) {
				t.Error(i, k, e, f)
			}
		}
	}
}
