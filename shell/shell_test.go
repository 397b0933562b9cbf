package shell_test

import (
	"fmt"
	"slices"
	"strings"
	"testing"

	"roundelay/api"
	"roundelay/kit"
	"roundelay/shell"
	"roundelay/store"
)

// example is the lines of the document, with their replies.
var example = [][2]string{
	{"def ones[] = cons(a(), ones[]).", "done"}, {"def map[x] of cons(h, t): cons(s(h), map[t]).", "done"}, {"ask map[ones[]]", "1=cons(s(a),1)"}, {"let l ones[]", "done"}, {"run map l", "1=cons(s(a),1)"}, {"put m cons(a,2=cons(a,2))", "done"}, {"same l m", "yes"},
	{"put n cons(a,cons(b,nil))", "done"}, {"same l n", "no 1 0"}, {"names", "l m n"}, {"cells", "6"}, {"rel fin 1 0", "done"}, {"clause fin nil()", "done"}, {"clause fin cons(h,t) if fin(t)", "done"}, {"holds fin n", "yes"}, {"holds fin l", "no"}, {"def f[x] = f[x].", "done"}, {"ask f[l]", "error 8"}, {"trace f l", "at 0"},
	{"step 3", "at 3"}, {"why", "f"}, {"back 2", "at 1"}, {"gone l", "done"}, {"run map l", "error 6"}, {"gen", "5"}, {"jump", "error 4"},
}

// split returns the lines, and the replies.
func split(l [][2]string) (lines, replies []string) {
	for _, x := range l {
		lines, replies = append(lines, x[0]), append(replies, x[1])
	}
	return lines, replies
}

// played is the session of lines, none of which is left out.
func played(lines ...string) api.Session {
	s, replies, e := shell.Play(lines)
	if e != api.OK || len(s.Lines) != len(lines) {
		panic(fmt.Sprint(e, replies))
	}
	return s
}

func same(a, b api.Session) bool { is, e := shell.Same(a, b); return is && e == api.OK }

func TestCheck(t *testing.T) { // P27.1
	n, e := shell.New()
	d, _ := store.New()
	if e != api.OK || n.Script != "" || n.Traced || len(n.Rules.Rels)+len(n.Lines) != 0 || fmt.Sprint(n.Store) != fmt.Sprint(d) || shell.Check(n) != api.OK {
		t.Error(n, e)
	}
	edit := func(f func(s *api.Session)) api.Session {
		s := played("def f[] = s(f[]).", "trace f", "step 2", "rel r 1 0")
		f(&s)
		return s
	}
	traced := edit(func(*api.Session) {}).Trace
	for i, x := range []struct {
		s api.Session
		e api.Errno
	}{
		{edit(func(*api.Session) {}), api.OK}, {edit(func(s *api.Session) { s.Script, s.Rules.Rels[0].Name = "f[", "R" }), api.ErrForm}, {edit(func(s *api.Session) { s.Script = "f[] = g[]." }), api.ErrNot}, {edit(func(s *api.Session) { s.Rules.Rels[0].Arity, s.Store = 9, api.Disk{} }), api.ErrMany}, {edit(func(s *api.Session) { s.Rules = api.Rules{Clauses: []api.Clause{{}}} }), api.ErrMany}, {edit(func(s *api.Session) { s.Store.Down = true; s.Trace.Past = nil }), api.ErrDown},
		{edit(func(s *api.Session) { s.Trace.Past = nil; s.Lines = make([]string, 61) }), api.ErrMany}, {edit(func(s *api.Session) { s.Trace.Past[0].Cells = 9 }), api.ErrWrong}, {edit(func(s *api.Session) { s.Traced = false }), api.ErrWrong}, {edit(func(s *api.Session) { s.Traced, s.Trace = false, api.Trace{Past: make([]api.Delta, 1)} }), api.ErrWrong}, {edit(func(s *api.Session) { s.Traced, s.Trace = false, api.Trace{Now: api.State{Error: 1}} }), api.ErrWrong},
		{edit(func(s *api.Session) { s.Traced, s.Trace = false, api.Trace{Core: traced.Core} }), api.ErrWrong}, {edit(func(s *api.Session) { s.Traced, s.Trace = false, api.Trace{} }), api.OK}, {edit(func(s *api.Session) { s.Lines = make([]string, 61) }), api.ErrMany}, {edit(func(s *api.Session) { s.Lines = make([]string, 60) }), api.OK},
	} {
		e := shell.Check(x.s)
		if e != x.e {
			t.Error(i, e)
		}
		if e == api.OK {
			continue
		}
		u, r, e1 := shell.Do(x.s, "jump")
		_, e2 := shell.Value(x.s, "(")
		_, e3 := shell.Bound(x.s, "q")
		_, e4 := shell.Same(n, x.s)
		_, e5 := shell.Same(x.s, n)
		if !slices.Equal([]api.Errno{e1, e2, e3, e4, e5}, slices.Repeat([]api.Errno{e}, 5)) || r != "" || u.Script != "" {
			t.Error(i, e1, e2, e3, e4, e5)
		}
	}
}

func TestLines(t *testing.T) { // P27.2
	for _, x := range []struct {
		line string
		args []string
		is   bool
	}{
		{"def  f[] =  a(). ", []string{" f[] =  a(). "}, true}, {"put x a\nb", []string{"x", "a\nb"}, true}, {"let x  ", []string{"x", " "}, true}, {"ask  ", []string{" "}, true}, {"drop f", []string{"f"}, true}, {"gone x", []string{"x"}, true}, {"fold", nil, true}, {"run f x y", []string{"f", "x", "y"}, true}, {"run f", []string{"f"}, true}, {"same x y", []string{"x", "y"}, true}, {"rel r 0 9999", []string{"r", "0", "9999"}, true}, {"clause r ( 7 if", []string{"r", "(", "7", "if"}, true},
		{"holds r", []string{"r"}, true}, {"trace f abcdefgh", []string{"f", "abcdefgh"}, true}, {"step 10", []string{"10"}, true}, {"back 0", []string{"0"}, true}, {"why", nil, true}, {"gen", nil, true}, {"names", nil, true}, {"cells", nil, true},
		{"", nil, false}, {" ", nil, false}, {"jump", nil, false}, {"def", nil, false}, {"def ", nil, false}, {"put x", nil, false}, {"put x ", nil, false}, {"put  a", nil, false}, {"put X a", nil, false}, {"let", nil, false}, {"ask", nil, false}, {" ask x", nil, false}, {"drop", nil, false}, {"drop f g", nil, false}, {"drop  f", nil, false}, {"drop f ", nil, false}, {"gone abcdefghi", nil, false}, {"fold x", nil, false}, {"fold ", nil, false}, {"run", nil, false}, {"run f  x", nil, false}, {"run f 1", nil, false},
		{"same x", nil, false}, {"same x y z", nil, false}, {"rel r 1", nil, false}, {"rel r 1 01", nil, false}, {"rel r 1 10000", nil, false}, {"rel r 1 -1", nil, false}, {"rel r 1 1 1", nil, false}, {"clause", nil, false}, {"clause R", nil, false}, {"clause r  x", nil, false}, {"step", nil, false}, {"step x", nil, false}, {"back 1 2", nil, false}, {"why x", nil, false}, {"gen\n", nil, false}, {"Gen", nil, false},
	} {
		c, e := shell.Read(x.line)
		_, f := shell.Changes(x.line)
		word, _, _ := strings.Cut(x.line, " ")
		if (e == api.OK) != x.is || f != e || e != api.OK && e != api.ErrForm || x.is && (c.Word != word || !slices.Equal(c.Args, x.args)) {
			t.Errorf("%q %v %v", x.line, c, e)
		}
		if w, g := shell.Write(c); x.is && (w != x.line || g != api.OK) || !x.is && g != api.ErrForm {
			t.Errorf("%q %q %v", x.line, w, g)
		}
	}
	long := "ask " + strings.Repeat(" ", 65533)
	_, e := shell.Read(long)
	_, f := shell.Changes(long)
	_, g := shell.Write(api.Command{Word: "ask", Args: []string{long[4:]}})
	_, h := shell.Read(long[1:])
	_, k := shell.Read(long[:65536])
	_, l := shell.Write(api.Command{Word: "clause", Args: []string{"r", "a b"}})
	_, m := shell.Write(api.Command{Word: "fold", Args: []string{long}})
	if e != api.ErrLong || f != api.ErrLong || g != api.ErrLong || h != api.ErrForm || k != api.OK || l != api.ErrForm || m != api.ErrForm {
		t.Error(e, f, g, h, k, l, m)
	}
	for line, want := range map[string]bool{"def x": true, "drop x": true, "put x x": true, "let x x": true, "gone x": true, "fold": true, "rel r 1 1": true, "clause r": true, "trace f": true, "step 1": true, "back 1": true, "ask x": false, "run f": false, "same x y": false, "holds r x": false, "why": false, "gen": false, "names": false, "cells": false} {
		if is, e := shell.Changes(line); is != want || e != api.OK {
			t.Error(line, is, e)
		}
	}
}

func TestDo(t *testing.T) { // P27.3
	lines, replies := split(example)
	s, got, e := shell.Play(lines)
	if e != api.OK || !slices.Equal(got, replies) || len(s.Lines) != 23 {
		for i := range got {
			if got[i] != replies[i] {
				t.Error(lines[i], got[i], replies[i])
			}
		}
		t.Error(len(s.Lines), e)
	}
	before := fmt.Sprint(s)
	for _, x := range []struct {
		line, reply string
		e           api.Errno
	}{
		{"def f[x] = g[x].", "", api.ErrNot}, {"def f[", "", api.ErrForm}, {"def a[]=b(). c[]=d().", "", api.ErrMany}, {"drop map", "done", api.OK}, {"drop q", "", api.ErrNot}, {"put x a(", "", api.ErrForm}, {"put x " + strings.Repeat("s(", 61) + "a", "", api.ErrMany}, {"let x q", "", api.ErrNone}, {"let x q(", "", api.ErrForm}, {"let x q[m]", "", api.ErrNot}, {"let x p(m, n)", "done", api.OK}, {"gone q", "", api.ErrNone}, {"fold", "done", api.OK},
		{"ask f[m, n]", "", api.ErrClash}, {"ask p(q, r[])", "", api.ErrNone}, {"ask map[n]", "", api.ErrStuck}, {"ask ones[", "", api.ErrForm}, {"run q m", "", api.ErrNot}, {"run q q", "", api.ErrNone}, {"run f m", "", api.ErrWait}, {"run f", "", api.ErrClash}, {"run ones", "1=cons(a,1)", api.OK}, {"same m q", "", api.ErrNone}, {"same n m", "no 1 0", api.OK}, {"same m m", "yes", api.OK}, {"rel fin 1 1", "", api.ErrTwice}, {"rel r 4 0", "", api.ErrMany}, {"rel r 3 4", "", api.ErrRange},
		{"clause r", "", api.ErrNot}, {"clause fin", "", api.ErrMany}, {"clause fin (", "", api.ErrForm}, {"clause fin x if q(x)", "", api.ErrNot}, {"holds r m", "", api.ErrNot}, {"holds r q", "", api.ErrNone}, {"holds fin m n", "", api.ErrMany}, {"trace q m", "", api.ErrNot}, {"trace map n", "at 0", api.OK}, {"trace map q", "", api.ErrNone}, {"step 3", "", api.ErrNone}, {"step 2", "at 3", api.OK}, {"step 400", "", api.ErrRange}, {"back 2", "", api.ErrRange}, {"back 1", "at 0", api.OK}, {"why", "", api.ErrNone}, {"gen", "5", api.OK}, {"names", "m n", api.OK},
	} {
		u, r, e := shell.Do(s, x.line)
		if r != x.reply || e != x.e || e == api.OK && (u.Lines[len(u.Lines)-1] != x.line || shell.Check(u) != api.OK) || e != api.OK && len(u.Lines) > 0 {
			t.Error(x.line, r, e)
		}
	}
	if fmt.Sprint(s) != before {
		t.Error("the session is changed")
	}
	n, _ := shell.New()
	for line, want := range map[string]api.Errno{"ask a()": api.ErrMany, "step 1": api.ErrNone, "back 9": api.ErrNone, "why": api.ErrNone, "drop f": api.ErrMany, "holds r": api.ErrMany, "run f": api.ErrMany, "ask x": api.ErrNone} {
		if _, _, e := shell.Do(n, line); e != want {
			t.Error(line, e)
		}
	}
	if _, r, _ := shell.Do(n, "names"); r != "none" {
		t.Error(r)
	}
	full := played(slices.Repeat([]string{"gen"}, 60)...)
	_, _, e = shell.Do(full, "gen")
	_, _, f := shell.Do(full, "jump")
	_, _, g := shell.Play(slices.Repeat([]string{"jump"}, 61))
	if e != api.ErrFull || f != api.ErrForm || g != api.ErrMany {
		t.Error(e, f, g)
	}
}

func TestLook(t *testing.T) { // P27.4
	s := played("def id[x] = x.", "put x 1=s(1)", "put y b")
	v, e := shell.Value(s, "p(id[x], y, x)")
	_, e1 := shell.Value(s, "p(")
	_, e2 := shell.Value(s, "p(z, q[])")
	_, e3 := shell.Value(s, "q[]")
	b, f := shell.Bound(s, "x")
	_, e4 := shell.Bound(s, "z")
	if e != api.OK || kit.S(v) != "p(1=s(1),b,1)" || e1 != api.ErrForm || e2 != api.ErrNone || e3 != api.ErrNot || f != api.OK || kit.S(b) != "1=s(1)" || e4 != api.ErrNone {
		t.Error(kit.S(v), e, e1, e2, e3, kit.S(b), f, e4)
	}
	for _, x := range []struct{ words, want string }{
		{"r", "{r [] []}"}, {"r x", "{r [{ [x]}] []}"}, {"r nil() cons(h,t) y", "{r [{nil []} {cons [h t]} { [y]}] []}"}, {"r s(x) if q(x) r(x,x)", "{r [{s [x]}] [{q [x]} {r [x x]}]}"}, {"r iff", "{r [{ [iff]}] []}"},
		{"", ""}, {"R", ""}, {"r X", ""}, {"r s(", ""}, {"r s)", ""}, {"r (x)", ""}, {"r s(x,)", ""}, {"r s(,x)", ""}, {"r s(x))", ""}, {"r s(x)y", ""}, {"r s(X)", ""}, {"r if", ""}, {"r x if q", ""}, {"r x if q()", ""}, {"r x if if", ""}, {"r x if q(x) if q(x)", ""}, {"r 1", ""}, {"r S(x)", ""},
	} {
		c, e := shell.Clause(strings.Fields(x.words))
		if got := fmt.Sprint(c); (e == api.OK) != (x.want != "") || e != api.OK && e != api.ErrForm || e == api.OK && got != x.want {
			t.Error(x.words, got, e)
		}
	}
	lines, _ := split(example)
	only, e := shell.Only(lines)
	_, f = shell.Only(slices.Repeat([]string{"gen"}, 61))
	if e != api.OK || f != api.ErrMany || len(only) != 13 || only[0] != lines[0] || only[12] != "gone l" || slices.Contains(only, "why") {
		t.Error(only, e, f)
	}
	for i, l := range [][]string{{"def id[x] = s(x).", "put x 1=s(1)", "put y b"}, {"def id[x] = x.", "put x 1=s(1)", "put y c"}, {"def id[x] = x.", "put x 1=s(1)", "put y b", "gen"}, {"def id[x] = x.", "put x 1=s(1)", "put y b", "rel r 1 1"}, {"def id[x] = x.", "put x 1=s(1)", "put y b", "trace id x"}} {
		u := played(l...)
		if i > 2 {
			u.Lines = u.Lines[:3]
		}
		if same(s, u) {
			t.Error(i)
		}
	}
	if !same(s, s) {
		t.Error("Same")
	}
}

func TestWhatFollows(t *testing.T) { // P27.5
	lines, replies := split(example)
	s, _, _ := shell.Play(lines)
	again, answers, _ := shell.Play(s.Lines)
	left := slices.DeleteFunc(slices.Clone(replies), func(r string) bool { return strings.HasPrefix(r, "error") })
	if !same(s, again) || !slices.Equal(answers, left) {
		t.Error(answers)
	}
	only, _ := shell.Only(lines)
	u, _, _ := shell.Play(only)
	u.Lines = s.Lines
	if !same(s, u) {
		t.Error("a line that asks changes something")
	}
	var d kit.Dice
	for i := range 60 {
		p := d.Prog()
		s := played("put x "+kit.S(d.Tree(4)), "put y "+kit.S(d.Tree(4)))
		s.Script = kit.Print(p)
		for ask, run := range map[string]string{"ask f[x]": "run f x", "ask g[x, y]": "run g x y", "ask h[y]": "run h y", "ask k[]": "run k"} {
			_, a, e := shell.Do(s, ask)
			_, b, f := shell.Do(s, run)
			if a != b || e != f {
				t.Error(i, ask, a, b, e, f)
			}
		}
		t1, _, e := shell.Do(s, "trace f x")
		t2, _, f := shell.Do(t1, "step 2")
		t3, _, g := shell.Do(t2, "back 2")
		t3.Lines = t1.Lines
		if e != api.OK || f == api.OK && (g != api.OK || !same(t1, t3)) {
			t.Error(i, e, f, g)
		}
	}
}
