package solve_test

import (
	"slices"
	"testing"

	"roundelay/api"
	"roundelay/kit"
	"roundelay/prog"
	"roundelay/solve"
)

const progs = `ones[] = cons(a(), ones[]). f[x] = f[x]. g[] = s(h[g[]]). h[x] = x.
map[x] of cons(h, t): cons(s(h), map[t]). up[x] = cons(x, up[s(x)]). two[] = p(id[ones[]], ones[]). id[x] = x.
`

func TestCheck(t *testing.T) { // P9.1
	p := kit.P(progs)
	for e, w := range kit.Wrong() {
		if f := solve.Check(p, "f", []api.Tree{w}); f != e {
			t.Error(f, e)
		}
	}
	for i, x := range []struct {
		p    api.Prog
		name string
		args []api.Tree
		e    api.Errno
	}{{api.Prog{}, "q", nil, api.ErrMany}, {p, "q", nil, api.ErrNot}, {p, "f", nil, api.ErrClash}, {p, "ones", []api.Tree{{}}, api.ErrClash}, {p, "ones", nil, api.OK}} {
		_, a := solve.Value(x.p, x.name, x.args)
		_, b := solve.Solve(x.p, x.name, x.args)
		_, c := solve.Leads(x.p, x.name, x.args)
		_, d := solve.Waits(x.p, x.name, x.args)
		if x.e == api.OK {
			d -= api.ErrNone
		}
		if e := solve.Check(x.p, x.name, x.args); e != x.e || a != e || b != e || c != e || d != e {
			t.Error(i, e, a, b, c, d)
		}
	}
}

func TestValue(t *testing.T) { // P9.2
	p := kit.P(progs)
	for _, x := range []struct {
		name  string
		args  []string
		value string
		e     api.Errno
	}{
		{"ones", nil, "1=cons(a,1)", api.OK}, {"map", []string{"1=cons(a,cons(a,1))"}, "1=cons(s(a),1)", api.OK}, {"map", []string{"nil"}, "", api.ErrStuck}, {"map", []string{"cons(a)"}, "", api.ErrStuck}, {"map", []string{"cons(a,nil)"}, "", api.ErrStuck},
		{"f", []string{"a"}, "", api.ErrWait}, {"g", nil, "", api.ErrWait}, {"up", []string{"a"}, "", api.ErrGrow}, {"two", nil, "p(1=cons(a,1),1)", api.OK}, {"up", []string{"1=s(1)"}, "1=cons(2=s(2),1)", api.OK},
	} {
		v, e := solve.Value(p, x.name, kit.Xs(x.args...))
		if e != x.e || e == api.OK && kit.S(v) != x.value {
			t.Error(x.name, kit.S(v), e)
		}
	}
	tab, e := solve.Solve(p, "two", nil)
	leads, f := solve.Leads(p, "two", nil)
	if e != api.OK || f != api.OK || len(tab.Rows) != 3 || tab.Rows[0].Name != "two" || tab.Rows[1].Name != "ones" || tab.Rows[2].Name != "id" || !slices.Equal(tab.Ranks, []int{1, 0, 0}) {
		t.Error(tab, e, f)
	}
	if !slices.EqualFunc(leads, [][]int{{1, 2}, {1}, {}}, slices.Equal[[]int]) || kit.S(tab.Rows[2].Args[0]) != "1=cons(a,1)" {
		t.Error(leads)
	}
	// 40 calls are begun, not 41: count goes down a chain of s.
	count := kit.P("c[x] of s(y): s(c[y]); a(): a().")
	chain := func(many int) []api.Tree {
		var u api.Tree
		for i := range many {
			u.Nodes = append(u.Nodes, kit.N("s", i+1))
		}
		u.Nodes = append(u.Nodes, kit.N("a"))
		return []api.Tree{u}
	}
	_, e = solve.Value(count, "c", chain(39))
	_, f = solve.Value(count, "c", chain(40))
	if e != api.OK || f != api.ErrGrow {
		t.Error(e, f)
	}
	// Values, trees that are called with, and inner values may be too large.
	large := kit.P("d[x] of s(y): t(t(d[y])); a(): a(). i[x] = x. in[x] = i[d[x]]. arg[x] = i[t(x)]. kk[x] = s(x).")
	_, e1 := solve.Value(large, "d", chain(30))
	_, e2 := solve.Value(large, "in", chain(30))
	_, e3 := solve.Value(large, "arg", chain(59))
	_, e4 := solve.Value(large, "kk", chain(59))
	_, e5 := solve.Value(large, "kk", chain(58))
	_, e6 := solve.Solve(large, "kk", chain(59))
	if e1 != api.ErrMany || e2 != api.ErrMany || e3 != api.ErrMany || e4 != api.ErrMany || e5 != api.OK || e6 != api.ErrMany {
		t.Error(e1, e2, e3, e4, e5, e6)
	}
}

func TestWaits(t *testing.T) { // P9.3
	for _, x := range []struct {
		p, name string
		args    []string
		waits   []string
		e       api.Errno
	}{
		{progs, "f", []string{"a"}, []string{"f"}, api.OK}, {progs, "g", nil, []string{"g"}, api.OK}, {progs, "ones", nil, nil, api.ErrNone}, {progs, "map", []string{"nil"}, nil, api.ErrNone},
		{"a[] = s(b[]). b[] = s(c[]). c[] = d[b[]]. d[x] = x.", "a", nil, []string{"b", "c"}, api.OK}, {"a[] = b[]. b[] = a[].", "a", nil, []string{"a"}, api.OK}, {"a[] = s(b[]). b[] = c[]. c[] = b[].", "a", nil, []string{"b"}, api.OK},
		{"a[] = p(e[], b[]). e[] = s(a[]). b[] = d[e[]]. d[x] = x.", "a", nil, []string{"a", "b"}, api.OK}, {"a[] = d[d[a[]]]. d[x] = x.", "a", nil, []string{"a"}, api.OK},
	} {
		l, e := solve.Waits(kit.P(x.p), x.name, kit.Xs(x.args...))
		if e != x.e || !slices.Equal(l, x.waits) {
			t.Error(x.p, l, e)
		}
	}
}

func TestHolds(t *testing.T) { // P9.4
	p := kit.P(progs)
	a, ones := kit.X("a"), kit.X("1=cons(a,cons(a,1))")
	row := func(name string, value api.Tree, args ...api.Tree) solve.Row {
		return solve.Row{Name: name, Args: args, Value: value}
	}
	tab := func(ranks []int, l ...solve.Row) solve.Table { return solve.Table{Rows: l, Ranks: ranks} }
	two := row("two", kit.X("p(1=cons(a,1),1)"))
	for i, x := range []struct {
		t  solve.Table
		is bool
		e  api.Errno
	}{
		{tab([]int{0}, row("ones", ones)), true, api.OK}, {tab([]int{5}, row("ones", ones)), true, api.OK}, {tab([]int{0}, row("ones", a)), false, api.OK}, {tab([]int{0}, row("f", a, a)), false, api.OK}, {tab([]int{0}, row("id", a, a)), true, api.OK},
		{tab([]int{1, 0, 0}, two, row("ones", ones), row("id", ones, ones)), true, api.OK}, {tab([]int{0, 0, 0}, two, row("ones", ones), row("id", ones, ones)), false, api.OK}, {tab([]int{1, 0, 2}, two, row("ones", ones), row("id", ones, ones)), false, api.OK},
		{tab([]int{1, 0}, two, row("ones", ones)), false, api.OK}, {tab([]int{0}, row("map", a, a)), false, api.OK}, {tab([]int{0, 0}, row("ones", ones), row("ones", a)), false, api.OK},
		{tab([]int{1, 0}, row("g", kit.X("1=s(1)")), row("h", kit.X("1=s(1)"), kit.X("1=s(1)"))), false, api.OK},
		{tab(nil), false, api.ErrMany}, {tab([]int{0}, slices.Repeat([]solve.Row{{}}, 2)...), false, api.ErrMany}, {tab(make([]int, 41), slices.Repeat([]solve.Row{row("ones", ones)}, 41)...), false, api.ErrMany}, {tab(make([]int, 40), slices.Repeat([]solve.Row{row("ones", ones)}, 40)...), true, api.OK},
		{tab([]int{-1}, row("q", a)), false, api.ErrNot}, {tab([]int{-1}, row("f", a)), false, api.ErrClash}, {tab([]int{-1}, row("f", api.Tree{}, kit.T(kit.N("A")))), false, api.ErrForm}, {tab([]int{-1}, row("f", api.Tree{}, a)), false, api.ErrMany}, {tab([]int{-1, 0}, row("f", a, a), row("q", a)), false, api.ErrNot}, {tab([]int{-1}, row("id", a, a)), false, api.ErrRange},
	} {
		if is, e := solve.Holds(p, x.t); is != x.is || e != x.e {
			t.Error(i, is, e)
		}
	}
	if _, e := solve.Holds(api.Prog{}, tab(nil)); e != api.ErrMany {
		t.Error(e)
	}
	q := kit.P("a[] = b[]. b[] = c[]. c[] = b[].")
	if is, _ := solve.Holds(q, tab([]int{0, 0, 0}, row("a", a), row("b", a), row("c", a))); is {
		t.Error("they lead at once round")
	}
	l := tab(nil, row("f", a, api.Tree{}), row("f", a, ones), row("f", ones, kit.X("1=cons(a,1)")))
	n, e := solve.Find(l, "f", kit.Xs("1=cons(a,1)"))
	_, f := solve.Find(l, "f", []api.Tree{{}})
	_, g := solve.Find(l, "f", nil)
	if n != 1 || e != api.OK || f != api.ErrNone || g != api.ErrNone {
		t.Error(n, e, f, g)
	}
}

func TestEval(t *testing.T) { // P9.5
	p := kit.P(progs)
	v, e := solve.Eval(p, kit.E("p(x, id[y])"), []string{"x", "y"}, kit.Xs("a", "1=s(1)"))
	if e != api.OK || kit.S(v) != "p(a,1=s(1))" {
		t.Error(kit.S(v), e)
	}
	var many api.Prog
	for i := range 12 {
		many.Defs = append(many.Defs, api.Def{Name: string(rune('a' + i)), Body: kit.E("a()")})
	}
	for i, x := range []struct {
		p    api.Prog
		x    string
		vars []string
		by   []api.Tree
		e    api.Errno
	}{
		{api.Prog{}, "x", []string{"x"}, nil, api.ErrClash}, {api.Prog{}, "x", nil, nil, api.ErrMany}, {many, "x", nil, nil, api.ErrMany}, {p, "x", []string{"x", "x"}, kit.Xs("a", "a"), api.ErrTwice}, {p, "x", []string{"X"}, kit.Xs("a"), api.ErrForm}, {p, "x", nil, nil, api.ErrNot},
		{p, "q[]", nil, nil, api.ErrNot}, {p, "aaaaaaaa[]", nil, nil, api.ErrNot}, {p, "f[]", nil, nil, api.ErrClash}, {p, "x", []string{"x"}, []api.Tree{{}}, api.ErrMany}, {p, "f[a()]", nil, nil, api.ErrWait}, {p, "map[a()]", nil, nil, api.ErrStuck}, {p, "up[a()]", nil, nil, api.ErrGrow},
	} {
		if v, e := solve.Eval(x.p, kit.E(x.x), x.vars, x.by); e != x.e || len(v.Nodes) > 0 {
			t.Error(i, v, e)
		}
	}
}

func TestWhatFollows(t *testing.T) { // P9.6
	var d kit.Dice
	had := map[api.Errno]int{}
	for i := range 1500 {
		p := d.Prog()
		name := []string{"f", "g", "h", "k"}[d.Roll(4)]
		args := []api.Tree{d.Tree(4), d.Tree(4)}[:map[string]int{"f": 1, "g": 2, "h": 1, "k": 0}[name]]
		tab, e := solve.Solve(p, name, args)
		v, f := solve.Value(p, name, args)
		w, g := solve.Waits(p, name, args)
		had[e]++
		if e != f || (g == api.OK) != (e == api.ErrWait) || g == api.OK && len(w) == 0 {
			t.Error(i, e, f, g, w)
		}
		more, _ := prog.Add(p, api.Def{Name: "new", Body: kit.E("k[]")})
		if _, e2 := solve.Value(more, name, args); e2 != e {
			t.Error(i, e2, e)
		}
		if e != api.OK {
			continue
		}
		is, _ := solve.Holds(p, tab)
		n, _ := solve.Find(tab, name, args)
		if !is || n != 0 || kit.S(tab.Rows[0].Value) != kit.S(v) {
			t.Error(i, is, n, tab)
		}
		for _, r := range tab.Rows {
			if u, e := solve.Value(p, r.Name, r.Args); e != api.OK || kit.S(u) != kit.S(r.Value) {
				t.Error(i, r, u, e)
			}
		}
		tab.Rows[0].Value = kit.X("zzz")
		if is, _ := solve.Holds(p, tab); is {
			t.Error(i, "a wrong value holds")
		}
	}
	if had[api.OK] < 100 || had[api.ErrWait] < 50 || had[api.ErrStuck] < 50 {
		t.Error(had)
	}
}
