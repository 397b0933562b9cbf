package flow_test

import (
	"reflect"
	"slices"
	"testing"

	"roundelay/api"
	"roundelay/flow"
	"roundelay/kit"
	"roundelay/solve"
	"roundelay/sorts"
)

func alt(name string, kids ...int) api.Alt    { return api.Alt{Name: name, Kids: kids} }
func sort(rank int, alts ...api.Alt) api.Sort { return api.Sort{Rank: rank, Alts: alts} }
func ty(l ...api.Sort) api.Type               { return api.Type{Sorts: l} }

// norm makes all empty lists nil.
func norm(t api.Type) api.Type {
	u := api.Type{Start: t.Start}
	for _, s := range t.Sorts {
		v := api.Sort{Rank: s.Rank}
		for _, a := range s.Alts {
			v.Alts = append(v.Alts, api.Alt{Name: a.Name, Kids: append([]int(nil), a.Kids...)})
		}
		u.Sorts = append(u.Sorts, v)
	}
	return u
}
func same(a, b api.Type) bool { return reflect.DeepEqual(norm(a), norm(b)) }

const lists = "ones[] = cons(a(), ones[]). map[x] of cons(h, t): cons(s(h), map[t]); nil(): nil(). f[x] = f[s(x)]. last[x] of p(y): last[y]; a(): a()."

func list() api.Type { return ty(sort(1, alt("cons", 1, 0)), sort(1, alt("a"))) }

func TestErrors(t *testing.T) {
	p := kit.P(lists)
	for i, x := range []struct {
		p    api.Prog
		name string
		args []api.Type
		e    api.Errno
	}{
		{api.Prog{}, "q", nil, api.ErrMany}, {p, "q", nil, api.ErrNot}, {p, "map", nil, api.ErrClash}, {p, "ones", []api.Type{{}}, api.ErrClash}, {p, "map", []api.Type{{}}, api.ErrMany}, {p, "map", []api.Type{ty(sort(4))}, api.ErrRange}, {p, "ones", nil, api.OK},
	} {
		_, e1 := flow.Flow(x.p, x.name, x.args)
		_, e2 := flow.Account(x.p, x.name, x.args)
		_, e3 := flow.Used(x.p, x.name, x.args)
		_, e4 := flow.Unused(x.p, x.name, x.args)
		_, e5 := flow.Missing(x.p, x.name, x.args)
		_, e6 := flow.Safe(x.p, x.name, x.args)
		_, e7 := flow.Made(x.p, x.name, x.args)
		_, e8 := flow.Holds(x.p, x.name, x.args, nil)
		e := flow.Check(x.p, x.name, x.args)
		if !slices.Equal([]api.Errno{e, e1, e2, e3, e4, e5, e6, e7, e8}, slices.Repeat([]api.Errno{x.e}, 9)) {
			t.Error(i, e, e1, e2, e3, e4, e5, e6, e7, e8)
		}
	}
}

func TestFlow(t *testing.T) { // P10.1
	p := kit.P(lists)
	for i, x := range []struct {
		name string
		args []api.Type
		want api.Type
	}{
		{"ones", nil, list()}, {"map", []api.Type{list()}, ty(sort(1, alt("cons", 1, 0)), sort(1, alt("s", 2)), sort(1, alt("a")))}, {"f", []api.Type{list()}, ty(sort(1))},
		{"last", []api.Type{ty(sort(0, alt("p", 0), alt("a")))}, ty(sort(1, alt("a")))}, {"map", []api.Type{ty(sort(3, alt("nil"), alt("u", 0)))}, ty(sort(1, alt("nil")))},
	} {
		if f, e := flow.Flow(p, x.name, x.args); e != api.OK || !same(f, x.want) {
			t.Error(i, f, e)
		}
	}
	rows, e := flow.Account(p, "map", []api.Type{list()})
	if e != api.OK || len(rows) != 1 || rows[0].Name != "map" || !same(rows[0].Params[0], list()) || len(rows[0].Value.Sorts) != 3 {
		t.Error(rows, e)
	}
	// Heads are ordered by name and then by number; a type can be too large.
	q := kit.P("f[x] of a(): s(); b(): s(a(), b()); c(): r(); d(): s(c()).")
	f, _ := flow.Flow(q, "f", []api.Type{ty(sort(0, alt("d"), alt("c"), alt("b"), alt("a")))})
	if !same(f, ty(sort(1, alt("r"), alt("s"), alt("s", 1), alt("s", 2, 3)), sort(1, alt("c")), sort(1, alt("a")), sort(1, alt("b")))) {
		t.Error(f)
	}
	big := kit.P("g[x] = p(x, h[], h[]). h[] = s(s(s(s(s(s(s(s(s(s(s(s(s(s(s(s(s(s(s(s(s(s(a())))))))))))))))))))))). k[] = a(). m[x, y] = k[].")
	_, e1 := flow.Flow(big, "g", []api.Type{list()})
	_, e2 := flow.Flow(big, "h", nil)
	seven := func(name string) api.Type {
		u := ty(sort(0))
		for _, c := range "abcd" {
			u.Sorts[0].Alts = append(u.Sorts[0].Alts, alt(name+string(c)))
		}
		return u
	}
	wide := kit.P("f[x, y] of xa(): x; xb(): y; xc(): x; xd(): x.")
	_, e3 := flow.Flow(wide, "f", []api.Type{seven("x"), seven("y")})
	deep := kit.P("g[x] = k[h[]]. h[] = s(s(s(s(s(s(s(s(s(s(s(s(s(s(s(s(s(s(s(s(s(s(a())))))))))))))))))))))). k[x] = r(p(p(x, x), b())).")
	_, e4 := flow.Flow(deep, "g", []api.Type{list()})
	_, e5 := flow.Account(kit.P("g[x] = k[i[h[]]]. h[] = s(s(s(s(s(s(s(s(s(s(s(s(s(s(s(s(s(s(s(s(s(s(a())))))))))))))))))))))). i[x] = r(q(x)). k[x] = b()."), "g", []api.Type{list()})
	if e1 != api.ErrMany || e2 != api.OK || e3 != api.ErrMany || e4 != api.ErrMany || e5 != api.ErrMany {
		t.Error(e1, e2, e3, e4, e5)
	}
}

func TestUse(t *testing.T) { // P10.2
	p := kit.P(lists + "n[x] = p(ones[], ones[], b()).")
	unused, _ := flow.Unused(p, "map", []api.Type{list()})
	missing, _ := flow.Missing(p, "map", []api.Type{ty(sort(0, alt("u"), alt("cons", 0, 0), alt("cons"), alt("b")))})
	safe, _ := flow.Safe(p, "map", []api.Type{ty(sort(0, alt("u"), alt("cons", 0, 0)))})
	yes, _ := flow.Safe(p, "map", []api.Type{list()})
	used, _ := flow.Used(p, "n", []api.Type{list()})
	made, _ := flow.Made(p, "n", []api.Type{list()})
	if !slices.Equal(unused, [][2]int{{1, 1}}) || !slices.Equal(missing, []flow.Head{{"map", "b", 0}, {"map", "cons", 0}, {"map", "u", 0}}) || safe || !yes {
		t.Error(unused, missing, safe, yes)
	}
	if !slices.Equal(used, []string{"ones", "n"}) || !slices.Equal(made, []flow.Head{{"ones", "a", 0}, {"ones", "cons", 2}, {"n", "b", 0}, {"n", "p", 3}}) {
		t.Error(used, made)
	}
}

func TestHolds(t *testing.T) { // P10.3
	p := kit.P(lists)
	row := flow.Row{Name: "map", Params: []api.Type{list()}, Value: ty(sort(1, alt("cons", 1, 0)), sort(1, alt("s", 2)), sort(1, alt("a")))}
	wide := flow.Row{Name: "map", Params: []api.Type{list()}, Value: ty(sort(1, alt("nil"), alt("cons", 1, 0)), sort(1, alt("s", 2)), sort(1, alt("a"), alt("b")))}
	more := flow.Row{Name: "map", Params: []api.Type{ty(sort(1, alt("cons", 1, 0), alt("nil")), sort(0, alt("a")))}, Value: wide.Value}
	bad := row
	bad.Value = list()
	ranked := row
	ranked.Value = ty(sort(1, alt("cons", 1, 0)), sort(1, alt("s", 2)), sort(1, alt("a")), sort(3))
	noNil := more
	noNil.Value = row.Value
	empty := flow.Row{Name: "map", Params: []api.Type{ty(sort(1, alt("cons", 1, 0), alt("nil", 2)), sort(0, alt("a")), sort(0))}, Value: row.Value}
	for i, x := range []struct {
		rows []flow.Row
		is   bool
		e    api.Errno
	}{
		{[]flow.Row{row}, true, api.OK}, {[]flow.Row{wide}, true, api.OK}, {[]flow.Row{more}, true, api.OK}, {[]flow.Row{bad}, false, api.OK}, {[]flow.Row{ranked}, false, api.OK}, {[]flow.Row{noNil}, false, api.OK}, {[]flow.Row{empty}, true, api.OK}, {nil, false, api.OK},
		{[]flow.Row{row, {Name: "ones", Value: list()}}, true, api.OK}, {[]flow.Row{row, {Name: "ones", Value: ty(sort(1))}}, false, api.OK}, {slices.Repeat([]flow.Row{{}}, 13), false, api.ErrMany}, {[]flow.Row{row, {}}, false, api.ErrNot}, {[]flow.Row{row, {Name: "map"}}, false, api.ErrTwice},
		{[]flow.Row{{Name: "map"}}, false, api.ErrClash}, {[]flow.Row{{Name: "map", Params: []api.Type{{}}, Value: ty(sort(9))}}, false, api.ErrMany}, {[]flow.Row{{Name: "map", Params: []api.Type{list()}, Value: ty(sort(9))}}, false, api.ErrRange},
	} {
		if is, e := flow.Holds(p, "map", []api.Type{list()}, x.rows); is != x.is || e != x.e {
			t.Error(i, is, e)
		}
	}
	if is, _ := flow.Holds(p, "map", []api.Type{ty(sort(1, alt("u")))}, []flow.Row{row}); is {
		t.Error("the question is not under the row")
	}
}

func TestTrees(t *testing.T) { // P10.4
	p := kit.P(lists)
	f, e := flow.Trees(p, "map", kit.Xs("cons(a,nil)"))
	if e != api.OK || !same(f, ty(sort(1, alt("cons", 1, 0), alt("nil")), sort(1, alt("s", 2)), sort(1, alt("a")))) {
		t.Error(f, e)
	}
	var long api.Tree
	for i := range 25 {
		long.Nodes = append(long.Nodes, kit.N("s", i+1))
	}
	long.Nodes[24] = kit.N("a")
	_, e1 := flow.Trees(p, "q", nil)
	_, e2 := flow.Trees(p, "map", nil)
	_, e3 := flow.Trees(p, "map", []api.Tree{kit.T(kit.N("A"))})
	_, e4 := flow.Trees(p, "map", []api.Tree{long})
	if e1 != api.ErrNot || e2 != api.ErrClash || e3 != api.ErrForm || e4 != api.ErrMany {
		t.Error(e1, e2, e3, e4)
	}
}

func TestWhatFollows(t *testing.T) { // P10.5
	var d kit.Dice
	values := 0
	for i := range 600 {
		p := d.Prog()
		name := []string{"f", "g", "h", "k"}[d.Roll(4)]
		args := []api.Tree{d.Tree(4), d.Tree(4)}[:map[string]int{"f": 1, "g": 2, "h": 1, "k": 0}[name]]
		var types []api.Type
		for _, a := range args {
			u, _ := sorts.Of(a)
			types = append(types, u)
		}
		f, e := flow.Trees(p, name, args)
		rows, e2 := flow.Account(p, name, types)
		safe, _ := flow.Safe(p, name, types)
		v, e3 := solve.Value(p, name, args)
		if safe && e3 == api.ErrStuck {
			t.Error(i, p, name, args)
		}
		if e == api.OK && e3 == api.OK {
			values++
			if is, _ := sorts.Has(f, v); !is {
				t.Error(i, p, name, args, f, kit.S(v))
			}
		}
		if e2 == api.OK {
			if is, e := flow.Holds(p, name, types, rows); !is || e != api.OK {
				t.Error(i, p, name, args, rows, e)
			}
		}
		used, _ := flow.Used(p, name, types)
		tab, _ := solve.Solve(p, name, args)
		for _, r := range tab.Rows {
			if !slices.Contains(used, r.Name) {
				t.Error(i, r.Name, used)
			}
		}
	}
	if values < 50 {
		t.Error(values)
	}
}
