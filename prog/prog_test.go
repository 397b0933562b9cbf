package prog_test

import (
	"slices"
	"testing"

	"roundelay/api"
	"roundelay/prog"
)

type ex = api.Expr

func v(name string) ex             { return ex{Kind: api.Var, Name: name} }
func m(name string, args ...ex) ex { return ex{Kind: api.Make, Name: name, Args: args} }
func c(name string, args ...ex) ex { return ex{Kind: api.Call, Name: name, Args: args} }
func def(name string, body ex, params ...string) api.Def {
	return api.Def{Name: name, Params: params, Body: body}
}
func cases(name string, params []string, l ...api.Case) api.Def {
	return api.Def{Name: name, Params: params, Cases: l}
}
func kase(name string, body ex, vars ...string) api.Case {
	return api.Case{Name: name, Vars: vars, Body: body}
}
func p(l ...api.Def) api.Prog { return api.Prog{Defs: l} }

var x = []string{"x"}

// deep is an expression of a size.
func deep(size int) ex {
	if size == 1 {
		return m("a")
	}
	return m("s", deep(size-1))
}

// good is zip, ones and two, which calls them.
func good() api.Prog {
	return p(cases("zip", []string{"x", "y"}, kase("cons", m("cons", v("h"), c("zip", v("y"), v("t"))), "h", "t"), kase("nil", v("y"))),
		def("ones", m("cons", m("a"), c("ones"))), def("two", c("zip", c("ones"), m("cons", m("b"), c("ones")))))
}

func TestCheck(t *testing.T) { // P7.1
	ok := def("f", m("a"))
	bad := def("", v("q"))
	many := slices.Repeat([]api.Def{ok}, 13)
	five := []ex{v("Q"), v("Q"), v("Q"), v("Q"), v("Q")}
	names := []string{"a", "b", "c", "d", "e"}
	seven := slices.Repeat([]api.Case{kase("", ex{})}, 7)
	for i, y := range []struct {
		p api.Prog
		e api.Errno
	}{
		{good(), api.OK}, {p(), api.ErrMany}, {p(many...), api.ErrMany}, {p(many[1:]...), api.ErrTwice}, {p(def("f", m("a"), names...)), api.ErrMany}, {p(def("f", m("a"), names[1:]...)), api.OK},
		{p(cases("", x, seven...)), api.ErrMany}, {p(cases("", x, kase("", ex{}, names...))), api.ErrMany}, {p(def("f", deep(25))), api.ErrMany}, {p(def("f", deep(24))), api.OK}, {p(cases("f", x, kase("a", deep(25)))), api.ErrMany},
		{p(def("", m("", five...))), api.ErrMany}, {p(def("", c("", five...))), api.ErrMany}, {p(def("", ex{Kind: 4, Args: five})), api.ErrRange}, {p(def("", ex{})), api.ErrRange}, {p(def("", ex{Kind: -1})), api.ErrRange}, {p(def("", ex{Kind: api.Var, Name: "x", Args: five[:1]})), api.ErrRange},
		{p(def("F", v("q"), "x", "x")), api.ErrForm}, {p(def("f", v("q"), "x", "X")), api.ErrForm}, {p(cases("f", nil, kase("A", v("q")))), api.ErrForm}, {p(cases("f", nil, kase("a", v("q"), "B"))), api.ErrForm}, {p(def("f", m("s", m("A")))), api.ErrForm}, {p(def("f", c("abcdefghi"))), api.ErrForm},
		{p(def("f", v("q"), "x", "x")), api.ErrTwice}, {p(cases("f", nil, kase("s", v("q"), "y", "y"))), api.ErrTwice}, {p(cases("f", x, kase("s", v("q"), "x"))), api.ErrTwice}, {p(cases("f", nil, kase("s", v("q"), "y"), kase("s", v("q"), "z"))), api.ErrTwice}, {p(cases("f", x, kase("s", v("x"), "y"), kase("s", v("x")))), api.OK},
		{p(cases("f", nil, kase("a", v("q")))), api.ErrClash}, {p(api.Def{Name: "f", Params: x, Cases: []api.Case{kase("a", v("q"))}, Body: m("a")}), api.ErrClash}, {p(api.Def{Name: "f", Params: x, Cases: []api.Case{kase("a", v("x"))}, Body: ex{Name: "A", Args: five}}), api.OK},
		{p(def("f", v("q"))), api.ErrNot}, {p(cases("f", x, kase("s", v("x"), "y"), kase("t", v("y")))), api.ErrNot}, {p(ok, bad, def("f", m("a"), names...)), api.ErrForm}, {p(def("f", v("q")), def("F", v("q"))), api.ErrNot},
		{p(ok, def("f", c("g"))), api.ErrTwice}, {p(ok, def("g", m("p", c("f", m("a")), c("h")))), api.ErrClash}, {p(ok, def("g", m("p", c("h"), c("f", m("a"))))), api.ErrNot}, {p(ok, def("g", c("f", c("h")))), api.ErrClash},
	} {
		_, e1 := prog.Find(y.p, "")
		_, e2 := prog.Calls(y.p, "")
		_, e3 := prog.Reach(y.p, "")
		_, e4 := prog.Only(y.p, "")
		_, e5 := prog.Rename(y.p, "", "")
		_, e6 := prog.Simple(y.p)
		_, e7 := prog.Add(y.p, bad)
		_, _, e8 := prog.Heads(y.p)
		e := prog.Check(y.p)
		if e != y.e {
			t.Error(i, e)
		}
		want := []api.Errno{y.e, y.e, y.e, y.e, y.e, y.e, y.e, y.e}
		if e == api.OK {
			want = []api.Errno{api.ErrNot, api.ErrNot, api.ErrNot, api.ErrNot, api.ErrNot, api.OK, api.ErrForm, api.OK}
		}
		if got := []api.Errno{e1, e2, e3, e4, e5, e6, e7, e8}; !slices.Equal(got, want) {
			t.Error(i, got)
		}
	}
}

func TestLook(t *testing.T) { // P7.2
	g := good()
	n, _ := prog.Find(g, "two")
	calls, _ := prog.Calls(g, "two")
	reach, _ := prog.Reach(g, "two")
	self, _ := prog.Reach(g, "ones")
	is, _ := prog.Simple(g)
	yes, _ := prog.Simple(p(g.Defs[:2]...))
	names, many, _ := prog.Heads(g)
	if n != 2 || !slices.Equal(calls, []string{"zip", "ones"}) || !slices.Equal(reach, []string{"two", "zip", "ones"}) || !slices.Equal(self, []string{"ones"}) || is || !yes {
		t.Error(n, calls, reach, self, is, yes)
	}
	if !slices.Equal(names, []string{"cons", "nil", "a", "b"}) || !slices.Equal(many, []int{2, 0, 0, 0}) {
		t.Error(names, many)
	}
	body := g.Defs[1].Body
	weird := ex{Kind: 9, Args: []ex{v("x"), {Kind: api.Var, Name: "y", Args: []ex{v("x"), v("z")}}}}
	if prog.Size(body) != 3 || prog.Height(body) != 1 || prog.Height(v("x")) != 0 || prog.Size(weird) != 5 || prog.Height(weird) != 2 || !slices.Equal(prog.Vars(weird), []string{"x", "y", "z"}) || prog.Vars(body) != nil {
		t.Error(prog.Size(body), prog.Height(body), prog.Size(weird), prog.Vars(weird))
	}
	if !prog.SameExpr(weird, weird) || prog.SameExpr(m("p", v("x"), v("y")), m("p", v("y"), v("x"))) || prog.SameExpr(m("a"), c("a")) || prog.SameExpr(ex{Kind: 0}, ex{Kind: 4}) || !prog.SameExpr(ex{Args: []ex{}}, ex{}) {
		t.Error("SameExpr")
	}
	other := good()
	other.Defs[0].Cases[0].Vars[1] = "u"
	if !prog.Same(g, good()) || prog.Same(g, other) || prog.Same(g, p(g.Defs[:2]...)) || prog.Same(p(def("f", m("a"), "x")), p(def("f", m("a"), "y"))) {
		t.Error("Same")
	}
	k, e := prog.Pick(g.Defs[0], "nil", 0)
	_, f := prog.Pick(g.Defs[0], "nil", 1)
	_, h := prog.Pick(api.Def{}, "", 0)
	if k != 1 || e != api.OK || f != api.ErrNone || h != api.ErrNone {
		t.Error(k, e, f, h)
	}
	if is, _ := prog.Simple(p(def("f", c("f", m("s", c("g"))), "x"), def("g", m("a")))); is {
		t.Error("not simple")
	}
}

func TestChange(t *testing.T) { // P7.3
	g := good()
	o, e := prog.Only(g, "ones")
	if e != api.OK || !prog.Same(o, p(g.Defs[1])) {
		t.Error(o, e)
	}
	o, _ = prog.Only(g, "two")
	if !prog.Same(o, g) {
		t.Error(o)
	}
	o.Defs[0].Cases[0].Body.Args[0].Name = "z"
	if !prog.Same(g, good()) {
		t.Error("memory is shared")
	}
	r, e := prog.Rename(g, "ones", "f")
	_, e1 := prog.Rename(g, "f", "")
	_, e2 := prog.Rename(g, "ones", "F")
	_, e3 := prog.Rename(g, "ones", "zip")
	s, e4 := prog.Rename(g, "ones", "ones")
	if e != api.OK || e1 != api.ErrNot || e2 != api.ErrForm || e3 != api.ErrTwice || e4 != api.OK || !prog.Same(s, g) || !prog.SameExpr(r.Defs[2].Body.Args[0], c("f")) || r.Defs[1].Name != "f" || !prog.SameExpr(r.Defs[1].Body, m("cons", m("a"), c("f"))) {
		t.Error(r, e, e1, e2, e3, e4)
	}
	a, e := prog.Add(g, def("g", c("ones")))
	_, e1 = prog.Add(g, def("ones", m("a")))
	var twelve api.Prog
	for i := range 12 {
		twelve.Defs = append(twelve.Defs, def(string(rune('a'+i)), m("a")))
	}
	_, e2 = prog.Add(twelve, def("", ex{}))
	if e != api.OK || len(a.Defs) != 4 || e1 != api.ErrTwice || e2 != api.ErrMany {
		t.Error(a, e, e1, e2)
	}
	u, e := prog.Subst(m("p", v("x"), v("x"), v("y")), []string{"x", "y"}, []ex{v("y"), m("a")})
	_, e1 = prog.Subst(v("x"), []string{"x", "x"}, []ex{v("y")})
	_, e2 = prog.Subst(deep(25), []string{"x", "x"}, []ex{v("y"), v("y")})
	_, e3 = prog.Subst(m("p", v("x"), v("x")), x, []ex{deep(12)})
	w, e4 := prog.Subst(m("p", v("x"), v("x")), x, []ex{deep(11)})
	if e != api.OK || e1 != api.ErrClash || e2 != api.ErrTwice || e3 != api.ErrMany || e4 != api.OK || prog.Size(w) != 23 || !prog.SameExpr(u, m("p", v("y"), v("y"), m("a"))) {
		t.Error(u, e, e1, e2, e3, e4)
	}
}

func TestWhatFollows(t *testing.T) { // P7.4
	g := good()
	for _, name := range []string{"zip", "ones", "two"} {
		o, _ := prog.Only(g, name)
		a, _ := prog.Reach(g, name)
		b, e := prog.Reach(o, name)
		r, _ := prog.Rename(g, name, "new")
		s, _ := prog.Rename(r, "new", name)
		if e != api.OK || !slices.Equal(a, b) || len(o.Defs) != len(a) || !prog.Same(s, g) {
			t.Error(name, a, b, o)
		}
	}
	body := m("p", v("x"), m("s", v("x")), v("y"))
	s, _ := prog.Subst(body, []string{"x", "y"}, []ex{deep(3), deep(4)})
	same, _ := prog.Subst(body, []string{"x", "y"}, []ex{v("x"), v("y")})
	if prog.Size(s) != prog.Size(body)+2+2+3 || !prog.SameExpr(same, body) {
		t.Error(s, same)
	}
}

// beside is a program whose second definition has, beside its Cases, a Body that is no expression: it is as wrong as can be, and has a call of a name in it.
func beside(called string) api.Prog {
	j := cases("j", []string{"u"}, kase("s", c("fa", v("t")), "t"), kase("p", m("q", c("fa", v("t")), v("w")), "t", "w"))
	j.Body = ex{Name: called, Args: []ex{c(called), c("f", c(called), m("zz"), v("V")), {Kind: 9, Args: []ex{deep(30)}}, {Kind: api.Var, Name: called, Args: []ex{c(called)}}}}
	return p(cases("fa", []string{"v"}, kase("p", v("t"), "t")), j, def("k", c("j", m("a"))))
}

func TestBodyBesideCases(t *testing.T) { // P7.1, P7.2, P7.3
	g := beside("fa")
	calls, e := prog.Calls(g, "j")
	reach, e1 := prog.Reach(g, "k")
	is, e2 := prog.Simple(g)
	names, _, e3 := prog.Heads(g)
	if e != api.OK || e1 != api.OK || e2 != api.OK || e3 != api.OK || !slices.Equal(calls, []string{"fa"}) || !slices.Equal(reach, []string{"k", "j", "fa"}) || !is || !slices.Equal(names, []string{"p", "s", "p", "q", "a"}) {
		t.Error(e, e1, e2, e3, calls, reach, is, names)
	}
	o, e := prog.Only(g, "j")
	a, e1 := prog.Add(p(g.Defs[0]), g.Defs[1])
	if e != api.OK || e1 != api.OK || !prog.Same(o, p(g.Defs[:2]...)) || !prog.Same(a, o) {
		t.Error(o, a, e, e1)
	}
	r, e := prog.Rename(g, "fa", "w")
	if e != api.OK || r.Defs[0].Name != "w" || !prog.SameExpr(r.Defs[1].Body, beside("fa").Defs[1].Body) || !prog.SameExpr(r.Defs[1].Cases[0].Body, c("w", v("t"))) || !prog.SameExpr(r.Defs[1].Cases[1].Body, m("q", c("w", v("t")), v("w"))) {
		t.Error(r, e)
	}
	r.Defs[1].Body.Args[1].Args[0].Name = "z"
	if !prog.Same(g, beside("fa")) {
		t.Error("memory is shared")
	}
	s, e := prog.Rename(g, "j", "fb")
	if e != api.OK || s.Defs[1].Name != "fb" || !prog.SameExpr(s.Defs[1].Body, g.Defs[1].Body) || !prog.SameExpr(s.Defs[2].Body, c("fb", m("a"))) {
		t.Error(s, e)
	}
}

func TestBodyBesideCasesThereAndBack(t *testing.T) { // P7.4
	for _, called := range []string{"w", "fa", "j", "k", "none"} {
		for _, name := range []string{"fa", "j", "k"} {
			g := beside(called)
			r, e := prog.Rename(g, name, "w")
			s, f := prog.Rename(r, "w", name)
			if e != api.OK || f != api.OK || !prog.Same(s, g) {
				t.Error(called, name, e, f, s)
			}
		}
	}
}
