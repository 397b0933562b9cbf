package clock_test

import (
	"slices"
	"strings"
	"testing"

	"roundelay/api"
	"roundelay/clock"
	"roundelay/kit"
	"roundelay/prog"
	"roundelay/solve"
)

type edge = clock.Edge

const waiting = "g[] = s(h[g[]]). h[x] = x."

func TestErrors(t *testing.T) {
	var none api.Prog
	p := kit.P(waiting)
	_, e1 := clock.Edges(none)
	_, e2 := clock.Clocked(none)
	_, e3 := clock.Answers(none, "")
	_, e4 := clock.Round(none)
	_, e5 := clock.Shows(none, make([]edge, 25))
	_, e6 := clock.Least(none)
	_, e7 := clock.Right(none, clock.Clock{})
	_, e8 := clock.Steady(none, "")
	_, e9 := clock.Growing(none)
	_, e10 := clock.Parts(none, "", nil)
	_, e11 := clock.Bound(none, "", nil)
	_, e12 := clock.Lag(none, "")
	for i, e := range []api.Errno{e1, e2, e3, e4, e5, e6, e7, e8, e9, e10, e11, e12} {
		if e != api.ErrMany {
			t.Error(i, e)
		}
	}
	_, e1 = clock.Answers(p, "q")
	_, e2 = clock.Steady(p, "q")
	_, e3 = clock.Lag(p, "q")
	_, e4 = clock.Parts(p, "q", nil)
	_, e5 = clock.Bound(p, "q", nil)
	_, e6 = clock.Parts(p, "h", nil)
	_, e7 = clock.Bound(p, "h", []api.Tree{kit.T(kit.N("A"))})
	if !slices.Equal([]api.Errno{e1, e2, e3, e4, e5, e6, e7}, []api.Errno{api.ErrNot, api.ErrNot, api.ErrNot, api.ErrNot, api.ErrNot, api.ErrClash, api.ErrForm}) {
		t.Error(e1, e2, e3, e4, e5, e6, e7)
	}
}

func TestRounds(t *testing.T) { // P11.1
	for _, x := range []struct {
		p     string
		edges []edge
		is    bool
	}{
		{"ones[] = cons(a(), ones[]).", []edge{{0, 0, 3}}, true}, {waiting, []edge{{0, 0, 1}, {0, 1, 3}}, false}, {"f[x] = g[x]. g[x] = f[x].", []edge{{0, 1, 2}, {1, 0, 2}}, false}, {"f[x] = g[x]. g[x] = s(f[x]).", []edge{{0, 1, 2}, {1, 0, 3}}, true},
		{"f[x] of a(): s(f[x]); b(): f[f[x]].", []edge{{0, 0, 1}, {0, 0, 2}, {0, 0, 3}}, false}, {"f[x] = g[p(x, g[x])]. g[x] = s(p(g[x], g[g[x]])).", []edge{{0, 1, 1}, {0, 1, 2}, {1, 1, 1}, {1, 1, 3}}, false},
		{"f[x] = s(g[h[x]]). g[x] = x. h[x] = s(g[x]).", []edge{{0, 1, 3}, {0, 2, 1}, {2, 1, 3}}, true}, {"f[] = s(g[]). g[] = h[f[]]. h[x] = x.", []edge{{0, 1, 3}, {1, 0, 1}, {1, 2, 2}}, false},
	} {
		p := kit.P(x.p)
		l, e := clock.Edges(p)
		is, f := clock.Clocked(p)
		r, g := clock.Round(p)
		shown, h := clock.Shows(p, r)
		if e != api.OK || f != api.OK || h != api.OK || !slices.Equal(l, x.edges) || is != x.is || (g == api.ErrNone) != is || shown == is || len(r) > clock.MaxRound {
			t.Error(x.p, l, is, r, g, shown)
		}
	}
	// f waits, k does not, m reaches f.
	p := kit.P("f[x] = f[x]. k[] = s(k[]). m[] = s(f[k[]]).")
	for name, want := range map[string]bool{"f": false, "k": true, "m": false} {
		if is, e := clock.Answers(p, name); is != want || e != api.OK {
			t.Error(name, is, e)
		}
	}
	q := kit.P("f[x] = g[x]. g[x] = s(f[f[x]]).")
	for i, x := range []struct {
		l  []edge
		is bool
		e  api.Errno
	}{
		{[]edge{{1, 0, 1}, {0, 1, 2}}, true, api.OK}, {[]edge{{0, 1, 2}, {1, 0, 1}}, true, api.OK}, {[]edge{{1, 0, 3}, {0, 1, 2}}, false, api.OK}, {[]edge{{1, 0, 1}}, false, api.OK}, {nil, false, api.OK}, {[]edge{{1, 0, 2}, {0, 1, 2}}, false, api.OK}, {[]edge{{1, 0, 1}, {0, 1, 2}, {0, 1, 2}}, false, api.OK},
		{slices.Repeat([]edge{{1, 0, 1}, {0, 1, 2}}, 12), true, api.OK}, {slices.Repeat([]edge{{1, 0, 1}, {0, 1, 2}}, 13), false, api.ErrMany}, {[]edge{{7, 7, 1}}, false, api.OK}, {[]edge{{-1, -1, 1}}, false, api.OK},
	} {
		if is, e := clock.Shows(q, x.l); is != x.is || e != x.e {
			t.Error(i, is, e)
		}
	}
}

func TestClocks(t *testing.T) { // P11.2
	p := kit.P("f[x] = g[x]. g[x] = s(f[x]).")
	c, e := clock.Least(p)
	lag, f := clock.Lag(p, "f")
	_, g := clock.Least(kit.P(waiting))
	_, h := clock.Lag(kit.P(waiting), "g")
	own, k := clock.Lag(kit.P(waiting), "h")
	if e != api.OK || f != api.OK || g != api.ErrClash || h != api.ErrClash || k != api.OK || own != 0 || lag != 1 || !slices.Equal(c.First, []int{0, 0}) || !slices.Equal(c.Pass, []int{1, 0}) {
		t.Error(c, e, lag, f, g, h)
	}
	// a passes to b, which asks c first, to which it passes, too.
	q := kit.P("a[x] = b[x]. b[x] = d[c[x]]. c[x] = d[x]. d[x] = x.")
	c, _ = clock.Least(q)
	lag, _ = clock.Lag(q, "a")
	if !slices.Equal(c.First, []int{1, 1, 0, 0}) || !slices.Equal(c.Pass, []int{1, 0, 1, 0}) || lag != 2 {
		t.Error(c, lag)
	}
	for i, x := range []struct {
		first, pass []int
		is          bool
		e           api.Errno
	}{
		{c.First, c.Pass, true, api.OK}, {[]int{1, 1, 0, 0}, []int{0, 0, 1, 0}, false, api.OK}, {[]int{2, 1, 0, 0}, []int{0, 0, 1, 0}, true, api.OK}, {[]int{1, 1, 1, 0}, []int{1, 0, 0, 0}, false, api.OK}, {[]int{1, 1, 0, -1}, []int{1, 0, 1, 0}, false, api.OK}, {[]int{1, 1, 0, 0}, []int{1, 0, 1, -1}, false, api.OK},
		{[]int{0, 1, 0, 0}, []int{1, 0, 1, 0}, false, api.OK}, {[]int{1, 1, 0}, c.Pass, false, api.ErrMany}, {c.First, append(c.Pass, 0), false, api.ErrMany},
	} {
		if is, e := clock.Right(q, clock.Clock{First: x.first, Pass: x.pass}); is != x.is || e != x.e {
			t.Error(i, is, e)
		}
	}
}

func TestGrowing(t *testing.T) { // P11.3
	p := kit.P("up[x] = cons(x, up[s(x)]). even[x] of cons(h, t): cons(h, odd[t]). odd[x] of cons(h, t): even[t]. k[] = even[p(s(a()), b())]. id[x] = x. m[x] = id[id[x]]. n[] = up[a()]. r[x, y, z, w] = x. u[x] = r[x, x, x, x]. ones[] = s(ones[]).")
	l, _ := clock.Growing(p)
	if !slices.Equal(l, []string{"up", "m"}) {
		t.Error(l)
	}
	for name, want := range map[string]bool{"up": false, "even": true, "k": true, "m": false, "n": false, "ones": true} {
		if is, e := clock.Steady(p, name); is != want || e != api.OK {
			t.Error(name, is, e)
		}
	}
	chain := func(many int) api.Tree {
		return kit.X(strings.Repeat("s(", many-1) + "a" + strings.Repeat(")", many-1))
	}
	for i, x := range []struct {
		name         string
		args         []api.Tree
		parts, bound int
		e            api.Errno
	}{
		{"even", []api.Tree{kit.List2()}, 2, 4, api.OK}, {"k", nil, 4, 9, api.OK}, {"ones", nil, 0, 1, api.OK}, {"up", kit.Xs("a"), 1, 0, api.ErrClash}, {"r", kit.Xs("a", "b", "s(a)", "a"), 3, 81, api.OK},
		{"u", []api.Tree{chain(31)}, 31, 31*31*31*31 + 31, api.OK}, {"u", []api.Tree{chain(32)}, 32, clock.Endless, api.OK}, {"n", nil, 1, 0, api.ErrClash},
	} {
		n, e := clock.Parts(p, x.name, x.args)
		b, f := clock.Bound(p, x.name, x.args)
		if n != x.parts || e != api.OK || b != x.bound || f != x.e {
			t.Error(i, n, e, b, f)
		}
	}
}

func TestWhatFollows(t *testing.T) { // P11.4
	var d kit.Dice
	clocked, bounded := 0, 0
	for i := range 1500 {
		p := d.Prog()
		c, e := clock.Least(p)
		is, _ := clock.Clocked(p)
		if (e == api.OK) != is {
			t.Error(i, p, e, is)
		}
		if right, _ := clock.Right(p, c); e == api.OK && !right {
			t.Error(i, p, c)
		}
		more, _ := prog.Add(p, api.Def{Name: "new", Body: kit.E("new[]")})
		for name, many := range map[string]int{"f": 1, "g": 2, "h": 1, "k": 0} {
			args := []api.Tree{d.Tree(4), d.Tree(4)}[:many]
			answers, _ := clock.Answers(p, name)
			again, _ := clock.Answers(more, name)
			if again != answers || is && !answers {
				t.Error(i, name)
			}
			if !answers {
				continue
			}
			clocked++
			_, e := solve.Value(p, name, args)
			b, f := clock.Bound(p, name, args)
			if e == api.ErrWait {
				t.Error(i, p, name, args)
			}
			if f == api.OK && b <= solve.MaxCalls {
				bounded++
				if e == api.ErrGrow {
					t.Error(i, p, name, args, b)
				}
			}
		}
	}
	if clocked < 100 || bounded < 20 {
		t.Error(clocked, bounded)
	}
}
