package script_test

import (
	"slices"
	"strings"
	"testing"

	"roundelay/api"
	"roundelay/kit"
	"roundelay/prog"
	"roundelay/script"
)

var n, tr = kit.N, kit.T

const lists = "ones[] = cons(a(), ones[]).\nmap[x] of cons(h, t): cons(s(h), map[t]); nil(): nil().\nzip[x, y] = p(x, map[y]).\n"

// long is an expression of a size.
func long(size int) string {
	return strings.Repeat("s(", size-1) + "a()" + strings.Repeat(")", size-1)
}

func TestTokens(t *testing.T) { // P8.1
	l, at, e := script.Tokens("f[x]of # y\n:=.;,()")
	if e != api.OK || at != 0 || len(l) != 12 || l[0] != (script.Token{0, script.Name, "f"}) || l[4] != (script.Token{4, script.Name, "of"}) || l[5] != (script.Token{11, ':', ":"}) || l[11] != (script.Token{17, 41, ")"}) {
		t.Error(l, at, e)
	}
	for _, x := range []struct {
		s  string
		at int
		e  api.Errno
	}{{"", 0, api.OK}, {"abcdefgh)", 0, api.OK}, {"a abcdefghi", 10, api.ErrForm}, {"a\t", 1, api.ErrForm}, {"a1", 1, api.ErrForm}, {"A", 0, api.ErrForm}, {strings.Repeat("#", 65536), 0, api.OK}, {strings.Repeat("#", 65537), 0, api.ErrLong}} {
		if _, at, e := script.Tokens(x.s); at != x.at || e != x.e {
			t.Error(x.s, at, e)
		}
	}
}

func TestParse(t *testing.T) { // P8.1
	for _, x := range []struct {
		s  string
		at int
		e  api.Errno
	}{
		{"f[x = x.", 4, api.ErrForm}, {"f[] = a(.", 8, api.ErrForm}, {"f[] is a().", 4, api.ErrForm}, {"f[] = a()", 9, api.ErrForm}, {"f[] = g[].", 10, api.ErrNot}, {"", 0, api.ErrMany}, {"# x", 3, api.ErrMany},
		{"f[] = a(). g", 12, api.ErrForm}, {"f[] o", 4, api.ErrForm}, {"f[] ofofofofofo a", 4, api.ErrForm}, {"f[] = abcdefghij.", 14, api.ErrForm}, {"f[] = a().\t", 10, api.ErrForm}, {"f[] \t", 4, api.ErrForm}, {"f() = a().", 1, api.ErrForm},
		{"f[x] of .", 8, api.ErrForm}, {"f[x] of a().", 11, api.ErrForm}, {"f[x] of a: x.", 9, api.ErrForm}, {"f[x] of a(): x; .", 16, api.ErrForm}, {"f[x,] = x.", 4, api.ErrForm}, {"f[x] = p(x,).", 11, api.ErrForm}, {"f[x] = x x.", 9, api.ErrForm}, {"f[x] = x, y.", 8, api.ErrForm},
		{"f[x] = [x].", 7, api.ErrForm}, {"f", 1, api.ErrForm}, {"f ", 2, api.ErrForm}, {"[", 0, api.ErrForm}, {"f[x] = p(x; y).", 10, api.ErrForm}, {"of[of] of of(): of.", 0, api.OK}, {strings.Repeat(" ", 65537), 0, api.ErrLong}, {"f[] = " + long(25) + ".", 82, api.ErrMany},
		{"f[x]=x.f[x]=y.", 14, api.ErrNot}, {"f[x]=x.f[x]=x.", 14, api.ErrTwice},
	} {
		_, a, e := script.Parse(x.s)
		_, b, f := script.Tidy(x.s)
		_, c, g := script.Defs(x.s)
		_, _, h := script.Where(x.s, "f")
		if x.e == api.OK {
			h = api.OK
		}
		if e != x.e || f != x.e || g != x.e || h != x.e || a != x.at || b != x.at || c != x.at {
			t.Error(x.s, a, b, c, e, f, g, h)
		}
	}
	p, _, _ := script.Parse("ones[]=cons(a(),ones[]).")
	want := api.Prog{Defs: []api.Def{{Name: "ones", Body: api.Expr{Kind: api.Make, Name: "cons", Args: []api.Expr{{Kind: api.Make, Name: "a"}, {Kind: api.Call, Name: "ones"}}}}}}
	s, _, _ := script.Tidy("ones[]=cons(a(),ones[]).")
	if !prog.Same(p, want) || s != "ones[] = cons(a(), ones[]).\n" {
		t.Error(p, s)
	}
	q, _, e := script.Parse(lists)
	again, f := script.Print(q)
	if e != api.OK || f != api.OK || again != lists || q.Defs[1].Cases[0].Body.Args[0].Args[0].Kind != api.Var || q.Defs[1].Body.Kind != 0 || q.Defs[0].Cases != nil {
		t.Error(q, e, again, f)
	}
	if _, e := script.Print(api.Prog{}); e != api.ErrMany {
		t.Error(e)
	}
}

func TestRead(t *testing.T) { // P8.2
	for _, x := range []struct {
		s  string
		at int
		e  api.Errno
	}{{"p(x,f[a()])", 0, api.OK}, {" x # y", 0, api.OK}, {"", 0, api.ErrForm}, {"x y", 2, api.ErrForm}, {"p(x", 3, api.ErrForm}, {"p(x]", 3, api.ErrForm}, {"x.", 1, api.ErrForm}, {"x\t", 1, api.ErrForm}, {"abcdefghi(", 8, api.ErrForm}, {long(24), 0, api.OK}, {long(25), 75, api.ErrMany}, {strings.Repeat(" ", 65537), 0, api.ErrLong}} {
		y, at, e := script.Read(x.s)
		if at != x.at || e != x.e {
			t.Error(x.s, at, e)
		}
		if s, f := script.Show(y); e == api.OK && (f != api.OK || strings.ReplaceAll(s, " ", "") != strings.ReplaceAll(strings.TrimSuffix(x.s, "# y"), " ", "")) {
			t.Error(s, f)
		}
	}
	if s, _ := script.Show(api.Expr{Kind: api.Make, Name: "p", Args: []api.Expr{{Kind: api.Var, Name: "x"}, {Kind: api.Call, Name: "f"}}}); s != "p(x, f[])" {
		t.Error(s)
	}
	bad := api.Expr{Kind: api.Make, Name: "A"}
	many := api.Expr{Kind: 9, Name: "p", Args: slices.Repeat([]api.Expr{bad}, 24)}
	_, e := script.Show(many)
	_, f := script.Show(api.Expr{Kind: api.Make, Name: "A", Args: []api.Expr{{Kind: 4}}})
	_, g := script.Show(api.Expr{Kind: api.Var, Name: "A", Args: []api.Expr{bad}})
	_, h := script.Show(api.Expr{Kind: api.Call, Name: "a", Args: []api.Expr{bad}})
	if e != api.ErrMany || f != api.ErrRange || g != api.ErrRange || h != api.ErrForm {
		t.Error(e, f, g, h)
	}
}

func TestDefs(t *testing.T) { // P8.3
	l, _, e := script.Defs(lists)
	from, to, f := script.Where(lists, "map")
	_, _, g := script.Where(lists, "q")
	if e != api.OK || f != api.OK || g != api.ErrNot || !slices.Equal(l, []string{"ones", "map", "zip"}) || !strings.HasPrefix(lists[from:to], "map[x] of") || !strings.HasSuffix(lists[from:to], "nil().") {
		t.Error(l, e, lists[from:to], f, g)
	}
	for i, x := range []struct {
		s, u, v string
		e       api.Errno
	}{
		{"f[] = a(). g[] = f[].", " f[] = b(). # x", "f[] = b(). g[] = f[].", api.OK}, {"", "f[] = a().", "f[] = a().\n", api.OK}, {"f[] = a(). # x", "g[] = f[].", "f[] = a(). # x\ng[] = f[].\n", api.OK}, {"f[] = q[].", "q[]=a().", "f[] = q[].\nq[]=a().\n", api.OK},
		{"f[", "f[", "", api.ErrForm}, {"f[] = a().", "f[", "", api.ErrForm}, {"f[] = a().", "f[] = a(). g[] = a().", "", api.ErrMany}, {"f[] = a().", "", "", api.ErrMany}, {"f[] = a().", "f[] = g[].", "", api.ErrNot}, {"f[]=a(). f[]=b(). g[]=f[].", "f[]=c().", "", api.ErrTwice},
		{strings.Repeat(" ", 65537), "", "", api.ErrLong}, {"f[] = a().", strings.Repeat(" ", 65537), "", api.ErrLong}, {strings.Repeat(" ", 65530), "f[] = a().", "", api.ErrLong}, {"f[]=g[]. h[]=f[]. f[]=k[].", "k[]=a().", "", api.ErrTwice},
	} {
		if v, e := script.Replace(x.s, x.u); v != x.v || e != x.e {
			t.Error(i, v, e)
		}
	}
	for i, x := range []struct {
		s, name, v string
		e          api.Errno
	}{
		{"f[] = a().\n\ng[] = f[].\n", "g", "f[] = a().\n\n", api.OK}, {"f[] = a().\n\ng[] = b().", "f", "\ng[] = b().", api.OK}, {"f[] = a(). \ng[] = b().", "f", " \ng[] = b().", api.OK}, {"f[] = a(). g[] = f[].", "f", "", api.ErrNot}, {"f[] = a().", "f", "", api.ErrMany}, {"f[] = a().", "g", "", api.ErrNot}, {"f[] = ", "g", "", api.ErrForm},
	} {
		if v, e := script.Drop(x.s, x.name); v != x.v || e != x.e {
			t.Error(i, v, e)
		}
	}
}

func TestPlace(t *testing.T) { // P8.4
	for i, x := range []struct {
		s           string
		at          int
		line, colum int
		e           api.Errno
	}{{"a\nbcd", 3, 2, 2, api.OK}, {"a\nbcd", 0, 1, 1, api.OK}, {"a\nbcd", 1, 1, 2, api.OK}, {"a\nbcd", 2, 2, 1, api.OK}, {"a\nbcd", 5, 2, 4, api.OK}, {"a\nbcd", 6, 0, 0, api.ErrRange}, {"", -1, 0, 0, api.ErrRange}, {"", 0, 1, 1, api.OK}, {strings.Repeat("\n", 65537), -1, 0, 0, api.ErrLong}} {
		if l, c, e := script.Place(x.s, x.at); l != x.line || c != x.colum || e != x.e {
			t.Error(i, l, c, e)
		}
	}
}

func TestQuote(t *testing.T) { // P8.5
	p, e := script.Quote(kit.List2())
	s, _ := script.Print(p)
	if e != api.OK || s != "na[] = cons(nb[], na[]).\nnb[] = a().\n" {
		t.Error(s, e)
	}
	var chain api.Tree
	for i := range 13 {
		chain.Nodes = append(chain.Nodes, n("s", i+1))
	}
	chain.Nodes[12] = n("a")
	_, e = script.Quote(chain)
	chain.Root = 1
	q, f := script.Quote(chain)
	if e != api.ErrMany || f != api.OK || q.Defs[11].Name != "nl" {
		t.Error(e, f)
	}
	for e, w := range kit.Wrong() {
		if _, f := script.Quote(w); f != e {
			t.Error(e, f)
		}
	}
}

func TestWhatFollows(t *testing.T) { // P8.6
	p, _, _ := script.Parse(lists)
	tokens, _, _ := script.Tokens(lists)
	var d kit.Dice
	for i := range 100 {
		var wide strings.Builder
		for _, x := range tokens {
			wide.WriteString([]string{" ", "\n", "# x[\n", "  "}[d.Roll(4)] + x.Text)
		}
		q, _, e := script.Parse(wide.String())
		if e != api.OK || !prog.Same(p, q) {
			t.Error(i, wide.String(), e)
		}
		// What is wrong before its end is wrong there, whatever is put behind it.
		cut := lists[:d.Roll(len(lists))] + []string{"!", ")", "abc", "=", "."}[d.Roll(5)] + lists[d.Roll(len(lists)):]
		if _, at, e := script.Parse(cut); e == api.ErrForm && at < len(cut)-1 {
			if _, to, f := script.Parse(cut + []string{"x", "(", "!"}[d.Roll(3)]); f != e || to != at {
				t.Error(cut, at, to, f)
			}
		}
	}
	r, _ := script.Replace(lists, "new[] = ones[].")
	s, e := script.Drop(r, "new")
	q, _, _ := script.Parse(s)
	if e != api.OK || !prog.Same(p, q) {
		t.Error(r, s, e)
	}
}
