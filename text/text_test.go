package text_test

import (
	"slices"
	"strings"
	"testing"

	"roundelay/alike"
	"roundelay/api"
	"roundelay/graph"
	"roundelay/kit"
	"roundelay/text"
	"roundelay/tree"
)

var n, tr = kit.N, kit.T

// all is a text of so many names.
func all(names int) string {
	return strings.Repeat("s(", names-1) + "a" + strings.Repeat(")", names-1)
}

func TestTokens(t *testing.T) { // P4.1
	l, at, e := text.Tokens(" 12=cons( a,# x\n1)#é")
	want := []text.Token{{1, text.Label, "12"}, {3, text.Is, "="}, {4, text.Name, "cons"}, {8, text.Open, "("}, {10, text.Name, "a"}, {11, text.Comma, ","}, {16, text.Label, "1"}, {17, text.Close, ")"}}
	if e != api.OK || at != 0 || !slices.Equal(l, want) {
		t.Error(l, at, e)
	}
	g, _, _ := text.Gaps(" 12=cons( a,# x\n1)#é")
	if !slices.Equal(g, []string{" ", "", "", "", " ", "", "# x\n", "", "#é"}) {
		t.Errorf("%q", g)
	}
	for _, x := range []struct {
		s  string
		at int
		e  api.Errno
	}{
		{"a\tb", 1, api.ErrForm}, {"abcdefghi", 8, api.ErrForm}, {"a 0", 2, api.ErrForm}, {"61", 1, api.ErrForm}, {"100", 2, api.ErrForm}, {"60a60", 0, api.OK}, {"aB", 1, api.ErrForm},
		{"", 0, api.OK}, {")(", 0, api.OK}, {strings.Repeat(" ", 65537), 0, api.ErrLong}, {strings.Repeat(" ", 65536), 0, api.OK}, {"\x00", 0, api.ErrForm}, {"a[", 1, api.ErrForm},
	} {
		_, at, e := text.Tokens(x.s)
		_, to, f := text.Gaps(x.s)
		if at != x.at || e != x.e || to != x.at || f != x.e {
			t.Error(x.s, at, e, to, f)
		}
	}
	none, _, _ := text.Gaps("")
	if !slices.Equal(none, []string{""}) {
		t.Error(none)
	}
}

func TestWeave(t *testing.T) { // P4.1
	a, b := text.Token{9, text.Name, "a"}, text.Token{9, text.Name, "b"}
	long := "#" + strings.Repeat("x", 65536)
	for i, x := range []struct {
		tokens []text.Token
		gaps   []string
		s      string
		e      api.Errno
	}{
		{[]text.Token{a, b}, []string{"", " ", "#"}, "a b#", api.OK}, {[]text.Token{a, b}, []string{"", "", ""}, "", api.ErrClash}, {[]text.Token{a}, []string{""}, "", api.ErrMany},
		{nil, nil, "", api.ErrMany}, {nil, []string{"# "}, "# ", api.OK}, {[]text.Token{{0, 7, "a"}}, []string{"", ""}, "", api.ErrForm}, {[]text.Token{{0, text.Label, "a"}}, []string{"", ""}, "", api.ErrForm},
		{[]text.Token{{0, text.Name, "a "}}, []string{"", ""}, "", api.ErrForm}, {[]text.Token{{0, text.Label, "61"}}, []string{"", ""}, "", api.ErrForm}, {[]text.Token{a}, []string{"", "\t"}, "", api.ErrForm},
		{[]text.Token{a}, []string{"#", ""}, "", api.ErrClash}, {[]text.Token{a}, []string{"#\n", "#"}, "#\na#", api.OK}, {[]text.Token{a, b}, []string{"", "", long}, "", api.ErrClash},
		{[]text.Token{a}, []string{"", long}, "", api.ErrLong}, {[]text.Token{{0, 2, "6"}, {0, 2, "1"}}, []string{"", "", ""}, "", api.ErrClash}, {[]text.Token{a, {0, 0, ""}}, []string{"", "", ""}, "", api.ErrForm},
	} {
		if s, e := text.Weave(x.tokens, x.gaps); s != x.s || e != x.e {
			t.Error(i, s, e)
		}
	}
}

func TestParse(t *testing.T) { // P4.2
	for _, x := range []struct {
		s  string
		at int
		e  api.Errno
	}{
		{"a(b", 3, api.ErrForm}, {"a(2)", 3, api.ErrForm}, {"1=a(1=b)", 5, api.ErrForm}, {"a b", 2, api.ErrForm}, {"61=a", 1, api.ErrForm}, {"a(b,c,d,e,f)", 9, api.ErrForm}, {"Abc", 0, api.ErrForm},
		{"abcdefghi", 8, api.ErrForm}, {"", 0, api.ErrForm}, {"a#(b", 0, api.OK}, {"1=1", 2, api.ErrForm}, {"a()", 2, api.ErrForm}, {"a(b,)", 4, api.ErrForm}, {"a)", 1, api.ErrForm}, {"a,b", 1, api.ErrForm},
		{"a abcdefghi", 2, api.ErrForm}, {"1", 1, api.ErrForm}, {"1=", 2, api.ErrForm}, {"a(1", 3, api.ErrForm}, {"p(1=a,1(b))", 7, api.ErrForm}, {"(", 0, api.ErrForm}, {"a= b", 1, api.ErrForm},
		{all(60), 0, api.OK}, {all(61), 120, api.ErrMany}, {strings.Repeat("s(", 60) + "abcdefghi", 120, api.ErrMany}, {strings.Repeat("s(", 59) + "a a", 120, api.ErrForm}, {strings.Repeat(" ", 65537), 0, api.ErrLong},
	} {
		_, a, e := text.Parse(x.s)
		_, b, f := text.Tidy(x.s)
		_, c, g := text.Labels(x.s)
		_, h := text.Same("a", x.s)
		if e != x.e || f != x.e || g != x.e || h != x.e || a != x.at || b != x.at || c != x.at {
			t.Error(x.s, a, b, c, e, f, g, h)
		}
	}
	u, _, _ := text.Parse("7 = cons( a , 7 ) # endless")
	tidy, _, _ := text.Tidy("7 = cons( a , 7 ) # endless")
	l, _, _ := text.Labels("7=cons(60=a,2=b)")
	if !graph.Same(u, kit.List()) || tidy != "1=cons(a,1)" || !slices.Equal(l, []int{7, 60, 2}) {
		t.Error(u, tidy, l)
	}
	for i, x := range []struct {
		t        api.Tree
		s, plain string
	}{
		{tr(n("p", 1, 1), n("a")), "p(1=a,1)", "p(1=a,1)"}, {tr(n("p", 1, 2), n("a"), n("a")), "p(a,a)", "p(1=a,1)"}, {kit.List2(), "1=cons(2=a,cons(2,1))", "1=cons(a,1)"},
		{api.Tree{Nodes: []api.Node{n("a"), n("p", 2, 2), n("s", 1)}, Root: 1}, "1=p(2=s(1),2)", "1=p(2=s(1),2)"},
	} {
		s, e := text.Print(x.t)
		p, f := text.Plain(x.t)
		if s != x.s || p != x.plain || e != api.OK || f != api.OK {
			t.Error(i, s, p, e, f)
		}
	}
	for e, w := range kit.Wrong() {
		_, f := text.Print(w)
		_, g := text.Plain(w)
		if f != e || g != e {
			t.Error(e, f, g)
		}
	}
	is, e := text.Same("1=cons(a,1)", "1=cons(a,cons(a,1))")
	not, _ := text.Same("a", "b")
	_, f := text.Same("a(", all(61))
	if !is || e != api.OK || not || f != api.ErrForm {
		t.Error(is, e, not, f)
	}
}

func TestWhere(t *testing.T) { // P4.3
	s := "p(1=s(a), 1)"
	for i, x := range []struct {
		path     []int
		from, to int
		e        api.Errno
	}{
		{[]int{0}, 4, 8, api.OK}, {[]int{1, 0}, 6, 7, api.OK}, {nil, 0, 12, api.OK}, {[]int{2}, 0, 0, api.ErrNot}, {[]int{-1}, 0, 0, api.ErrNot}, {[]int{0, 0, 0}, 0, 0, api.ErrNot}, {kit.Long(), 0, 0, api.ErrMany},
	} {
		if from, to, e := text.Where(s, x.path); from != x.from || to != x.to || e != x.e {
			t.Error(i, from, to, e)
		}
	}
	if _, _, e := text.Where("a(", kit.Long()); e != api.ErrForm {
		t.Error(e)
	}
}

func TestChange(t *testing.T) { // P4.3
	for i, x := range []struct {
		s    string
		path []int
		u, v string
		e    api.Errno
	}{
		{"p(1=s(a), 1)", []int{0}, "2=t(2)", "p(1=t(1), 1)", api.OK}, {"p(1=s(a), 1)", []int{0, 0}, "9=u(9)", "p(1=s(2=u(2)), 1)", api.OK}, {"p(s(1=a),1)", []int{0}, "b", "", api.ErrClash},
		{" # x\np ( a )", []int{0}, " # y\n 3 = q(4=b,4,3) # z", " # x\np ( 1 = q(2=b,2,1) )", api.OK}, {"p(7=a,7)", []int{0}, "3 =#\n q(4=b,4,3)", "p(7=q(1=b,1,7),7)", api.OK},
		{"p(7=a,7)", []int{1}, "b(5=c,5)", "p(7=b(1=c,1),7)", api.OK}, {"1=p(2=s(3=a,3),2)", []int{0}, "2=b(9=c(2,9),8=d,8)", "1=p(2=b(3=c(2,3),4=d,4),2)", api.OK}, {"p(s(1=a,1),b)", []int{0}, "2=s(2)", "p(1=s(1),b)", api.OK},
		{"a", nil, "1=s(1)", "1=s(1)", api.OK}, {"a(", []int{9}, "(", "", api.ErrForm}, {"a", []int{9}, "(", "", api.ErrForm}, {"a", []int{9}, "b", "", api.ErrNot}, {"a", kit.Long(), "b", "", api.ErrMany},
		{"p(s(1=a),1,2=b)", []int{7}, "b", "", api.ErrNot}, {all(60), []int{0}, all(60), "", api.ErrMany}, {all(60), []int{0}, all(59), all(60), api.OK},
		{"a" + strings.Repeat(" ", 65535), nil, "bb", "", api.ErrLong}, {"a", nil, strings.Repeat(" ", 65530) + "b", "b", api.OK},
	} {
		if v, e := text.Change(x.s, x.path, x.u); v != x.v || e != x.e {
			t.Error(i, v, e)
		}
	}
}

func TestWhatFollows(t *testing.T) { // P4.4
	var d kit.Dice
	for i := range 300 {
		u, v := d.Tree(7), d.Tree(7)
		s, _ := text.Print(u)
		w, _, e := text.Parse(s)
		again, _ := text.Print(w)
		x, _ := text.Plain(u)
		y, _ := text.Plain(v)
		is, _ := alike.Alike(u, v)
		reached, _ := tree.Reach(u)
		same, _ := alike.Alike(u, w)
		if e != api.OK || again != s || is != (x == y) || len(w.Nodes) != len(reached) || !same {
			t.Error(i, s, again, x, y, is)
		}
		tokens, _, _ := text.Tokens(s)
		gaps, _, _ := text.Gaps(s)
		woven, _ := text.Weave(tokens, gaps)
		for j := range gaps {
			gaps[j] += []string{"", " ", "#x\n", "\n"}[d.Roll(4)]
		}
		wide, _ := text.Weave(tokens, gaps)
		t2, _, _ := text.Parse(wide)
		if woven != s || !graph.Same(t2, w) {
			t.Error(i, woven, wide)
		}
		if path := []int{d.Roll(2)}; d.Roll(2) == 0 {
			r, _ := text.Print(v)
			if c, e := text.Change(s, path, r); e == api.OK {
				from, to, _ := text.Where(s, path)
				if label := s[from] < 'a' || !strings.HasPrefix(c, s[:from]) || !strings.HasSuffix(c, s[to:]); label {
					t.Error(i, s, c, from, to)
				}
				if root, _, _ := text.Where(s, nil); from == root {
					continue // the path meets a label alone
				}
				if first, _, e := text.Where(s, []int{0}); e == api.OK && path[0] == 1 && first == from {
					continue
				}
				got, _, _ := text.Parse(c)
				at, _ := tree.At(got, path)
				if is, _ := alike.Alike(at, v); !is {
					t.Error(i, s, path, r, c)
				}
			}
		}
	}
}
