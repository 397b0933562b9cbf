package regex_test

import (
	"slices"
	"strings"
	"testing"

	"roundelay/api"
	"roundelay/graph"
	"roundelay/kit"
	"roundelay/lasso"
	"roundelay/regex"
)

var n, tr = kit.N, kit.T

// rx is the expression of a text.
func rx(s string) api.Tree {
	t, _, e := regex.Parse(s)
	if e != api.OK {
		panic(s)
	}
	return t
}

// roll returns the text of an expression.
func roll(d *kit.Dice, deep int) string {
	if deep == 0 {
		return []string{"0", "1", "a", "b", "a", "b"}[d.Roll(6)]
	}
	x, y := roll(d, deep-1), roll(d, deep-1-d.Roll(deep))
	return []string{"(" + x + "|" + y + ")", "(" + x + "&" + y + ")", "(" + x + ")(" + y + ")", "(" + x + ")(" + y + ")", "(" + x + ")*", "!(" + x + ")"}[d.Roll(6)]
}

func TestCheck(t *testing.T) { // P15.1
	var big api.Tree
	for i := range 25 {
		big.Nodes = append(big.Nodes, n("star", i+1))
	}
	big.Nodes[24] = n("a")
	for i, x := range []struct {
		t api.Tree
		e api.Errno
	}{
		{rx("a(b|c)*"), api.OK}, {tr(n("A")), api.ErrForm}, {tr(), api.ErrMany}, {tr(n("alt", 1, 9), n("a")), api.ErrNot}, {api.Tree{Nodes: slices.Repeat([]api.Node{n("a")}, 25)}, api.ErrMany}, {big, api.ErrMany}, {tr(n("e")), api.ErrForm}, {tr(n("a", 0)), api.ErrForm}, {tr(n("star", 0)), api.ErrForm}, {tr(n("alt", 1, 1), n("a")), api.ErrForm},
		{tr(n("alt", 2, 1), n("a"), n("b")), api.ErrForm}, {tr(n("a"), n("b")), api.ErrForm}, {api.Tree{Nodes: []api.Node{n("a"), n("star", 0)}, Root: 1}, api.ErrForm}, {tr(n("cat", 1, 2), n("a"), n("star")), api.ErrForm}, {tr(n("yes", 1), n("a")), api.ErrForm},
	} {
		e := regex.Check(x.t)
		if e != x.e {
			t.Error(i, e)
		}
		if e == api.OK {
			continue
		}
		_, e1 := regex.Print(x.t)
		_, e2 := regex.Null(x.t)
		_, e3 := regex.Accepts(x.t, "?")
		_, e4 := regex.Derive(x.t, 9)
		_, e5 := regex.Auto(x.t, 9)
		_, e6 := regex.Same(x.t, tr(), 9)
		_, e7 := regex.Same(rx("a"), x.t, 9)
		_, e8 := regex.Apart(rx("a"), x.t, 9)
		for j, f := range []api.Errno{e1, e2, e3, e4, e5, e6, e7, e8} {
			if f != e {
				t.Error(i, j, f)
			}
		}
	}
}

func TestParse(t *testing.T) { // P15.2
	if u := rx("a(b|c)*"); !graph.Same(u, tr(n("cat", 1, 2), n("a"), n("star", 3), n("alt", 4, 5), n("b"), n("c"))) {
		t.Error(u)
	}
	for _, x := range []struct {
		s, p string
		at   int
		e    api.Errno
	}{
		{"abc", "abc", 0, api.OK}, {"a(bc)", "a(bc)", 0, api.OK}, {"(ab)c", "abc", 0, api.OK}, {"a|b&cd", "a|b&cd", 0, api.OK}, {"(a|b)&c", "(a|b)&c", 0, api.OK}, {"((a&b))c", "(a&b)c", 0, api.OK}, {"a|(b|c)", "a|(b|c)", 0, api.OK}, {"(a&b)&c|d", "a&b&c|d", 0, api.OK}, {"!ab", "!ab", 0, api.OK}, {"!(ab)", "!(ab)", 0, api.OK}, {"(!a)*", "(!a)*", 0, api.OK}, {"!(a*)", "!a*", 0, api.OK},
		{"a(!b)", "a!b", 0, api.OK}, {"!(!a)", "!!a", 0, api.OK}, {"(a*)*", "a**", 0, api.OK}, {"(ab)*", "(ab)*", 0, api.OK}, {"0|1", "0|1", 0, api.OK}, {"!(a|b)", "!(a|b)", 0, api.OK}, {"(((d)))", "d", 0, api.OK},
		{"a(b|", "", 4, api.ErrForm}, {"a|*b", "", 2, api.ErrForm}, {"", "", 0, api.ErrForm}, {"a)", "", 1, api.ErrForm}, {"(a", "", 2, api.ErrForm}, {"ae", "", 1, api.ErrForm}, {"a b", "", 1, api.ErrForm}, {"!", "", 1, api.ErrForm}, {"a&", "", 2, api.ErrForm}, {"()", "", 1, api.ErrForm}, {"a\x00", "", 1, api.ErrForm}, {"(a\x00", "", 2, api.ErrForm}, {"(a)b)", "", 4, api.ErrForm},
		{strings.Repeat("a", 1001), "", 0, api.ErrLong}, {strings.Repeat("a", 1000), "", 0, api.ErrMany}, {strings.Repeat("a", 999) + "(", "", 1000, api.ErrForm}, {strings.Repeat("a", 12), strings.Repeat("a", 12), 0, api.OK}, {strings.Repeat("a", 12) + "*", "", 0, api.OK}, {strings.Repeat("a", 13), "", 0, api.ErrMany},
	} {
		u, at, e := regex.Parse(x.s)
		if at != x.at || e != x.e {
			t.Error(x.s, at, e)
		}
		if p, _ := regex.Print(u); e == api.OK && x.p != "" && p != x.p {
			t.Error(x.s, p)
		}
	}
}

func TestWords(t *testing.T) { // P15.3
	for _, x := range []struct {
		s, w string
		is   bool
		e    api.Errno
	}{
		{"(a|b)*a", "abba", true, api.OK}, {"(a|b)*a", "ab", false, api.OK}, {"!(ab)", "ab", false, api.OK}, {"!(ab)", "d", true, api.OK}, {"0*", "", true, api.OK}, {"1", "", true, api.OK}, {"(ab)*&!1", "", false, api.OK}, {"(ab)*&!1", "abab", true, api.OK}, {"a", strings.Repeat("?", 41), false, api.ErrLong}, {"a*", strings.Repeat("a", 40), true, api.OK}, {"a", "e", false, api.ErrForm}, {"a", "A", false, api.ErrForm},
	} {
		is, e := regex.Accepts(rx(x.s), x.w)
		null, _ := regex.Null(rx(x.s))
		empty, _ := regex.Accepts(rx(x.s), "")
		if is != x.is || e != x.e || null != empty {
			t.Error(x.s, x.w, is, e, null)
		}
	}
}

func TestDerive(t *testing.T) { // P15.4
	for _, x := range []struct {
		s      string
		letter int
		d      string
		e      api.Errno
	}{
		{"(ab)*", 0, "b(ab)*", api.OK}, {"(ab)*", 1, "0", api.OK}, {"a*b", 0, "a*b", api.OK}, {"a*b", 1, "1", api.OK}, {"a|ab", 0, "1|b", api.OK}, {"!a", 0, "!1", api.OK}, {"!!a", 0, "1", api.OK}, {"ab&ac", 0, "b&c", api.OK}, {"ab&ab", 0, "b", api.OK}, {"a|a", 0, "1", api.OK}, {"1a", 0, "1", api.OK}, {"1", 2, "0", api.OK}, {"(a|1)ac", 0, "(a|1)c", api.OK}, {"d", 3, "1", api.OK}, {"(ab)1", 0, "b", api.OK}, {"a1", 0, "1", api.OK},
		{"a", 4, "", api.ErrRange}, {"a", -1, "", api.ErrRange}, {"(abcd|abdc)*(ab)*", 0, "", api.ErrMany},
	} {
		u, e := regex.Derive(rx(x.s), x.letter)
		if p, _ := regex.Print(u); e != x.e || e == api.OK && p != x.d {
			t.Error(x.s, p, e)
		}
	}
}

func TestAuto(t *testing.T) { // P15.5
	a, e := regex.Auto(rx("(a|b)*a"), 2)
	none, f := regex.Auto(rx("0"), 2)
	part, _ := regex.Auto(rx("a|c"), 2)
	if e != api.OK || f != api.OK || !graph.Same(a, tr(n("no", 1, 0), n("yes", 1, 0))) || !graph.Same(none, tr(n("no", 0, 0))) || kit.S(part) != "no(yes(1=no(1,1),1),1)" {
		t.Error(a, none, kit.S(part))
	}
	_, e1 := regex.Auto(rx("a"), 0)
	_, e2 := regex.Auto(rx("a"), 5)
	_, e3 := regex.Auto(rx("(a|b)*a(a|b)(a|b)(a|b)(a|b)"), 2)
	_, e4 := regex.Auto(rx("!0a(a|b)(a|b)(a|b)(a|b)(a|b)"), 2)
	_, e5 := regex.Same(rx("a"), rx("!0a(a|b)(a|b)(a|b)(a|b)(a|b)"), 2)
	if e1 != api.ErrRange || e2 != api.ErrRange || e3 != api.OK || e4 != api.ErrMany || e5 != api.ErrMany {
		t.Error(e1, e2, e3, e4, e5)
	}
	for i, x := range []struct {
		t api.Tree
		k int
		e api.Errno
	}{
		{a, 2, api.OK}, {tr(n("yes", 0)), 1, api.OK}, {tr(n("no", 0, 0, 0, 0), n("x")), 4, api.OK}, {tr(n("yes")), 0, api.ErrForm}, {tr(n("yes", 1), n("yes", 0, 0)), 0, api.ErrForm}, {tr(n("maybe", 0)), 0, api.ErrForm}, {tr(), 0, api.ErrMany}, {tr(n("A", 0)), 0, api.ErrForm}, {tr(n("yes", 7)), 0, api.ErrNot},
	} {
		k, e := regex.Letters(x.t)
		if k != x.k || e != x.e {
			t.Error(i, k, e)
		}
		if e == api.OK {
			continue
		}
		_, f1 := regex.Run(x.t, "?")
		_, f2 := regex.Words(x.t, 99)
		_, f3 := regex.Count(x.t, 99)
		_, f4 := regex.Finite(x.t)
		_, f5 := regex.Beat(x.t)
		if !slices.Equal([]api.Errno{f1, f2, f3, f4, f5}, slices.Repeat([]api.Errno{e}, 5)) {
			t.Error(i, f1, f2, f3, f4, f5)
		}
	}
	is, e := regex.Run(a, "aba")
	_, f = regex.Run(a, "c")
	_, g := regex.Run(a, strings.Repeat("c", 41))
	if !is || e != api.OK || f != api.ErrForm || g != api.ErrLong {
		t.Error(is, e, f, g)
	}
	of, e := regex.Of([]string{"a", "ba", "a"}, 2)
	want, _ := regex.Auto(rx("a|ba"), 2)
	nothing, f := regex.Of(nil, 2)
	if e != api.OK || f != api.OK || !graph.Same(of, want) || !graph.Same(nothing, none) {
		t.Error(of, nothing)
	}
	bad := []string{strings.Repeat("c", 41), "c"}
	_, e1 = regex.Of(slices.Repeat(bad, 7), 0)
	_, e2 = regex.Of(slices.Repeat(bad, 7), 2)
	_, e3 = regex.Of(bad, 2)
	_, e4 = regex.Of(bad[1:], 2)
	_, e5 = regex.Of([]string{strings.Repeat("a", 40), strings.Repeat("b", 40)}, 2)
	_, e6 := regex.Of(bad[1:], 3)
	if e1 != api.ErrRange || e2 != api.ErrMany || e3 != api.ErrLong || e4 != api.ErrForm || e5 != api.ErrMany || e6 != api.OK {
		t.Error(e1, e2, e3, e4, e5, e6)
	}
}

func TestApart(t *testing.T) { // P15.6
	is, e := regex.Same(rx("(a|b)*"), rx("(a*b*)*"), 2)
	yes, _ := regex.Same(rx("a"), rx("a|c"), 2)
	not, _ := regex.Same(rx("a"), rx("a|c"), 3)
	w, f := regex.Apart(rx("a*"), rx("(aa)*"), 1)
	_, g := regex.Apart(rx("a"), rx("a|c"), 2)
	_, h := regex.Apart(rx("a"), rx("a"), 0)
	empty, k := regex.Apart(rx("a*"), rx("aa*"), 1)
	if !is || e != api.OK || !yes || not || w != "a" || f != api.OK || g != api.ErrNone || h != api.ErrRange || empty != "" || k != api.OK {
		t.Error(is, e, yes, not, w, f, g, h, empty, k)
	}
}

func TestLists(t *testing.T) { // P15.7
	auto := func(s string, k int) api.Tree { a, _ := regex.Auto(rx(s), k); return a }
	for _, x := range []struct {
		s      string
		k, n   int
		want   string
		finite bool
	}{
		{"(ab)*", 2, 3, ",ab,abab", false}, {"ab|b", 2, 9, "b,ab", true}, {"0", 2, 9, "-", true}, {"a|b|aa", 2, 2, "a,b", true}, {"!0", 2, 8, ",a,b,aa,ab,ba,bb,aaa", false}, {"aaaaaaaa*", 1, 2, "aaaaaaa,aaaaaaaa", false}, {"(aaaaaaaaa)*", 1, 3, "," + strings.Repeat("a", 9) + "," + strings.Repeat("a", 18), false}, {"a", 2, 0, "-", true},
	} {
		l, e := regex.Words(auto(x.s, x.k), x.n)
		got := strings.Join(l, ",")
		if len(l) == 0 {
			got = "-"
		}
		if is, f := regex.Finite(auto(x.s, x.k)); e != api.OK || f != api.OK || got != x.want || is != x.finite {
			t.Error(x.s, got, e, is, f)
		}
	}
	c, e := regex.Count(auto("(a|b)*a", 2), 5)
	all, _ := regex.Count(auto("!0", 4), 30)
	_, f := regex.Count(auto("a", 1), 31)
	_, g := regex.Count(auto("a", 1), -1)
	_, h := regex.Words(auto("a", 1), 21)
	_, k := regex.Words(auto("a", 1), -1)
	if c != 16 || e != api.OK || all != 1<<60 || f != api.ErrRange || g != api.ErrRange || h != api.ErrRange || k != api.ErrRange {
		t.Error(c, e, all, f, g, h, k)
	}
	b, e := regex.Beat(auto("a(aaa)*", 1))
	_, f = regex.Beat(auto("a", 2))
	if e != api.OK || !slices.Equal(b.Round, []int{0, 1, 0}) || len(b.Stem) > 0 || b.Mod != 2 || f != api.ErrRange {
		t.Error(b, e, f)
	}
	// A node that is not reached does not matter.
	two := api.Tree{Nodes: []api.Node{n("yes", 0), n("no", 2), n("yes", 1)}, Root: 1}
	b, _ = regex.Beat(two)
	if is, _ := lasso.Same(b, api.Lasso{Mod: 2, Round: []int{0, 1}}); !is {
		t.Error(b)
	}
}

func TestWhatFollows(t *testing.T) { // P15.8
	var d kit.Dice
	var words []string
	for _, w := range []string{"", "a", "b", "aa", "ab", "ba", "bb", "aab", "aba", "abb", "bab", "abab", "bbaa", "ababa"} {
		words = append(words, w)
	}
	for i := range 500 {
		s := roll(&d, 3)
		u, _, e := regex.Parse(s)
		if e != api.OK {
			continue
		}
		p, _ := regex.Print(u)
		v := rx(p)
		if !graph.Same(u, v) || len(p) > len(s) {
			t.Error(s, p)
		}
		a, e := regex.Auto(u, 2)
		if e != api.OK {
			t.Error(s, e)
			continue
		}
		many := map[int]int{}
		for _, w := range words {
			is, _ := regex.Accepts(u, w)
			run, _ := regex.Run(a, w)
			x := u
			for j := range len(w) {
				var e api.Errno
				if x, e = regex.Derive(x, int(w[j]-'a')); e != api.OK {
					x = api.Tree{}
					break
				}
			}
			if null, e := regex.Null(x); is != run || e == api.OK && null != is {
				t.Fatal(s, w, is, run, null)
			}
			if is {
				many[len(w)]++
			}
		}
		for l := range 3 {
			if c, _ := regex.Count(a, l); c != many[l] {
				t.Error(s, l, c, many[l])
			}
		}
		not, _ := regex.Auto(rx("!("+s+")"), 2)
		same, _ := regex.Same(u, rx("!!("+s+")"), 2)
		if len(not.Nodes) != len(a.Nodes) || not.Nodes[0].Name == a.Nodes[0].Name || !same {
			t.Error(i, s, not, a)
		}
		o, _, _ := regex.Parse(roll(&d, 2))
		if w, e := regex.Apart(u, o, 2); e == api.OK {
			x, _ := regex.Accepts(u, w)
			y, _ := regex.Accepts(o, w)
			if x == y {
				t.Error(s, w)
			}
		}
	}
}
