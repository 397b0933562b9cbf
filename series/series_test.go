package series_test

import (
	"fmt"
	"slices"
	"strings"
	"testing"

	"roundelay/api"
	"roundelay/field"
	"roundelay/kit"
	"roundelay/lasso"
	"roundelay/regex"
	"roundelay/series"
)

type mat = [][]int

func wt(letters int, start, end []int, steps ...mat) api.Weighted {
	return api.Weighted{Letters: letters, Start: start, End: end, Steps: steps}
}

// eq compares things, where nil lists are as empty ones.
func eq(a, b any) bool { return fmt.Sprint(a) == fmt.Sprint(b) }

// roll returns an automaton.
func roll(d *kit.Dice, letters, states int) api.Weighted {
	n := d.Roll(states + 1)
	row := func() []int {
		l := make([]int, n)
		for i := range l {
			l[i] = []int{0, 0, 1, 2, 65520}[d.Roll(5)]
		}
		return l
	}
	w := wt(letters, row(), row())
	for range letters {
		m := make(mat, n)
		for i := range m {
			m[i] = row()
		}
		w.Steps = append(w.Steps, m)
	}
	return w
}

// all is all words of two letters, up to a length, in order.
func all(length int) []string {
	l := []string{""}
	for i := 0; i < len(l); i++ {
		if len(l[i]) < length {
			l = append(l, l[i]+"a", l[i]+"b")
		}
	}
	return l
}

func weight(a api.Weighted, w string) int { x, _ := series.Weight(a, w); return x }

// count is one letter, where the word of n letters has the weight n.
func count() api.Weighted { return wt(1, []int{1, 0}, []int{0, 1}, mat{{1, 1}, {0, 1}}) }

// two is two letters, 2 and 3.
func two() api.Weighted { return wt(2, []int{1}, []int{1}, mat{{2}}, mat{{3}}) }

func TestCheck(t *testing.T) { // P17.1
	long := make([]int, 13)
	big := wt(1, long[:12], long[:12], slices.Repeat(mat{long[:12]}, 12))
	for i, x := range []struct {
		a api.Weighted
		e api.Errno
	}{
		{count(), api.OK}, {wt(1, nil, nil, nil), api.OK}, {big, api.OK}, {wt(0, long, nil), api.ErrRange}, {wt(5, long, nil), api.ErrRange}, {wt(1, long, nil), api.ErrMany}, {wt(1, []int{-1}, nil, mat{{1}}), api.ErrForm}, {wt(2, []int{-1}, []int{1}, mat{{1}}), api.ErrForm}, {wt(1, []int{-1}, []int{1}, mat{{1}, {1}}), api.ErrForm}, {wt(1, []int{-1}, []int{1}, mat{{1, 1}}), api.ErrForm},
		{wt(1, []int{-1}, []int{1}, mat{{1}}), api.ErrRange}, {wt(1, []int{1}, []int{65521}, mat{{1}}), api.ErrRange}, {wt(1, []int{1}, []int{1}, mat{{-1}}), api.ErrRange},
	} {
		e := series.Check(x.a)
		_, e1 := series.Weight(x.a, "?")
		_, e2 := series.Sum(x.a, two())
		_, e3 := series.Scale(x.a, 1)
		_, e4 := series.Both(two(), x.a)
		_, e5 := series.Product(two(), x.a)
		_, e6 := series.Star(x.a)
		_, e7 := series.Left(x.a, 9)
		_, e8 := series.Turned(x.a)
		_, e9 := series.Least(x.a)
		_, f1 := series.Chosen(x.a)
		_, f2 := series.Same(two(), x.a)
		_, f3 := series.Apart(x.a, two())
		_, f4 := series.Lengths(x.a)
		_, f5 := series.Rule(x.a)
		got := []api.Errno{e1, e2, e3, e4, e5, e6, e7, e8, e9, f1, f2, f3, f4, f5}
		if e != x.e || e != api.OK && !slices.Equal(got, slices.Repeat([]api.Errno{e}, 14)) {
			t.Error(i, e, got)
		}
		if e == api.OK && (e2 != api.ErrClash || e4 != api.ErrClash || e5 != api.ErrClash || f2 != api.ErrClash || f3 != api.ErrClash || e7 != api.ErrRange) {
			t.Error(i, got)
		}
	}
}

func TestWeight(t *testing.T) { // P17.2
	a, e := series.Weight(two(), "abb")
	_, f := series.Weight(two(), "c")
	_, g := series.Weight(two(), strings.Repeat("c", 41))
	b, h := series.Weight(count(), strings.Repeat("a", 40))
	none, _ := series.Weight(wt(1, nil, nil, nil), "aa")
	empty, _ := series.Weight(two(), "")
	if a != 18 || e != api.OK || f != api.ErrForm || g != api.ErrLong || b != 40 || h != api.OK || none != 0 || empty != 1 {
		t.Error(a, e, f, g, b, h, none, empty)
	}
}

func TestLeast(t *testing.T) { // P17.3
	c, _ := series.Chosen(count())
	l, e := series.Least(count())
	none, f := series.Least(wt(2, []int{1}, []int{0}, mat{{1}}, mat{{1}}))
	if e != api.OK || f != api.OK || !slices.Equal(c, []string{"", "a"}) || !eq(l, wt(1, []int{1, 0}, []int{0, 1}, mat{{0, 1}, {65520, 2}})) || !eq(none, wt(2, nil, nil, nil, nil)) {
		t.Error(c, l, none)
	}
	// The empty word need not be the only one: b comes before aa.
	x := wt(2, []int{1, 0, 0}, []int{0, 0, 1}, mat{{0, 1, 0}, {0, 0, 0}, {0, 0, 0}}, mat{{0, 0, 1}, {0, 0, 1}, {0, 0, 0}})
	c, _ = series.Chosen(x)
	if !slices.Equal(c, []string{"", "a", "b"}) {
		t.Error(c)
	}
	is, e := series.Same(count(), l)
	not, _ := series.Same(count(), wt(1, []int{1, 0}, []int{0, 1}, mat{{1, 1}, {0, 2}}))
	w, g := series.Apart(count(), wt(1, []int{1, 0}, []int{0, 1}, mat{{1, 1}, {0, 2}}))
	_, h := series.Apart(count(), l)
	if !is || e != api.OK || not || w != "aa" || g != api.OK || h != api.ErrNone {
		t.Error(is, e, not, w, g, h)
	}
}

// twelve is a series of one letter with as many states as are allowed.
func twelve(last int) api.Weighted {
	by := make([]int, 12)
	by[11] = last
	start := make([]int, 12)
	start[11] = 1
	w, _ := series.OfRule(api.Recurrence{By: by, Start: start})
	return w
}

func TestMade(t *testing.T) { // P17.4
	var d kit.Dice
	for i := range 400 {
		a, b := roll(&d, 2, 3), roll(&d, 2, 3)
		by := d.Roll(1000) - 500
		s, e1 := series.Sum(a, b)
		k, e2 := series.Scale(a, by)
		h, e3 := series.Both(a, b)
		p, e4 := series.Product(a, b)
		l, e5 := series.Left(a, 1)
		u, e6 := series.Turned(a)
		if e1 != api.OK || e2 != api.OK || e3 != api.OK || e4 != api.OK || e5 != api.OK || e6 != api.OK {
			t.Fatal(i, e1, e2, e3, e4, e5, e6)
		}
		for _, w := range all(4) {
			x, y := weight(a, w), weight(b, w)
			cut := 0
			for j := range len(w) + 1 {
				cut += weight(a, w[:j]) * weight(b, w[j:])
			}
			turned := []byte(w)
			slices.Reverse(turned)
			if weight(s, w) != (x+y)%field.P || weight(k, w) != field.Norm(x*by) || weight(h, w) != x*y%field.P || weight(p, w) != cut%field.P || weight(l, w) != weight(a, "b"+w) || weight(u, w) != weight(a, string(turned)) {
				t.Fatal(i, w, a, b)
			}
		}
		a.End = make([]int, len(a.Start))
		if len(a.End) > 1 {
			a.Start[0], a.End[0], a.End[1] = 0, 1, 0
		}
		st, e := series.Star(a)
		if e != api.OK {
			t.Fatal(i, e)
		}
		stars := map[string]int{}
		for _, w := range all(4) {
			sum := 0
			if w == "" {
				sum = 1
			}
			for j := 1; j <= len(w); j++ {
				sum += weight(a, w[:j]) * stars[w[j:]]
			}
			stars[w] = sum % field.P
			if weight(st, w) != stars[w] {
				t.Fatal(i, w, a, st)
			}
		}
	}
	_, e1 := series.Star(two())
	_, e2 := series.Left(two(), 2)
	_, e3 := series.Left(two(), -1)
	_, e4 := series.Sum(twelve(1), twelve(2))
	_, e5 := series.Product(twelve(1), twelve(2))
	_, e6 := series.Both(twelve(1), twelve(1))
	_, e7 := series.Star(twelve(1))
	if e1 != api.ErrClash || e2 != api.ErrRange || e3 != api.ErrRange || e4 != api.ErrMany || e5 != api.ErrMany || e6 != api.OK || e7 != api.OK && e7 != api.ErrMany {
		t.Error(e1, e2, e3, e4, e5, e6, e7)
	}
	one, _ := series.Star(wt(1, []int{1, 0}, []int{0, 2}, mat{{0, 1}, {0, 0}}))
	if !eq(one, wt(1, []int{1}, []int{1}, mat{{2}})) {
		t.Error(one)
	}
}

func TestOneLetter(t *testing.T) { // P17.5
	r, e := series.Lengths(count())
	l, _ := series.Lengths(two())
	left, _ := series.Left(two(), 1)
	if e != api.OK || !eq(r, api.Recurrence{By: []int{2, 65520}, Start: []int{0, 1}}) || !eq(l, api.Recurrence{By: []int{5}, Start: []int{1}}) || !eq(left, wt(2, []int{1}, []int{3}, mat{{2}}, mat{{3}})) {
		t.Error(r, l, left)
	}
	fib := api.Recurrence{By: []int{1, 1}, Start: []int{0, 1}}
	f, e := series.OfRule(fib)
	back, g := series.Rule(f)
	_, h := series.Rule(two())
	_, k := series.OfRule(api.Recurrence{By: []int{1}})
	if e != api.OK || g != api.OK || h != api.ErrRange || k != api.ErrForm || !eq(f, wt(1, []int{1, 0}, []int{0, 1}, mat{{0, 1}, {1, 1}})) || !eq(back, fib) {
		t.Error(f, back, h, k)
	}
	if p, _ := series.Product(f, f); weight(p, "aaaa") != 5 {
		t.Error(p)
	}
	s, e := series.OfLasso(api.Lasso{Mod: field.P, Stem: []int{7}, Round: []int{1, 2, 3}})
	_, g = series.OfLasso(api.Lasso{Mod: 2, Round: []int{1}})
	_, h = series.OfLasso(api.Lasso{Mod: 2})
	round := make([]int, 120)
	round[0] = 1
	_, k = series.OfLasso(api.Lasso{Mod: field.P, Stem: make([]int, 60), Round: round})
	if e != api.OK || g != api.ErrClash || h != api.ErrMany || k != api.ErrMany || weight(s, "") != 7 || weight(s, "aaaaa") != 2 || weight(s, strings.Repeat("a", 40)) != 1+39%3 {
		t.Error(s, e, g, h, k)
	}
}

func TestLanguages(t *testing.T) { // P17.6
	of, _ := regex.Of([]string{"a", "ba"}, 2)
	rx, _, _ := regex.Parse("(a|b)*a")
	auto, _ := regex.Auto(rx, 2)
	x, e := series.OfWords(of)
	y, f := series.OfWords(auto)
	w, g := series.Apart(x, y)
	_, h := series.OfWords(kit.X("a"))
	odd := api.Tree{Nodes: append(slices.Clone(auto.Nodes), kit.N("yes"), kit.N("x", 0, 1))}
	z, k := series.OfWords(odd)
	if e != api.OK || f != api.OK || w != "aa" || g != api.OK || h != api.ErrForm || k != api.OK || !eq(z, y) {
		t.Error(x, y, w, e, f, g, h, z, k)
	}
	for e, w := range kit.Wrong() {
		if _, f := series.OfWords(w); f != e {
			t.Error(e, f)
		}
	}
	long, _ := regex.Of([]string{strings.Repeat("ab", 10)}, 2)
	if _, e := series.OfWords(long); e != api.ErrMany {
		t.Error(e)
	}
}

func TestWhatFollows(t *testing.T) { // P17.7
	var d kit.Dice
	for i := range 400 {
		a, b := roll(&d, 2, 4), roll(&d, 2, 3)
		l, _ := series.Least(a)
		m, _ := series.Least(b)
		again, _ := series.Least(l)
		chosen, _ := series.Chosen(a)
		if !eq(l, again) || len(l.Start) > len(a.Start) || len(chosen) != len(l.Start) {
			t.Error(i, a, l, again)
		}
		for _, w := range all(5) {
			if weight(a, w) != weight(l, w) {
				t.Fatal(i, w, a, l)
			}
		}
		is, _ := series.Same(a, b)
		word, e := series.Apart(a, b)
		if is != eq(l, m) || is != (e == api.ErrNone) || !is && (len(word) >= len(a.Start)+len(b.Start) || weight(a, word) == weight(b, word)) {
			t.Error(i, a, b, is, word, e)
		}
		for _, w := range all(len(word)) {
			if w == word {
				break
			}
			if weight(a, w) != weight(b, w) {
				t.Error(i, w, word)
			}
		}
		r := api.Recurrence{By: []int{d.Roll(5), d.Roll(5), d.Roll(3)}, Start: []int{d.Roll(5), d.Roll(5), d.Roll(5)}}
		q := api.Recurrence{By: []int{d.Roll(5), d.Roll(5)}, Start: []int{d.Roll(5), d.Roll(5)}}
		x, _ := series.OfRule(r)
		y, _ := series.OfRule(q)
		for j, f := range []func(a, b api.Weighted) (api.Weighted, api.Errno){series.Sum, series.Both, series.Product} {
			g := []func(r, s api.Recurrence) (api.Recurrence, api.Errno){field.Sum, field.Times, field.Folded}[j]
			s, _ := f(x, y)
			u, _ := series.Rule(s)
			v, _ := g(r, q)
			if !eq(u, v) || len(s.Start) != len(v.By) {
				t.Error(i, j, u, v)
			}
		}
		k, o := api.Lasso{Mod: field.P, Round: []int{d.Roll(3), d.Roll(3)}, Stem: []int{d.Roll(3)}}, api.Lasso{Mod: field.P, Stem: []int{d.Roll(3), 1}, Round: []int{0}}
		c, e := lasso.Convolve(k, o)
		if e != api.OK {
			continue
		}
		s, _ := series.OfLasso(k)
		u, _ := series.OfLasso(o)
		p, _ := series.Product(s, u)
		v, _ := series.OfLasso(c)
		if !eq(p, v) {
			t.Error(i, k, o, p, v)
		}
	}
}
