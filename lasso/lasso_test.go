package lasso_test

import (
	"slices"
	"testing"

	"roundelay/alike"
	"roundelay/api"
	"roundelay/kit"
	"roundelay/lasso"
)

func la(mod int, stem []int, round ...int) api.Lasso {
	return api.Lasso{Mod: mod, Stem: stem, Round: round}
}
func same(a, b api.Lasso) bool {
	return a.Mod == b.Mod && slices.Equal(a.Stem, b.Stem) && slices.Equal(a.Round, b.Round)
}

// take returns elements, however many.
func take(l api.Lasso, n int) []int {
	var t []int
	for i := range n {
		v, _ := lasso.Nth(l, i)
		t = append(t, v)
	}
	return t
}

// roll returns a lasso.
func roll(d *kit.Dice, mod, stem, round int) api.Lasso {
	l := api.Lasso{Mod: mod}
	for range d.Roll(stem + 1) {
		l.Stem = append(l.Stem, d.Roll(mod))
	}
	for range 1 + d.Roll(round) {
		l.Round = append(l.Round, d.Roll(mod))
	}
	return l
}

func TestCheck(t *testing.T) { // P14.1
	long := make([]int, 121)
	ok := la(3, nil, 1)
	for i, x := range []struct {
		l api.Lasso
		e api.Errno
	}{
		{ok, api.OK}, {la(1, nil), api.ErrRange}, {la(65522, nil, 1), api.ErrRange}, {la(65521, nil, 65520), api.OK}, {la(2, long[:61], 9), api.ErrMany}, {la(2, []int{9}), api.ErrMany}, {la(2, nil, long...), api.ErrMany}, {la(2, long[:60], long[:120]...), api.OK}, {la(2, []int{2}, 1), api.ErrForm}, {la(2, nil, -1), api.ErrForm},
	} {
		if e := lasso.Check(x.l); e != x.e {
			t.Error(i, e)
		}
		if x.e == api.OK {
			continue
		}
		_, e1 := lasso.Least(x.l)
		_, e2 := lasso.Same(ok, x.l)
		_, e3 := lasso.Apart(x.l, ok)
		_, e4 := lasso.Nth(x.l, -1)
		_, e5 := lasso.Take(x.l, -1)
		_, e6 := lasso.Tail(x.l, -1)
		_, e7 := lasso.Cons(-1, x.l)
		_, e8 := lasso.Weave([]api.Lasso{ok, x.l})
		_, e9 := lasso.Every(x.l, 0, 0)
		_, f1 := lasso.Sum(x.l, ok)
		_, f2 := lasso.Times(ok, x.l)
		_, f3 := lasso.Scale(x.l, 1)
		_, f4 := lasso.Scan(x.l, 0)
		_, f5 := lasso.Convolve(ok, x.l)
		_, f6 := lasso.Find(x.l, long)
		_, f7 := lasso.Count(x.l, 0, -1)
		_, f8 := lasso.Tree(x.l)
		for j, e := range []api.Errno{e1, e2, e3, e4, e5, e6, e7, e8, e9, f1, f2, f3, f4, f5, f6, f7, f8} {
			if e != x.e {
				t.Error(i, j, e)
			}
		}
	}
	other := la(4, nil, 1)
	_, e1 := lasso.Same(ok, other)
	_, e2 := lasso.Apart(ok, other)
	_, e3 := lasso.Weave([]api.Lasso{ok, other})
	_, e4 := lasso.Sum(ok, other)
	_, e5 := lasso.Times(ok, other)
	_, e6 := lasso.Convolve(ok, other)
	for i, e := range []api.Errno{e1, e2, e3, e4, e5, e6} {
		if e != api.ErrClash {
			t.Error(i, e)
		}
	}
}

func TestStreams(t *testing.T) { // P14.2
	for i, x := range []struct{ l, least api.Lasso }{{la(10, []int{1, 2}, 2, 3, 2, 3), la(10, []int{1, 2}, 2, 3)}, {la(10, []int{1, 3}, 2, 3), la(10, []int{1}, 3, 2)}, {la(10, []int{2, 3, 2}, 3, 2), la(10, nil, 2, 3)}, {la(2, []int{0}, 0, 0), la(2, nil, 0)}} {
		if l, e := lasso.Least(x.l); e != api.OK || !same(l, x.least) {
			t.Error(i, l, e)
		}
	}
	a, b := la(10, []int{1, 3}, 2, 3), la(10, []int{1}, 3, 2, 3, 2)
	is, _ := lasso.Same(a, b)
	_, e := lasso.Apart(a, b)
	not, _ := lasso.Same(a, la(10, []int{1, 3}, 2, 3, 2, 4))
	n, f := lasso.Apart(a, la(10, []int{1, 3}, 2, 3, 2, 4))
	if !is || e != api.ErrNone || not || n != 5 || f != api.OK {
		t.Error(is, e, not, n, f)
	}
	v, _ := lasso.Nth(a, 1<<62)
	w, _ := lasso.Nth(a, 1<<62+1)
	_, e = lasso.Nth(a, -1)
	l, _ := lasso.Take(a, 5)
	_, f = lasso.Take(a, 4097)
	_, g := lasso.Take(a, -1)
	all, _ := lasso.Take(a, 4096)
	if v != 2 || w != 3 || e != api.ErrRange || !slices.Equal(l, []int{1, 3, 2, 3, 2}) || f != api.ErrRange || g != api.ErrRange || len(all) != 4096 {
		t.Error(v, w, e, l, f, g)
	}
}

func TestParts(t *testing.T) { // P14.3
	l := la(10, []int{1, 2}, 3, 4, 5)
	for n := range 9 {
		u, e := lasso.Tail(l, n)
		if e != api.OK || !slices.Equal(take(u, 20), take(l, 30)[n:n+20]) {
			t.Error(n, u, e)
		}
	}
	far, _ := lasso.Tail(l, 2+3*1000000007)
	_, e := lasso.Tail(l, -1)
	c, f := lasso.Cons(5, la(10, nil, 3, 4, 5))
	_, g := lasso.Cons(10, l)
	_, h := lasso.Cons(-1, l)
	stem := make([]int, 60)
	stem[59] = 1
	_, k := lasso.Cons(1, la(2, stem, 0))
	if !same(far, la(10, nil, 3, 4, 5)) || e != api.ErrRange || f != api.OK || !same(c, la(10, nil, 5, 3, 4)) || g != api.ErrRange || h != api.ErrRange || k != api.ErrLong {
		t.Error(far, e, c, f, g, h, k)
	}
	w, e := lasso.Weave([]api.Lasso{la(10, nil, 1), la(10, nil, 2, 3)})
	x, f := lasso.Every(w, 2, 1)
	_, g = lasso.Weave(nil)
	_, h = lasso.Weave(make([]api.Lasso, 9))
	if e != api.OK || !same(w, la(10, nil, 1, 2, 1, 3)) || f != api.OK || !same(x, la(10, nil, 2, 3)) || g != api.ErrMany || h != api.ErrMany {
		t.Error(w, e, x, f, g, h)
	}
	_, e1 := lasso.Every(l, 0, 0)
	_, e2 := lasso.Every(l, 121, 0)
	_, e3 := lasso.Every(l, 1, -1)
	_, e4 := lasso.Every(l, 1, 1000000001)
	u, e5 := lasso.Every(l, 120, 1000000000)
	if e1 != api.ErrRange || e2 != api.ErrRange || e3 != api.ErrRange || e4 != api.ErrRange || e5 != api.OK || len(u.Round) != 1 {
		t.Error(e1, e2, e3, e4, u, e5)
	}
	// Seven long rounds without a common divisor are too long.
	var long []api.Lasso
	for _, n := range []int{113, 109, 107, 103, 101, 97, 89} {
		r := make([]int, n)
		r[0] = 1
		long = append(long, la(2, nil, r...))
	}
	_, e1 = lasso.Weave(long)
	_, e2 = lasso.Sum(long[0], long[1])
	if e1 != api.ErrLong || e2 != api.ErrLong {
		t.Error(e1, e2)
	}
}

func TestArithmetic(t *testing.T) { // P14.4
	one := la(3, nil, 1, 1)
	s, e := lasso.Scan(one, 1)
	u, f := lasso.Scan(la(3, []int{1}, 0), 2)
	c, g := lasso.Convolve(la(4, nil, 1), la(4, nil, 1))
	if e != api.OK || !same(s, la(3, nil, 1, 2, 0)) || f != api.OK || !same(u, la(3, nil, 1, 0)) || g != api.OK || !same(c, la(4, nil, 1, 2, 3, 0)) {
		t.Error(s, e, u, f, c, g)
	}
	x, _ := lasso.Scale(la(7, []int{3}, 5), -9223372036854775808)
	y, _ := lasso.Scale(la(7, []int{3}, 5), -1)
	_, e = lasso.Scan(la(65521, nil, 1), 1)
	_, f = lasso.Scan(one, 0)
	_, g = lasso.Scan(one, 121)
	_, h := lasso.Convolve(la(65521, nil, 1), la(65521, nil, 1))
	if !same(y, la(7, []int{4}, 2)) || !same(x, y) || e != api.ErrLong || f != api.ErrRange || g != api.ErrRange || h != api.ErrLong {
		t.Error(x, y, e, f, g, h)
	}
	var d kit.Dice
	for i := range 400 {
		mod := 2 + d.Roll(4)
		a, b := roll(&d, mod, 4, 4), roll(&d, mod, 4, 4)
		p, q := take(a, 400), take(b, 400)
		step := 1 + d.Roll(4)
		sum, times, scan, conv := make([]int, 400), make([]int, 400), make([]int, 400), make([]int, 400)
		for n := range 400 {
			sum[n], times[n], scan[n] = (p[n]+q[n])%mod, p[n]*q[n]%mod, p[n]
			if n >= step {
				scan[n] = (p[n] + scan[n-step]) % mod
			}
			for j := range n + 1 {
				conv[n] = (conv[n] + p[j]*q[n-j]) % mod
			}
		}
		s, e1 := lasso.Sum(a, b)
		m, e2 := lasso.Times(a, b)
		k, e3 := lasso.Scan(a, step)
		c, e4 := lasso.Convolve(a, b)
		if e1 != api.OK || e2 != api.OK || !slices.Equal(take(s, 400), sum) || !slices.Equal(take(m, 400), times) {
			t.Fatal(i, a, b, s, m)
		}
		if e3 != api.OK && e3 != api.ErrLong || e3 == api.OK && !slices.Equal(take(k, 400), scan) {
			t.Fatal(i, a, step, k, e3)
		}
		if e4 != api.OK && e4 != api.ErrLong || e4 == api.OK && !slices.Equal(take(c, 400), conv) {
			t.Fatal(i, a, b, c, e4)
		}
		if least, _ := lasso.Least(c); e4 == api.OK && !same(c, least) {
			t.Error(i, c, least)
		}
	}
}

func TestFind(t *testing.T) { // P14.5
	w := la(10, nil, 1, 2, 1, 3)
	for i, x := range []struct {
		l    api.Lasso
		word []int
		n    int
		e    api.Errno
	}{
		{w, []int{3, 1}, 3, api.OK}, {w, nil, 0, api.OK}, {w, []int{1, 3, 1, 2, 1, 3}, 2, api.OK}, {w, []int{1, 3, 1, 2, 1, 2}, 0, api.ErrNone}, {w, []int{7}, 0, api.ErrNone}, {la(10, []int{7}, 1), []int{7, 1, 1}, 0, api.OK}, {w, make([]int, 121), 0, api.ErrMany}, {la(2, []int{1}, 0), make([]int, 120), 1, api.OK},
	} {
		if n, e := lasso.Find(x.l, x.word); n != x.n || e != x.e {
			t.Error(i, n, e)
		}
	}
	a, e := lasso.Count(w, 1, 1001)
	b, _ := lasso.Count(la(5, []int{1, 1, 2}, 1, 0), 1, 2)
	c, _ := lasso.Count(la(5, []int{1, 1, 2}, 1, 0), 1, 3+2*1000000007+1)
	_, f := lasso.Count(w, 1, -1)
	_, g := lasso.Count(w, 10, 1)
	_, h := lasso.Count(w, -1, 1)
	if a != 501 || e != api.OK || b != 2 || c != 2+1000000007+1 || f != api.ErrRange || g != api.ErrRange || h != api.ErrRange {
		t.Error(a, e, b, c, f, g, h)
	}
}

func TestTrees(t *testing.T) { // P14.6
	u, e := lasso.Tree(la(10, []int{1}, 2))
	n := kit.N
	if want := kit.T(n("cons", 1, 2), n("b"), n("cons", 3, 2), n("c")); e != api.OK || kit.S(u) != kit.S(want) || len(u.Nodes) != 4 || u.Nodes[1].Name != "b" {
		t.Error(u, e)
	}
	var round []int
	for i := range 30 {
		round = append(round, i)
	}
	_, e = lasso.Tree(la(100, nil, round...))
	_, f := lasso.Tree(la(100, []int{31}, round...))
	big, _ := lasso.Tree(la(65521, nil, 26, 65520))
	if e != api.OK || f != api.ErrMany || big.Nodes[1].Name != "ba" {
		t.Error(e, f, big)
	}
	for _, x := range []struct {
		s   string
		mod int
		l   api.Lasso
		e   api.Errno
	}{
		{"1=cons(b,cons(2=b,1))", 2, la(2, nil, 1), api.OK}, {"cons(ba,1=cons(a,1))", 27, la(27, []int{26}, 0), api.OK}, {"cons(ba,1=cons(a,1))", 26, api.Lasso{}, api.ErrForm}, {"1=cons(ab,1)", 99, api.Lasso{}, api.ErrForm}, {"1=cons(aa,1)", 99, api.Lasso{}, api.ErrForm}, {"1=cons(zzzzzzzz,1)", 65521, api.Lasso{}, api.ErrForm},
		{"cons(a,nil)", 9, api.Lasso{}, api.ErrForm}, {"1=cons(a(b),1)", 9, api.Lasso{}, api.ErrForm}, {"1=cons(a,1,1)", 9, api.Lasso{}, api.ErrForm}, {"1=cons(a,1)", 1, api.Lasso{}, api.ErrRange}, {"1=kons(a,1)", 65522, api.Lasso{}, api.ErrRange}, {"1=cons(1,1)", 9, api.Lasso{}, api.ErrForm}, {"1=cons(cons,1)", 65521, la(65521, nil, 2*17576+14*676+13*26+18), api.OK},
	} {
		if l, e := lasso.Read(kit.X(x.s), x.mod); !same(l, x.l) || e != x.e {
			t.Error(x.s, l, e)
		}
	}
	for e, w := range kit.Wrong() {
		if _, f := lasso.Read(w, 1); f != e {
			t.Error(e, f)
		}
	}
}

func TestWhatFollows(t *testing.T) { // P14.7
	var d kit.Dice
	for i := range 300 {
		mod := 2 + d.Roll(30)
		l, m := roll(&d, mod, 5, 6), roll(&d, mod, 5, 6)
		least, _ := lasso.Least(l)
		again, _ := lasso.Least(least)
		v := d.Roll(mod)
		c, _ := lasso.Cons(v, l)
		rest, _ := lasso.Tail(c, 1)
		if !same(rest, least) || !same(again, least) || !slices.Equal(take(l, 30), take(least, 30)) || len(least.Stem) > len(l.Stem) || len(least.Round) > len(l.Round) {
			t.Error(i, l, least, rest)
		}
		w, _ := lasso.Weave([]api.Lasso{l, m})
		wr, _ := lasso.Tail(w, 1)
		lr, _ := lasso.Tail(l, 1)
		mr, _ := lasso.Tail(m, 1)
		mw, _ := lasso.Weave([]api.Lasso{m, lr})
		sum, _ := lasso.Sum(l, m)
		sr, _ := lasso.Tail(sum, 1)
		rs, _ := lasso.Sum(lr, mr)
		if !same(wr, mw) || !same(sr, rs) {
			t.Error(i, wr, mw, sr, rs)
		}
		var parts []api.Lasso
		for at := range 3 {
			p, _ := lasso.Every(l, 3, at)
			parts = append(parts, p)
		}
		if x, _ := lasso.Weave(parts); !same(x, least) {
			t.Error(i, x, least)
		}
		x, e := lasso.Convolve(l, m)
		y, f := lasso.Convolve(m, l)
		if e != f || !same(x, y) {
			t.Error(i, x, y)
		}
		u, _ := lasso.Tree(l)
		back, e := lasso.Read(u, mod)
		if is, _ := alike.IsLeast(u); e != api.OK || !is || !same(back, least) {
			t.Error(i, u, back, e)
		}
	}
}
