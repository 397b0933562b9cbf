package field_test

import (
	"slices"
	"testing"

	"roundelay/api"
	"roundelay/field"
	"roundelay/kit"
)

type mat = [][]int

func rule(by []int, start ...int) api.Recurrence { return api.Recurrence{By: by, Start: start} }
func same(a, b mat) bool                         { return slices.EqualFunc(a, b, slices.Equal[[]int]) }
func is(r, s api.Recurrence) bool                { return slices.Equal(r.By, s.By) && slices.Equal(r.Start, s.Start) }

// roll returns a matrix.
func roll(d *kit.Dice, rows, columns, most int) mat {
	var a mat
	for range rows {
		var row []int
		for range columns {
			row = append(row, d.Roll(most))
		}
		a = append(a, row)
	}
	return a
}

var fib = rule([]int{1, 1}, 0, 1)

func TestResidues(t *testing.T) { // P16.1
	if field.Norm(-1) != 65520 || field.Norm(65521) != 0 || field.Norm(-9223372036854775808) < 0 || field.Norm(65521*7+5) != 5 {
		t.Error(field.Norm(-1))
	}
	a, e := field.Inv(2)
	_, f := field.Inv(0)
	_, g := field.Inv(65521)
	_, h := field.Inv(-1)
	p, k := field.Pow(2, 16)
	one, _ := field.Pow(0, 0)
	_, l := field.Pow(-1, 2)
	_, m := field.Pow(2, -1)
	if a != 32761 || e != api.OK || f != api.ErrClash || g != api.ErrRange || h != api.ErrRange || p != 15 || k != api.OK || one != 1 || l != api.ErrRange || m != api.ErrRange {
		t.Error(a, e, f, g, h, p, k, one, l, m)
	}
}

func TestMatrices(t *testing.T) { // P16.2
	row := make([]int, 13)
	for i, x := range []struct {
		a mat
		e api.Errno
	}{
		{mat{{1}}, api.OK}, {nil, api.ErrMany}, {slices.Repeat(mat{{1}}, 13), api.ErrMany}, {mat{{}}, api.ErrMany}, {mat{row}, api.ErrMany}, {mat{row[:12]}, api.OK}, {mat{{1, 99999}, {1}}, api.ErrForm}, {mat{{1}, row}, api.ErrForm}, {mat{{65521}}, api.ErrRange}, {mat{{-1}}, api.ErrRange},
	} {
		e := field.Check(x.a)
		_, e1 := field.Mul(x.a, nil)
		_, e2 := field.Mul(mat{{1}}, x.a)
		_, e3 := field.Power(x.a, -1)
		_, e4 := field.Rank(x.a)
		_, e5 := field.Det(x.a)
		_, e6 := field.Inverse(x.a)
		_, e7 := field.Solve(x.a, nil)
		_, e8 := field.Char(x.a)
		if got := []api.Errno{e1, e2, e3, e4, e5, e6, e7, e8}; e != x.e || e != api.OK && !slices.Equal(got, slices.Repeat([]api.Errno{e}, 8)) {
			t.Error(i, e, got)
		}
	}
	wide := mat{{1, 2}}
	_, e1 := field.Mul(wide, wide)
	_, e2 := field.Power(wide, -1)
	_, e3 := field.Det(wide)
	_, e4 := field.Inverse(wide)
	_, e5 := field.Char(wide)
	_, e6 := field.Power(mat{{1}}, -1)
	m, e7 := field.Mul(wide, mat{{3}, {4}})
	if e1 != api.ErrClash || e2 != api.ErrClash || e3 != api.ErrClash || e4 != api.ErrClash || e5 != api.ErrClash || e6 != api.ErrRange || e7 != api.OK || !same(m, mat{{11}}) {
		t.Error(e1, e2, e3, e4, e5, e6, m, e7)
	}
	p, _ := field.Power(mat{{1, 1}, {1, 0}}, 5)
	one, _ := field.Power(mat{{1, 1}, {1, 0}}, 0)
	if !same(p, mat{{8, 5}, {5, 3}}) || !same(one, mat{{1, 0}, {0, 1}}) {
		t.Error(p, one)
	}
}

func TestElimination(t *testing.T) { // P16.3
	a := mat{{1, 1}, {1, 0}}
	det, _ := field.Det(a)
	rank, _ := field.Rank(a)
	inv, e := field.Inverse(a)
	char, _ := field.Char(a)
	if det != 65520 || rank != 2 || e != api.OK || !same(inv, mat{{0, 1}, {1, 65520}}) || !slices.Equal(char, []int{1, 1}) {
		t.Error(det, rank, inv, e, char)
	}
	two := mat{{1, 1}, {2, 2}}
	rank, _ = field.Rank(two)
	det, _ = field.Det(two)
	_, e = field.Inverse(two)
	x, f := field.Solve(two, []int{3, 6})
	_, g := field.Solve(two, []int{3, 7})
	_, h := field.Solve(two, []int{3})
	_, k := field.Solve(two, []int{3, -1})
	if rank != 1 || det != 0 || e != api.ErrNone || f != api.OK || !slices.Equal(x, []int{0, 3}) || g != api.ErrNone || h != api.ErrForm || k != api.ErrRange {
		t.Error(rank, det, e, x, f, g, h, k)
	}
	for i, y := range []struct {
		a    mat
		b, x []int
	}{
		{mat{{0, 1, 1}}, []int{5}, []int{0, 0, 5}}, {mat{{1, 0, 0}, {1, 1, 1}}, []int{2, 5}, []int{2, 0, 3}}, {mat{{1, 2, 0}}, []int{4}, []int{0, 2, 0}}, {mat{{0, 0}}, []int{0}, []int{0, 0}},
	} {
		if x, e := field.Solve(y.a, y.b); e != api.OK || !slices.Equal(x, y.x) {
			t.Error(i, x, e)
		}
	}
}

func TestRules(t *testing.T) { // P16.4
	long := make([]int, 13)
	for i, x := range []struct {
		r api.Recurrence
		e api.Errno
	}{{fib, api.OK}, {rule(nil), api.OK}, {rule(long, 1), api.ErrMany}, {rule(long[:12], long[:12]...), api.OK}, {rule([]int{-1}), api.ErrForm}, {rule([]int{-1}, 1), api.ErrRange}, {rule([]int{1}, 65521), api.ErrRange}} {
		e := field.Right(x.r)
		_, e1 := field.Terms(x.r, -1)
		_, e2 := field.Term(x.r, -1)
		_, e3 := field.From(x.r, -1)
		_, e4 := field.Matrix(x.r)
		_, e5 := field.Short(x.r)
		_, e6 := field.Apart(fib, x.r)
		_, e7 := field.Sum(fib, x.r)
		_, e8 := field.Times(x.r, rule([]int{1}))
		_, e9 := field.Folded(fib, x.r)
		if got := []api.Errno{e1, e2, e3, e4, e5, e6, e7, e8, e9}; e != x.e || e != api.OK && !slices.Equal(got, slices.Repeat([]api.Errno{e}, 9)) || e == api.OK && (e1 != api.ErrRange || e2 != api.ErrRange || e3 != api.ErrRange) {
			t.Error(i, e, got)
		}
	}
	l, _ := field.Terms(fib, 8)
	none, _ := field.Terms(rule(nil), 3)
	_, e := field.Terms(fib, 65)
	all, f := field.Terms(fib, 64)
	a, _ := field.Term(fib, 24)
	b, _ := field.Term(fib, 25)
	zero, _ := field.Term(rule(nil), 7)
	if !slices.Equal(l, []int{0, 1, 1, 2, 3, 5, 8, 13}) || !slices.Equal(none, []int{0, 0, 0}) || e != api.ErrRange || f != api.OK || len(all) != 64 || a != 46368 || b != 9504 || zero != 0 {
		t.Error(l, none, e, f, a, b, zero)
	}
	far, _ := field.Term(rule([]int{2}, 1), 1<<62)
	pow, _ := field.Pow(2, 1<<62)
	from, _ := field.From(fib, 3)
	m, _ := field.Matrix(fib)
	_, e = field.Matrix(rule(nil))
	empty, f := field.From(rule(nil), 5)
	if far != pow || !is(from, rule([]int{1, 1}, 2, 3)) || !same(m, mat{{1, 1}, {1, 0}}) || e != api.ErrNone || f != api.OK || len(empty.By) != 0 {
		t.Error(far, pow, from, m, e, f)
	}
}

func TestLeast(t *testing.T) { // P16.5
	for i, x := range []struct {
		l []int
		r api.Recurrence
	}{
		{[]int{0, 1, 1, 2, 3, 5, 8, 13}, fib}, {[]int{1, 2, 4, 8, 16}, rule([]int{2}, 1)}, {[]int{0, 0, 0}, rule(nil)}, {[]int{0, 0, 1}, rule([]int{0, 0, 0}, 0, 0, 1)}, {[]int{5}, rule([]int{0}, 5)}, {nil, rule(nil)}, {[]int{1, 1, 0}, rule([]int{0, 0}, 1, 1)}, {[]int{1, 1, 3}, rule([]int{0, 3}, 1, 1)}, {[]int{5, 0, 0}, rule([]int{0}, 5)},
	} {
		if r, e := field.Least(x.l); e != api.OK || !is(r, x.r) {
			t.Error(i, r, e)
		}
	}
	late := make([]int, 13)
	late[12] = 1
	_, e := field.Least(late)
	_, f := field.Least(late[1:])
	_, g := field.Least(make([]int, 65))
	_, h := field.Least([]int{65521})
	_, k := field.Least(make([]int, 64))
	if e != api.ErrLong || f != api.OK || g != api.ErrMany || h != api.ErrRange || k != api.OK {
		t.Error(e, f, g, h, k)
	}
	s, e := field.Short(rule([]int{1, 2}, 1, 2))
	late = late[1:]
	r, f := field.Short(rule(make([]int, 12), late...))
	if e != api.OK || !is(s, rule([]int{2}, 1)) || f != api.OK || len(r.By) != 12 {
		t.Error(s, e, r, f)
	}
}

func TestTwo(t *testing.T) { // P16.6
	ones, twos := rule([]int{1}, 1), rule([]int{2}, 1)
	_, e := field.Apart(twos, rule([]int{1, 2}, 1, 2))
	n, f := field.Apart(twos, rule([]int{1, 2}, 1, 1))
	_, g := field.Apart(rule(nil), rule([]int{1}, 0))
	if e != api.ErrNone || n != 1 || f != api.OK || g != api.ErrNone {
		t.Error(e, n, f, g)
	}
	s, e1 := field.Sum(ones, twos)
	m, e2 := field.Times(ones, twos)
	d, e3 := field.Folded(ones, ones)
	if e1 != api.OK || e2 != api.OK || e3 != api.OK || !is(s, rule([]int{3, 65519}, 2, 3)) || !is(m, twos) || !is(d, rule([]int{2, 65520}, 1, 2)) {
		t.Error(s, m, d)
	}
	// Orders 5 and 4 without a common part: a sum of order 9, a product of order 20.
	a, b := rule([]int{1, 2, 3, 4, 5}, 1, 0, 0, 0, 0), rule([]int{7, 1, 2, 9}, 0, 1, 5, 0)
	s, e1 = field.Sum(a, b)
	_, e2 = field.Times(a, b)
	_, e3 = field.Folded(rule([]int{1, 2, 3, 4, 5, 6, 7}, 1, 0, 0, 0, 0, 0, 1), rule([]int{7, 1, 2, 9, 3, 8}, 0, 1, 5, 0, 1, 1))
	if e1 != api.OK || len(s.By) != 9 || e2 != api.ErrLong || e3 != api.ErrLong {
		t.Error(s, e1, e2, e3)
	}
}

func TestWhatFollows(t *testing.T) { // P16.7
	var d kit.Dice
	for i := range 300 {
		size := 1 + d.Roll(5)
		a, b := roll(&d, size, size, field.P), roll(&d, size, size, 3)
		da, _ := field.Det(a)
		db, _ := field.Det(b)
		ab, _ := field.Mul(a, b)
		dab, _ := field.Det(ab)
		rank, _ := field.Rank(b)
		if dab != da*db%field.P || (rank == size) != (db != 0) {
			t.Error(i, da, db, dab, rank)
		}
		inv, e := field.Inverse(b)
		if (e == api.OK) != (db != 0) {
			t.Error(i, e, db)
		}
		if e == api.OK {
			x, _ := field.Mul(b, inv)
			y, _ := field.Mul(inv, b)
			one, _ := field.Power(b, 0)
			if !same(x, one) || !same(y, one) {
				t.Error(i, b, inv)
			}
		}
		c, _ := field.Char(a)
		top, _ := field.Power(a, size)
		sum := roll(&d, size, size, 1)
		for k := range size {
			p, _ := field.Power(a, size-1-k)
			for r := range sum {
				for q := range sum {
					sum[r][q] = (sum[r][q] + c[k]*p[r][q]) % field.P
				}
			}
		}
		if !same(top, sum) {
			t.Error(i, "characteristic", a, c)
		}
		x := roll(&d, 1, size, 5)[0]
		rows := roll(&d, 1+d.Roll(4), size, 3)
		rhs := make([]int, len(rows))
		for r, row := range rows {
			for k, v := range row {
				rhs[r] += v * x[k]
			}
		}
		got, e := field.Solve(rows, rhs)
		for r, row := range rows {
			for k, v := range row {
				rhs[r] -= v * got[k]
			}
			if field.Norm(rhs[r]) != 0 {
				t.Error(i, rows, got)
			}
		}
		if e != api.OK || slices.Compare(got, x) > 0 {
			t.Error(i, rows, x, got, e)
		}
		r, s := rule(roll(&d, 1, size, 5)[0], roll(&d, 1, size, 5)[0]...), rule(roll(&d, 1, 2, 5)[0], roll(&d, 1, 2, 5)[0]...)
		l, _ := field.Terms(r, 40)
		m, _ := field.Terms(s, 40)
		short, _ := field.Short(r)
		least, _ := field.Least(l)
		n := d.Roll(40)
		term, _ := field.Term(r, n)
		from, _ := field.From(r, n)
		if term != l[n] || !is(short, least) || from.Start[0] != l[n] {
			t.Error(i, r, n, term, short, least)
		}
		fold := make([]int, 40)
		for n := range fold {
			for k := range n + 1 {
				fold[n] = (fold[n] + l[k]*m[n-k]) % field.P
			}
		}
		f, e := field.Folded(r, s)
		g, _ := field.Terms(f, 40)
		if e != api.OK || !slices.Equal(g, fold) {
			t.Error(i, r, s, f)
		}
	}
}
