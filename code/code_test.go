package code_test

import (
	"slices"
	"strings"
	"testing"

	"roundelay/api"
	"roundelay/code"
	"roundelay/core"
	"roundelay/kit"
)

func low(s string) api.Core { c, _ := core.Lower(kit.P(s)); return c }

// ones is the core of example 1, and its code without the sum.
func ones() api.Core { return low("ones[] = cons(a(), ones[]).") }

var onesCode = []byte{69, 100, 1, 3, 1, 97, 4, 99, 111, 110, 115, 4, 111, 110, 101, 115, 1, 2, 0, 1, 0, 0, 3, 3, 0, 0, 5, 0, 0, 3, 1, 2, 2, 1, 1}

// sealed is bytes with their sum.
func sealed(b []byte) []byte {
	s := code.Sum(b)
	return append(slices.Clone(b), byte(s/256), byte(s%256))
}

func TestBytes(t *testing.T) { // P20.1
	b, e := code.Encode(ones())
	if e != api.OK || !slices.Equal(b, sealed(onesCode)) {
		t.Error(b, e)
	}
	c, e := code.Decode(b)
	n, f := code.Names(ones())
	if e != api.OK || f != api.OK || !core.Same(c, ones()) || !slices.Equal(n, []string{"a", "cons", "ones"}) {
		t.Error(c, e, n, f)
	}
	_, e = code.Encode(api.Core{})
	_, f = code.Names(api.Core{})
	if e != api.ErrMany || f != api.ErrMany {
		t.Error(e, f)
	}
	n, _ = code.Names(low("f[x] of b(): b(); a(y): c(y)."))
	if !slices.Equal(n, []string{"a", "b", "c", "f"}) {
		t.Error(n)
	}
	if code.Sum(nil) != 0 || code.Sum([]byte{1, 2, 3}) != 14 || code.Sum(slices.Repeat([]byte{255}, 60000)) != 255*(60000*60001/2)%65521 {
		t.Error("Sum")
	}
	with := func(i int, x byte) []byte { l := slices.Clone(onesCode); l[i] = x; return sealed(l) }
	insert := func(i int, x ...byte) []byte { return sealed(slices.Insert(slices.Clone(onesCode), i, x...)) }
	for i, x := range []struct {
		b []byte
		e api.Errno
	}{
		{make([]byte, 60001), api.ErrLong}, {make([]byte, 60000), api.ErrForm}, {nil, api.ErrMany}, {b[:4], api.ErrMany}, {b[:5], api.ErrWrong}, {b[:len(b)-1], api.ErrWrong}, {append(slices.Clone(b), 0), api.ErrWrong}, {with(0, 70), api.ErrForm}, {with(2, 2), api.ErrForm}, {with(3, 2), api.ErrForm}, {with(5, 65), api.ErrForm}, {with(4, 0), api.ErrForm},
		{sealed(slices.Concat(onesCode[:3], []byte{3, 4}, onesCode[7:11], []byte{1, 97}, onesCode[11:])), api.ErrForm}, {with(16, 2), api.ErrForm}, {with(17, 3), api.ErrForm}, {with(17, 1), api.ErrForm}, {with(22, 2), api.ErrForm}, {with(23, 6), api.ErrForm}, {with(24, 9), api.ErrForm}, {with(27, 1), api.ErrForm}, {with(32, 3), api.ErrForm}, {with(34, 4), api.ErrForm}, {with(34, 0), api.ErrForm},
		{insert(35, 0), api.ErrForm}, {slices.Concat(sealed(append(slices.Clone(onesCode[:18]), append([]byte{128, 0}, onesCode[19:]...)...))), api.ErrForm}, {sealed([]byte{69, 100, 1}), api.ErrForm}, {sealed([]byte{69, 100, 1, 255, 255, 255, 255}), api.ErrForm}, {sealed([]byte{69, 100, 1, 255, 255, 127}), api.ErrForm}, {with(20, 5), api.ErrForm},
	} {
		_, e := code.Decode(x.b)
		_, e1 := code.Marks(x.b)
		_, _, e2 := code.Calls(x.b)
		_, e3 := code.Point(x.b, 9, 9)
		_, e4 := code.Disassemble(x.b)
		if e != x.e || e1 != e || e2 != e || e3 != e || e4 != e {
			t.Error(i, e, e1, e2, e3, e4)
		}
	}
}

func TestMarks(t *testing.T) { // P20.2
	b, _ := code.Encode(ones())
	m, e := code.Marks(b)
	c, l, f := code.Calls(b)
	if e != api.OK || f != api.OK || !slices.Equal(m, []int{23, 26, 29}) || !slices.Equal(c, []int{27}) || !slices.Equal(l, []int{0}) {
		t.Error(m, c, l)
	}
	k := low("f[x] = p(g[h[x]], x). g[x] = s(x). h[x] = t(x). k[] = a().")
	b, _ = code.Encode(k)
	c, l, _ = code.Calls(b)
	if !slices.Equal(l, []int{2, 1}) || b[c[0]] != 2 || b[c[1]] != 1 {
		t.Error(c, l)
	}
	p, e := code.Point(b, 1, 2)
	q, _ := code.Decode(p)
	_, e1 := code.Point(b, 2, 0)
	_, e2 := code.Point(b, -1, 0)
	_, e3 := code.Point(b, 0, 4)
	_, e4 := code.Point(b, 0, -1)
	_, e5 := code.Point(b, 0, 3)
	if e != api.OK || !core.Same(q, low("f[x] = p(h[h[x]], x). g[x] = s(x). h[x] = t(x). k[] = a().")) || e1 != api.ErrNot || e2 != api.ErrNot || e3 != api.ErrNot || e4 != api.ErrNot || e5 != api.ErrClash {
		t.Error(q, e, e1, e2, e3, e4, e5)
	}
	if back, _ := code.Point(p, 1, 1); !slices.Equal(back, b) {
		t.Error(back)
	}
}

func TestOrder(t *testing.T) { // P20.3
	k := low("f[x] = g[x]. g[x] = s(x). h[] = a().")
	o, e := code.Order(k, []int{2, 0, 1})
	_, e1 := code.Order(api.Core{}, nil)
	_, e2 := code.Order(k, []int{9, 9})
	_, e3 := code.Order(k, []int{0, 0, 3})
	_, e4 := code.Order(k, []int{0, 0, -1})
	_, e5 := code.Order(k, []int{0, 0, 1})
	if e != api.OK || !core.Same(o, low("h[] = a(). f[x] = g[x]. g[x] = s(x).")) || e1 != api.ErrMany || e2 != api.ErrMany || e3 != api.ErrNot || e4 != api.ErrNot || e5 != api.ErrTwice {
		t.Error(o, e, e1, e2, e3, e4, e5)
	}
}

func TestTexts(t *testing.T) { // P20.4
	b, _ := code.Encode(ones())
	s, e := code.Disassemble(b)
	if e != api.OK || s != "block ones 0\nof any\n  0 node a ; 23\n  1 tie ones ; 26\n  2 node cons 0 1 ; 29\n  is 2\n" {
		t.Error(s)
	}
	join := func(l ...string) string { return strings.Join(l, "\n") }
	for i, x := range []struct {
		s  string
		at int
		e  api.Errno
	}{
		{join("block ones 0", "of any", "x: node a", "y: tie ones", "node cons x y", "is 2"), 0, api.OK}, {join("block ones 0", "of any", "x: node a", "y: tie ones", "node cons x z", "is 2"), 5, api.ErrNot}, {join("; x", "", "  block  ones 0 ;", "of any", "0 node a", " ", "1   tie ones", "last: node cons 0 1;2", "is last", "", ""), 0, api.OK},
		{"", 0, api.ErrMany}, {"\n;", 0, api.ErrMany}, {"block f 0", 1, api.ErrForm}, {"block f 0\n\n", 3, api.ErrForm}, {"block f 0\nof any", 2, api.ErrForm}, {"block f 0\nof any\nnode a\n;", 4, api.ErrForm}, {"of any", 1, api.ErrForm}, {"block f", 1, api.ErrForm}, {"block F 0", 1, api.ErrForm}, {"block f 00", 1, api.ErrForm}, {"block f 10000", 1, api.ErrForm}, {"block f 0 0", 1, api.ErrForm}, {"blok f 0", 1, api.ErrForm},
		{"block f 0\nblock g 0", 2, api.ErrForm}, {"block f 0\nof a", 2, api.ErrForm}, {"block f 0\nof a/", 2, api.ErrForm}, {"block f 0\nof a/1/1", 2, api.ErrForm}, {"block f 0\nof any any", 2, api.ErrForm}, {"block f 0\nof any\nof any", 3, api.ErrForm}, {"block f 0\nnode a", 2, api.ErrForm}, {"block f 0\nof any\n1 node a", 3, api.ErrForm}, {"block f 0\nof any\nX: node a", 3, api.ErrForm}, {"block f 0\nof any\nx : node a", 3, api.ErrForm}, {"block f 0\nof any\nx:", 3, api.ErrForm},
		{"block f 0\nof any\ntake", 3, api.ErrForm}, {"block f 0\nof any\ntake 1 1", 3, api.ErrForm}, {"block f 0\nof any\ntake x", 3, api.ErrForm}, {"block f 0\nof any\nnode", 3, api.ErrForm}, {"block f 0\nof any\nnode a A", 3, api.ErrForm}, {"block f 0\nof any\nnode a x A", 3, api.ErrForm}, {"block f 0\nof any\nnode a\nis 0 0", 4, api.ErrForm}, {"block f 0\nof any\nnode a\nis", 4, api.ErrForm}, {"block f 0\nof any\nnode a\nis x", 4, api.ErrNot}, {"block f 0\nof any\nnode a\nis 0\nnode a", 5, api.ErrForm}, {"block f 0\nof any\nnode a\nis 0\nis 0", 5, api.ErrForm}, {"block f\t0", 1, api.ErrForm},
		{"block f 0\nof any\nx: node a\nx: node b", 4, api.ErrTwice}, {"block f 0\nof any\nx: node a\nx: node b y", 4, api.ErrTwice}, {"block f 0\nof any\nx: node a\nx: node b y A", 4, api.ErrForm}, {"block f 0\nof any\nx: node a x", 3, api.ErrNot}, {"block f 1\nof a/0\nx: node a\nis x\nof b/0\nx: node b\nis x", 0, api.OK}, {"block f 1\nof a/0\nx: node a\nis x\nof b/0\nnode b\nis x", 7, api.ErrNot},
		{"block f 0\nof any\nis 0", 0, api.ErrMany}, {"block f 9\nof any\nnode a\nis 0", 0, api.ErrRange}, {"block f 0\nof any\nnode a\nis 1", 0, api.ErrNot}, {"block f 0\nof any\nnode a 0\nis 0", 0, api.ErrNot}, {"block f 0\nof any\nask g\nis 0", 0, api.ErrNot}, {"block f 1\nof any/0\nx: node a\nis x\nof any/2\nis: below 1\nis is", 0, api.OK}, {"block f 0\nof any\nno: node a\nis 9999", 0, api.ErrNot}, {strings.Repeat(" ", 65537), 0, api.ErrLong}, {strings.Repeat(" ", 65536), 0, api.ErrMany},
	} {
		c, at, e := code.Assemble(x.s)
		if at != x.at || e != x.e {
			t.Error(i, x.s, at, e)
		}
		if i < 3 && i != 1 && !core.Same(c, ones()) {
			t.Error(i, c)
		}
	}
}

func TestWhatFollows(t *testing.T) { // P20.5
	var d kit.Dice
	for i := range 300 {
		c, _ := core.Lower(d.Prog())
		b, e := code.Encode(c)
		back, f := code.Decode(b)
		s, g := code.Disassemble(b)
		again, _, h := code.Assemble(s)
		if e != api.OK || f != api.OK || g != api.OK || h != api.OK || !core.Same(c, back) || !core.Same(c, again) {
			t.Fatal(i, e, f, g, h)
		}
		for range 20 {
			other := slices.Clone(b)
			other[d.Roll(len(b))] ^= byte(1 + d.Roll(255))
			if _, e := code.Decode(other); e != api.ErrWrong {
				t.Error(i, e)
			}
		}
		marks, _ := code.Marks(b)
		n, _ := core.Size(c)
		if len(marks) != n || !slices.IsSorted(marks) {
			t.Error(i, marks)
		}
		o, _ := code.Order(c, []int{3, 1, 0, 2})
		args := []api.Tree{d.Tree(3)}
		v, e := core.Value(c, "f", args)
		w, f := core.Value(o, "f", args)
		if e != f || kit.S(v) != kit.S(w) {
			t.Error(i, e, f)
		}
	}
}
