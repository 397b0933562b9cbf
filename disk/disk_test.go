package disk_test

import (
	"bytes"
	"fmt"
	"slices"
	"testing"

	"roundelay/api"
	"roundelay/disk"
	"roundelay/kit"
)

// of is 64 bytes.
func of(b byte) []byte { return bytes.Repeat([]byte{b}, disk.Size) }

// made is a disk of sectors.
func made(n int) api.Disk { d, _ := disk.New(n); return d }

// put puts sectors.
func put(d api.Disk, at int, data []byte) api.Disk { d, _ = disk.Put(d, at, data); return d }

func TestCheck(t *testing.T) { // P24.1
	write := func(at int, b []byte) api.Write { return api.Write{At: at, Data: b} }
	ok := made(2)
	for i, x := range []struct {
		d api.Disk
		e api.Errno
	}{
		{ok, api.OK}, {made(64), api.OK}, {api.Disk{}, api.ErrMany}, {api.Disk{Sectors: make([][]byte, 65)}, api.ErrMany}, {api.Disk{Sectors: ok.Sectors, Writes: make([]api.Write, 129)}, api.ErrMany}, {api.Disk{Sectors: make([][]byte, 1)}, api.ErrForm}, {api.Disk{Sectors: ok.Sectors, Writes: []api.Write{write(9, nil)}}, api.ErrForm}, {api.Disk{Sectors: ok.Sectors, Writes: []api.Write{write(2, of(1))}, Down: true}, api.ErrRange}, {api.Disk{Sectors: ok.Sectors, Writes: []api.Write{write(-1, of(1))}}, api.ErrRange}, {api.Disk{Sectors: ok.Sectors, Writes: []api.Write{write(1, of(1))}, Down: true}, api.ErrDown}, {api.Disk{Sectors: ok.Sectors, Down: true}, api.OK},
	} {
		e := disk.Check(x.d)
		if e != x.e {
			t.Error(i, e)
		}
		_, e1 := disk.Read(x.d, 99)
		_, e2 := disk.Put(x.d, 99, nil)
		_, e3 := disk.Flush(x.d)
		_, e4 := disk.Crash(x.d, make([]int, 200))
		_, e5 := disk.On(x.d)
		_, e6 := disk.Do(x.d, nil, 9)
		_, e7 := disk.May(x.d, 99, nil)
		_, e8 := disk.Ways(x.d, 99)
		got := []api.Errno{e1, e2, e3, e4, e5, e6, e7, e8}
		want := slices.Repeat([]api.Errno{e}, 8)
		if e == api.OK && x.d.Down {
			want = []api.Errno{api.ErrDown, api.ErrDown, api.ErrDown, api.ErrDown, api.OK, api.ErrRange, api.ErrDown, api.ErrDown}
		} else if e == api.OK {
			want = []api.Errno{api.ErrRange, api.ErrRange, api.OK, api.ErrMany, api.ErrClash, api.ErrRange, api.ErrRange, api.ErrRange}
		}
		if !slices.Equal(got, want) {
			t.Error(i, got)
		}
	}
	_, e := disk.New(0)
	_, f := disk.New(65)
	if e != api.ErrRange || f != api.ErrRange || len(made(3).Sectors) != 3 || !bytes.Equal(made(3).Sectors[2], of(0)) {
		t.Error(e, f)
	}
}

func TestWrites(t *testing.T) { // P24.2
	d := put(put(made(2), 1, of(7)), 1, of(8))
	b, e := disk.Read(d, 1)
	c, _ := disk.Read(d, 0)
	f, _ := disk.Flush(d)
	if e != api.OK || !bytes.Equal(b, of(8)) || !bytes.Equal(c, of(0)) || len(d.Writes) != 2 || !bytes.Equal(d.Sectors[1], of(0)) || len(f.Writes) != 0 || !bytes.Equal(f.Sectors[1], of(8)) {
		t.Error(d, f)
	}
	b[0] = 9
	if d.Writes[1].Data[0] != 8 {
		t.Error("memory is shared")
	}
	full := made(1)
	for range 128 {
		full = put(full, 0, of(1))
	}
	_, e1 := disk.Put(full, 0, of(1))
	_, e2 := disk.Put(full, 1, nil)
	_, e3 := disk.Put(full, 0, of(1)[1:])
	_, e4 := disk.Put(full, -1, of(1))
	if e1 != api.ErrFull || e2 != api.ErrRange || e3 != api.ErrForm || e4 != api.ErrRange {
		t.Error(e1, e2, e3, e4)
	}
	acts := []api.Act{{At: 0, Data: of(1)}, {At: -1}, {At: 1, Data: of(2)}, {At: 5, Data: of(2)}, {At: -2}}
	two, e := disk.Do(made(2), acts, 3)
	_, e1 = disk.Do(made(2), acts, 4)
	_, e2 = disk.Do(made(2), acts, 6)
	_, e3 = disk.Do(made(2), acts, -1)
	_, e4 = disk.Do(made(2), make([]api.Act, 4097), 9999)
	_, e5 := disk.Do(made(2), []api.Act{{At: 1}}, 1)
	_, e6 := disk.Do(api.Disk{Sectors: made(1).Sectors, Down: true}, acts, 1)
	down, e7 := disk.Do(api.Disk{Sectors: made(1).Sectors, Down: true}, acts, 0)
	_, e8 := disk.Do(made(2), acts[4:], 1)
	_, e9 := disk.Do(made(1), slices.Repeat([]api.Act{{At: 0, Data: of(1)}, {At: -1}}, 2048), 4096)
	if want := []api.Errno{api.OK, api.ErrRange, api.ErrRange, api.ErrRange, api.ErrMany, api.ErrForm, api.ErrDown, api.OK, api.ErrRange, api.OK}; !slices.Equal([]api.Errno{e, e1, e2, e3, e4, e5, e6, e7, e8, e9}, want) || len(two.Writes) != 1 || two.Sectors[0][5] != 1 || !down.Down {
		t.Error(e, e1, e2, e3, e4, e5, e6, e7, e8, e9)
	}
}

func TestPower(t *testing.T) { // P24.3
	d := put(made(2), 1, of(7))
	c, e := disk.Crash(d, []int{3})
	o, f := disk.On(c)
	b, _ := disk.Read(o, 1)
	_, g := disk.On(o)
	_, h := disk.Crash(d, nil)
	_, k := disk.Crash(d, []int{65})
	_, l := disk.Crash(d, []int{-1})
	if e != api.OK || !c.Down || len(c.Writes) != 0 || f != api.OK || !bytes.Equal(b, slices.Concat(of(7)[:3], of(0)[3:])) || g != api.ErrClash || h != api.ErrMany || k != api.ErrRange || l != api.ErrRange {
		t.Error(c, e, f, b, g, h, k, l)
	}
}

func TestMay(t *testing.T) { // P24.4
	d := put(made(1), 0, of(7))
	w, e := disk.Ways(d, 0)
	two := put(d, 0, of(9))
	_, f := disk.Ways(two, 0)
	c, _ := disk.Crash(two, []int{64, 2})
	if e != api.OK || len(w) != 65 || !bytes.Equal(w[0], of(0)) || !bytes.Equal(w[64], of(7)) || f != api.ErrMany || !bytes.Equal(c.Sectors[0], slices.Concat(of(9)[:2], of(7)[2:])) || !slices.IsSortedFunc(w, bytes.Compare) {
		t.Error(len(w), e, f, c.Sectors[0])
	}
	no, _ := disk.May(two, 0, slices.Concat([]byte{9}, of(0)[2:], []byte{9}))
	yes, _ := disk.May(two, 0, slices.Concat([]byte{9, 7}, of(0)[2:]))
	_, g := disk.May(two, 0, of(1)[1:])
	if no || !yes || g != api.ErrForm {
		t.Error(no, yes, g)
	}
	// Just what some crash leaves may be.
	var dice kit.Dice
	for i := range 200 {
		d := made(2)
		for j := range d.Sectors[0] {
			d.Sectors[0][j] = byte(dice.Roll(2))
		}
		for range dice.Roll(4) {
			b := of(0)
			for j := range b[:4] {
				b[j] = byte(dice.Roll(2))
			}
			copy(b[4:], d.Sectors[0][4:])
			d = put(d, dice.Roll(2), b)
		}
		may := map[string]bool{}
		for k := range 5 * 5 * 5 {
			kept := []int{k % 5, k / 5 % 5, k / 25}[:len(d.Writes)]
			c, _ := disk.Crash(d, kept)
			may[string(c.Sectors[0])] = true
		}
		ways, e := disk.Ways(d, 0)
		if e != api.OK || len(ways) != len(may) {
			t.Fatal(i, len(ways), len(may), e)
		}
		for k := range 16 {
			b := slices.Clone(d.Sectors[0])
			for j := range 4 {
				b[j] = byte(k >> j & 1)
			}
			if is, _ := disk.May(d, 0, b); is != may[string(b)] {
				t.Fatal(i, b[:4], is)
			}
		}
	}
}

func TestSeals(t *testing.T) { // P24.5
	s := api.Seal{Gen: 258, Kind: 3, Index: 1, Total: 2, Body: []byte{5, 6}}
	b, e := disk.Seal(s)
	want := slices.Concat([]byte{0, 0, 1, 2, 3, 1, 2, 2, 5, 6}, of(0)[:50], []byte{2, 1, 0, 0})
	o, f := disk.Open(b)
	if e != api.OK || f != api.OK || !bytes.Equal(b, want) || fmt.Sprint(o) != fmt.Sprint(s) {
		t.Error(b, o)
	}
	for i, x := range []struct {
		s api.Seal
		e api.Errno
	}{
		{api.Seal{Gen: disk.MaxGen, Kind: 255, Index: 255, Total: 255, Body: of(1)[:52]}, api.OK}, {api.Seal{Gen: 1, Kind: 1}, api.OK}, {api.Seal{Gen: 0, Kind: 1, Body: of(1)}, api.ErrRange}, {api.Seal{Gen: disk.MaxGen + 1, Kind: 1}, api.ErrRange}, {api.Seal{Gen: 1}, api.ErrRange}, {api.Seal{Gen: 1, Kind: 256}, api.ErrRange}, {api.Seal{Gen: 1, Kind: 1, Index: -1}, api.ErrRange}, {api.Seal{Gen: 1, Kind: 1, Index: 256}, api.ErrRange}, {api.Seal{Gen: 1, Kind: 1, Total: 256}, api.ErrRange}, {api.Seal{Gen: 1, Kind: 1, Total: -1}, api.ErrRange}, {api.Seal{Gen: 1, Kind: 1, Body: of(1)[:53]}, api.ErrLong},
	} {
		b, e := disk.Seal(x.s)
		o, f := disk.Open(b)
		if e != x.e || e == api.OK && (f != api.OK || fmt.Sprint(o) != fmt.Sprint(x.s)) {
			t.Error(i, e, f)
		}
	}
	change := func(at int, x byte) []byte { c := slices.Clone(b); c[at] = x; return c }
	for i, c := range [][]byte{change(20, 1), change(0, 1), change(63, 1), change(4, 0), change(7, 1), change(7, 53), change(7, 255), change(60, 3), of(0)} {
		if _, e := disk.Open(c); e != api.ErrWrong {
			t.Error(i, e)
		}
	}
	if _, e := disk.Open(b[1:]); e != api.ErrForm {
		t.Error(e)
	}
	x, e := disk.Torn(of(0), b, 62)
	y, _ := disk.Torn(of(0), b, 61)
	_, e1 := disk.Open(x)
	_, e2 := disk.Open(y)
	_, e3 := disk.Torn(of(0)[1:], b, 99)
	_, e4 := disk.Torn(of(0), b[1:], 1)
	_, e5 := disk.Torn(of(0), b, 65)
	_, e6 := disk.Torn(of(0), b, -1)
	if e != api.OK || e1 != api.OK || e2 != api.ErrWrong || e3 != api.ErrForm || e4 != api.ErrForm || e5 != api.ErrRange || e6 != api.ErrRange {
		t.Error(e, e1, e2, e3, e4, e5, e6)
	}
}

func TestWhatFollows(t *testing.T) { // P24.6 and P24.7
	var dice kit.Dice
	for i := range 300 {
		d := put(put(made(3), dice.Roll(3), of(1)), dice.Roll(3), of(2))
		f, _ := disk.Flush(d)
		whole, _ := disk.Crash(d, []int{64, 64})
		if !slices.EqualFunc(whole.Sectors, f.Sectors, bytes.Equal) {
			t.Error(i)
		}
		c, _ := disk.Crash(put(f, 0, of(9)), []int{dice.Roll(65)})
		if !bytes.Equal(c.Sectors[1], f.Sectors[1]) {
			t.Error(i)
		}
		a := api.Seal{Gen: 1 + dice.Roll(70000), Kind: 1 + dice.Roll(2), Body: of(byte(dice.Roll(2)))[:dice.Roll(53)]}
		b := api.Seal{Gen: a.Gen + 1 + dice.Roll(70000), Kind: 1 + dice.Roll(2), Body: of(byte(dice.Roll(2)))[:dice.Roll(53)]}
		x, _ := disk.Seal(a)
		y, _ := disk.Seal(b)
		old := x
		for n := range 65 {
			z, _ := disk.Torn(x, y, n)
			if o, e := disk.Open(z); e == api.OK && fmt.Sprint(o) != fmt.Sprint(a) && fmt.Sprint(o) != fmt.Sprint(b) {
				t.Fatal(i, n, o)
			} else if e != api.OK && dice.Roll(20) == 0 {
				old = z
			}
		}
		// What is torn once more, with a greater number, does not look whole either.
		last, _ := disk.Seal(api.Seal{Gen: b.Gen + 1 + dice.Roll(300), Kind: 3, Body: of(3)[:dice.Roll(53)]})
		for n := range 65 {
			z, _ := disk.Torn(old, last, n)
			if o, e := disk.Open(z); e == api.OK && o.Gen != a.Gen && o.Kind != 3 {
				t.Fatal(i, n, o)
			}
		}
	}
}
