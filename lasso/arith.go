package lasso

import (
	"roundelay/api"
	"roundelay/base"
	"roundelay/graph"
	"roundelay/tree"
)

// left and right have the first and the second stream.
type left struct{ a stream }
type right struct{ b stream }

// both is two streams, and how their elements are put together.
type both struct {
	left
	right
	put func(x, y int) int
}

// at returns the n-th element of what is put together.
func (p both) at(n int) int { return p.put(p.a.at(n), p.b.at(n)) }

// result returns the stream of what is put together.
func (p both) result() (api.Lasso, api.Errno) {
	return build(p.a.Mod, max(len(p.a.Stem), len(p.b.Stem)), lcm(len(p.a.Round), len(p.b.Round)), p.at)
}

// build returns the stream of elements with a stem and a round of these lengths.
func build(mod, stem, round int, at func(n int) int) (api.Lasso, api.Errno) {
	l := make([]int, stem+round)
	for n := range l {
		l[n] = at(n)
	}
	return least(mod, l[:stem], l[stem:])
}

// pair returns what is made of two streams element by element.
func pair(a, b api.Lasso, put func(x, y int) int) (api.Lasso, api.Errno) {
	if e := check(a, b); e != api.OK {
		return api.Lasso{}, e
	}
	return both{left{stream{a}}, right{stream{b}}, put}.result()
}

// Sum returns the stream of the sums of elements.
func Sum(a, b api.Lasso) (api.Lasso, api.Errno) {
	return pair(a, b, func(x, y int) int { return (x + y) % a.Mod })
}

// Times returns the stream of the products of elements.
func Times(a, b api.Lasso) (api.Lasso, api.Errno) {
	return pair(a, b, func(x, y int) int { return x * y % a.Mod })
}

// norm returns the residue of a number.
func norm(n, mod int) int { return (n%mod + mod) % mod }

// Scale returns the stream of a number times each element.
func Scale(l api.Lasso, by int) (api.Lasso, api.Errno) {
	return pair(l, l, func(x, _ int) int { return norm(by, l.Mod) * x % l.Mod })
}

// summed returns the stream y of which the n-th element is that of a stream with a stem and a round of these lengths, and y's a step before.
func summed(mod, stem, round, step int, at func(n int) int) (api.Lasso, api.Errno) {
	// From the stem on, after so many elements each one is greater by a number that depends on its place in a step alone.
	both := lcm(round, step)
	before := make([]int, step)
	next := func(n int) int {
		before[n%step] = (before[n%step] + at(n)) % mod
		return before[n%step]
	}
	var l []int
	for n := range stem {
		l = append(l, next(n))
	}
	start := make([]int, step)
	copy(start, before)
	for n := range both {
		l = append(l, next(stem+n))
	}
	times := 1
	for i, v := range before {
		// The round of the result is a multiple of how often each number must be added to come back.
		if times = lcm(times, mod/gcd(mod, norm(v-start[i], mod))); times > MaxRound {
			return api.Lasso{}, api.ErrLong
		}
	}
	for n := range both * (times - 1) {
		l = append(l, next(stem+both+n))
	}
	return least(mod, l[:stem], l[stem:])
}

// Scan returns the stream of sums a step apart.
func Scan(l api.Lasso, step int) (api.Lasso, api.Errno) {
	if e := check(l); e != api.OK {
		return api.Lasso{}, e
	}
	if step < 1 || step > MaxRound {
		return api.Lasso{}, api.ErrRange
	}
	return summed(l.Mod, len(l.Stem), len(l.Round), step, stream{l}.at)
}

// Convolve returns the stream of the sums of products.
func Convolve(a, b api.Lasso) (api.Lasso, api.Errno) {
	if e := check(a, b); e != api.OK {
		return api.Lasso{}, e
	}
	x, _ := Least(a)
	y, _ := Least(b)
	s, t := stream{x}, stream{y}
	step := len(x.Round)
	// The differences of the first stream, a round apart, come to an end; their product with the second one is summed up a round apart.
	ends := make([]int, len(x.Stem)+step)
	for n := range ends {
		ends[n] = s.at(n)
		if n >= step {
			ends[n] = norm(s.at(n)-s.at(n-step), x.Mod)
		}
	}
	product := func(n int) int {
		sum := 0
		for i := range min(n+1, len(ends)) {
			sum += ends[i] * t.at(n-i) % x.Mod
		}
		return sum % x.Mod
	}
	stem := len(ends) + len(y.Stem)
	first := make([]int, stem+len(y.Round))
	for n := range first {
		first[n] = product(n)
	}
	z := stream{api.Lasso{Mod: x.Mod, Stem: first[:stem], Round: first[stem:]}}
	return summed(x.Mod, stem, len(y.Round), step, z.at)
}

// letters returns the letters of a number.
func letters(n int) string {
	all := [26]byte{}
	for i := range all {
		all[i] = 'a' + byte(i)
	}
	s := string(all[n%26 : n%26+1])
	for n /= 26; n > 0; n /= 26 {
		s = string(all[n%26:n%26+1]) + s
	}
	return s
}

// number returns the number of letters, if they are those of one.
func number(s string) (int, bool) {
	n := 0
	for i := range len(s) {
		n = n*26 + int(s[i]-'a')
	}
	return n, letters(n) == s
}

// Tree returns the tree of a stream.
func Tree(l api.Lasso) (api.Tree, api.Errno) {
	u, e := Least(l)
	if e != api.OK {
		return api.Tree{}, e
	}
	many := len(u.Stem) + len(u.Round)
	var t api.Tree
	for n := range many {
		next := n + 1
		if next == many {
			next = len(u.Stem)
		}
		t.Nodes = append(t.Nodes, api.Node{Name: "cons", Kids: []int{many + n, next}})
	}
	for n := range many {
		t.Nodes = append(t.Nodes, api.Node{Name: letters(stream{u}.at(n))})
	}
	return graph.Least(t)
}

// Read returns the stream whose tree is one.
func Read(t api.Tree, mod int) (api.Lasso, api.Errno) {
	if e := tree.Check(t); e != api.OK {
		return api.Lasso{}, e
	}
	if mod < 2 || mod > MaxMod {
		return api.Lasso{}, api.ErrRange
	}
	met := map[int]int{}
	var at, values []int
	node := t.Root
	for {
		if _, is := met[node]; is {
			break
		}
		met[node] = len(values)
		n := t.Nodes[node]
		if n.Name != "cons" || len(n.Kids) != 2 || len(t.Nodes[n.Kids[0]].Kids) > 0 {
			return api.Lasso{}, api.ErrForm
		}
		v, is := number(t.Nodes[n.Kids[0]].Name)
		if !is || v >= mod {
			return api.Lasso{}, api.ErrForm
		}
		at, values = append(at, node), append(values, v)
		node = n.Kids[1]
	}
	stem := base.First(at, base.Is(node))
	return least(mod, values[:stem], values[stem:])
}
