package sorts

import (
	"roundelay/api"
	"roundelay/game"
)

// pair is a node, and a sort that it has at some path.
type pair = [2]int

// walk is a type at work, and a tree whose nodes have its sorts.
type walk struct {
	work
	t api.Tree
}

// below returns the pairs below a pair, and whether the path goes on; otherwise it is lost.
func (w walk) below(p pair) ([]pair, bool) {
	n := w.t.Nodes[p[0]]
	for _, a := range w.Sorts[p[1]].Alts {
		if (head{a.Name, len(a.Kids)}) != (head{n.Name, len(n.Kids)}) {
			continue
		}
		l := make([]pair, len(a.Kids))
		for i, s := range a.Kids {
			l[i] = pair{n.Kids[i], s}
		}
		return l, true
	}
	return nil, false
}

// product is all pairs of a node and a sort, which pairs are next to each, their ranks, and the first one that is lost, or -1.
type product struct {
	pairs []pair
	next  [][]int
	ranks []int
	lost  int
}

// product returns the product of the type and the tree.
func (w walk) product() product {
	start := pair{w.t.Root, w.Start}
	number := map[pair]int{start: 0}
	p := product{pairs: []pair{start}, lost: -1}
	for i := 0; i < len(p.pairs); i++ {
		below, on := w.below(p.pairs[i])
		if !on && p.lost < 0 {
			p.lost = i
		}
		var next []int
		for _, k := range below {
			if _, is := number[k]; !is {
				number[k] = len(p.pairs)
				p.pairs = append(p.pairs, k)
			}
			next = append(next, number[k])
		}
		p.next = append(p.next, next)
		p.ranks = append(p.ranks, w.Sorts[p.pairs[i][1]].Rank)
	}
	return p
}

// way returns a path from the root to a pair.
func (p product) way(to int) []int {
	if to == 0 {
		return nil
	}
	path, _ := game.Way(p.next, 0, to, func(int) bool { return true })
	return path
}

// why returns what shows that the tree is not of the type, if it is not.
func (w walk) why() (stem, round []int, is bool) {
	p := w.product()
	if p.lost >= 0 {
		return p.way(p.lost), nil, true
	}
	at, round, is := game.Round(p.next, p.ranks, func(rank int) bool { return !w.wins(rank) })
	if !is {
		return nil, nil, false
	}
	return p.way(at), round, true
}

// Has reports whether a tree is of a type.
func Has(ty api.Type, t api.Tree) (bool, api.Errno) {
	if e := check(ty, t); e != api.OK {
		return false, e
	}
	_, _, is := walk{begin(ty), t}.why()
	return !is, api.OK
}

// Why returns what shows that a tree is not of a type.
func Why(ty api.Type, t api.Tree) (stem, round []int, e api.Errno) {
	if e := check(ty, t); e != api.OK {
		return nil, nil, e
	}
	stem, round, is := walk{begin(ty), t}.why()
	if !is {
		return nil, nil, api.ErrNone
	}
	return stem, round, api.OK
}

// Sorted returns all pairs of a node and a sort that it has.
func Sorted(ty api.Type, t api.Tree) ([][2]int, api.Errno) {
	if e := check(ty, t); e != api.OK {
		return nil, e
	}
	return walk{begin(ty), t}.product().pairs, api.OK
}

// greatest returns the greatest of ranks.
func greatest(ranks ...int) int {
	g := 0
	for _, r := range ranks {
		g = max(g, r)
	}
	return g
}

// follow returns the pairs that a path meets from a pair on, without this one, if it goes on.
func (w walk) follow(p pair, path []int) ([]pair, bool) {
	var l []pair
	for _, k := range path {
		below, on := w.below(p)
		if !on || k < 0 || k >= len(below) {
			return nil, false
		}
		p = below[k]
		l = append(l, p)
	}
	return l, true
}

// shows reports whether a stem and a round show that the tree is not of the type.
func (w walk) shows(stem, round []int) bool {
	at := pair{w.t.Root, w.Start}
	l, is := w.follow(at, stem)
	if !is {
		return false
	}
	if len(l) > 0 {
		at = l[len(l)-1]
	}
	if len(round) == 0 {
		_, on := w.below(at)
		return !on
	}
	l, is = w.follow(at, round)
	if !is || l[len(l)-1] != at {
		return false
	}
	var ranks []int
	for _, p := range l {
		ranks = append(ranks, w.Sorts[p[1]].Rank)
	}
	return !w.wins(greatest(ranks...))
}

// Shows reports whether a stem and a round show that a tree is not of a type.
func Shows(ty api.Type, t api.Tree, stem, round []int) (bool, api.Errno) {
	if e := check(ty, t); e != api.OK {
		return false, e
	}
	if len(stem)+len(round) > MaxLong {
		return false, api.ErrMany
	}
	return walk{begin(ty), t}.shows(stem, round), api.OK
}
