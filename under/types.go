package under

import (
	"slices"

	"roundelay/alike"
	"roundelay/api"
	"roundelay/base"
	"roundelay/graph"
	"roundelay/sorts"
)

// builder makes a tree along a thread: nodes, and for each sort the number of the node of a tree of it, or -1.
type builder struct {
	both
	nodes []api.Node
	some  []int
}

// fill adds a tree of a sort once, and returns its root.
func (w *builder) fill(sort int) int {
	if w.some[sort] < 0 {
		ty, _ := sorts.Start(w.a, sort)
		t, _ := sorts.Some(ty)
		w.some[sort] = len(w.nodes)
		for _, n := range t.Nodes {
			kids := slices.Clone(n.Kids)
			for i := range kids {
				kids[i] += w.some[sort]
			}
			w.nodes = append(w.nodes, api.Node{Name: n.Name, Kids: kids})
		}
	}
	return w.some[sort]
}

// along adds a node for each step of a thread, from the sort Start on; the last one leads to a node, if the thread has a round.
func (w *builder) along(t Thread) {
	steps := slices.Concat(t.Stem, t.Round)
	at := w.a.Start
	w.nodes = make([]api.Node, len(steps))
	for i, s := range steps {
		a, _ := find(w.a.Sorts[at], s)
		kids := make([]int, len(a.Kids))
		for j, k := range a.Kids {
			switch {
			case j != s.Kid || i+1 == len(steps) && len(t.Round) == 0:
				kids[j] = w.fill(k)
			case i+1 == len(steps):
				kids[j] = len(t.Stem)
			default:
				kids[j] = i + 1
			}
		}
		w.nodes[i] = api.Node{Name: a.Name, Kids: kids}
		if s.Kid < len(a.Kids) {
			at = a.Kids[s.Kid]
		}
	}
}

// Beyond returns a tree of a type that is no tree of another one.
func Beyond(a, b api.Type) (api.Tree, api.Errno) {
	if e := check(a, b); e != api.OK {
		return api.Tree{}, e
	}
	w := begin(a, b)
	t, pairs, is := w.why()
	if !is {
		return api.Tree{}, api.ErrNone
	}
	// A type that is not under another one is not empty.
	trimmed, _ := sorts.Trim(a)
	if 3*pairs+len(trimmed.Sorts) > api.MaxNodes {
		return api.Tree{}, api.ErrLong
	}
	build := &builder{both: w, some: slices.Repeat([]int{-1}, len(a.Sorts))}
	build.along(t)
	// The trees of several sorts have the same nodes again, so that only the least graph is small enough.
	return graph.Least(api.Tree{Nodes: build.nodes})
}

// Apart returns a tree that is of one of two types and not of the other one.
func Apart(a, b api.Type) (api.Tree, api.Errno) {
	is, e := Under(a, b)
	if e != api.OK {
		return api.Tree{}, e
	}
	if is {
		return Beyond(b, a)
	}
	return Beyond(a, b)
}

// Only returns the only tree of a type.
func Only(ty api.Type) (api.Tree, api.Errno) {
	if e := check(ty); e != api.OK {
		return api.Tree{}, e
	}
	u, e := sorts.Trim(ty)
	if e != api.OK {
		return api.Tree{}, e
	}
	var t api.Tree
	for _, s := range u.Sorts {
		if len(s.Alts) > 1 {
			return api.Tree{}, api.ErrMany
		}
		t.Nodes = append(t.Nodes, api.Node{Name: s.Alts[0].Name, Kids: s.Alts[0].Kids})
	}
	return alike.Least(t)
}

// form is what a sort is, if the classes of the sorts below are known: its rank, or its alternatives.
type form struct {
	class int
	head  Step
	kids  [api.MaxKids]int
}

// split returns the classes of sorts that are alike, by the classes before.
func split(ty api.Type, class []int) ([]int, int) {
	type key [sorts.MaxAlts + 1]form
	met := map[key]int{}
	l := make([]int, len(class))
	for i, s := range ty.Sorts {
		var forms []form
		for _, a := range s.Alts {
			f := form{head: Step{a.Name, len(a.Kids), 0}}
			for j, k := range a.Kids {
				f.kids[j] = class[k] + 1
			}
			forms = append(forms, f)
		}
		// The order of alternatives does not matter, so they are ordered by their heads.
		slices.SortFunc(forms, func(x, y form) int {
			return slices.Compare([]string{x.head.Name, string(rune(x.head.Many))}, []string{y.head.Name, string(rune(y.head.Many))})
		})
		k := key{{class: class[i]}}
		copy(k[1:], forms)
		if _, is := met[k]; !is {
			met[k] = len(met)
		}
		l[i] = met[k]
	}
	return l, len(met)
}

// alikes returns the classes of sorts that are alike.
func alikes(ty api.Type) []int {
	class := make([]int, len(ty.Sorts))
	for i, s := range ty.Sorts {
		class[i] = s.Rank
	}
	many := 0
	for {
		next, more := split(ty, class)
		if more == many {
			return next
		}
		class, many = next, more
	}
}

// Fold returns the type in which sorts that are alike are one.
func Fold(ty api.Type) (api.Type, api.Errno) {
	if e := check(ty); e != api.OK {
		return api.Type{}, e
	}
	class := alikes(ty)
	to := map[int]int{class[ty.Start]: 0}
	first := []int{ty.Start}
	var u api.Type
	for i := 0; i < len(first); i++ {
		s := api.Sort{Rank: ty.Sorts[first[i]].Rank}
		for _, a := range ty.Sorts[first[i]].Alts {
			kids := make([]int, len(a.Kids))
			for j, k := range a.Kids {
				if _, is := to[class[k]]; !is {
					to[class[k]] = len(first)
					first = append(first, k)
				}
				kids[j] = to[class[k]]
			}
			s.Alts = append(s.Alts, api.Alt{Name: a.Name, Kids: kids})
		}
		u.Sorts = append(u.Sorts, s)
	}
	return u, api.OK
}

// even reports whether all ranks of a type are even, odd whether all are odd.
func even(ty api.Type) bool {
	return base.Every(ty.Sorts, func(s api.Sort) bool { return s.Rank%2 == 0 })
}

func odd(ty api.Type) bool {
	return base.Every(ty.Sorts, func(s api.Sort) bool { return s.Rank%2 == 1 })
}

// Plain reports whether a type is plain.
func Plain(ty api.Type) (bool, api.Errno) {
	if e := check(ty); e != api.OK {
		return false, e
	}
	u, e := sorts.Trim(ty)
	return e == api.ErrNone || even(u) || odd(u), api.OK
}

// Meet returns a type that has just the trees that two types both have.
func Meet(a, b api.Type) (api.Type, api.Errno) {
	if e := check(a, b); e != api.OK {
		return api.Type{}, e
	}
	x, e := sorts.Trim(a)
	y, f := sorts.Trim(b)
	if e != api.OK || f != api.OK {
		return api.Type{}, api.ErrNone
	}
	plainA, plainB := even(x) || odd(x), even(y) || odd(y)
	if !plainA && !plainB {
		return api.Type{}, api.ErrClash
	}
	w := begin(x, y)
	var l []pair
	number := map[pair]int{}
	for p := range w.pairs(pair{}) {
		number[p] = len(l)
		l = append(l, p)
	}
	if len(l) > sorts.MaxSorts {
		return api.Type{}, api.ErrMany
	}
	var u api.Type
	for _, p := range l {
		s := api.Sort{}
		if inA, inB := w.ranks(p); !even(x) && !even(y) {
			s.Rank = inA
			if plainA && !plainB {
				s.Rank = inB
			}
		}
		for _, alt := range x.Sorts[p[0]].Alts {
			other, is := find(y.Sorts[p[1]], Step{alt.Name, len(alt.Kids), 0})
			if !is {
				continue
			}
			kids := make([]int, len(alt.Kids))
			for i, k := range alt.Kids {
				kids[i] = number[pair{k, other.Kids[i]}]
			}
			s.Alts = append(s.Alts, api.Alt{Name: alt.Name, Kids: kids})
		}
		u.Sorts = append(u.Sorts, s)
	}
	return sorts.Trim(u)
}

// none is where one of two types has no sort.
const none = -1

// alts returns the alternatives of a sort, or no alternatives where there is none.
func alts(ty api.Type, sort int) []api.Alt {
	if sort == none {
		return nil
	}
	return ty.Sorts[sort].Alts
}

// joint returns the heads of a pair, each with the pairs below.
func (w both) joint(p pair) (heads []Step, below [][]pair) {
	inA, inB := api.Sort{Alts: alts(w.a, p[0])}, api.Sort{Alts: alts(w.b, p[1])}
	for _, alt := range slices.Concat(inA.Alts, inB.Alts) {
		head := Step{alt.Name, len(alt.Kids), 0}
		if slices.Contains(heads, head) {
			continue
		}
		x, isA := find(inA, head)
		y, isB := find(inB, head)
		l := make([]pair, head.Many)
		for i := range l {
			l[i] = pair{none, none}
			if isA {
				l[i][0] = x.Kids[i]
			}
			if isB {
				l[i][1] = y.Kids[i]
			}
		}
		heads, below = append(heads, head), append(below, l)
	}
	return heads, below
}

// Cover returns the least of the types with the rank 1 under which two types are.
func Cover(a, b api.Type) (api.Type, api.Errno) {
	if e := check(a, b); e != api.OK {
		return api.Type{}, e
	}
	x, e := sorts.Trim(a)
	y, f := sorts.Trim(b)
	if e != api.OK && f != api.OK {
		return api.Type{}, api.ErrNone
	}
	start := pair{}
	if e != api.OK {
		start[0] = none
	}
	if f != api.OK {
		start[1] = none
	}
	w := both{left: left{x}, right: right{y}}
	number := map[pair]int{start: 0}
	l := []pair{start}
	var u api.Type
	for i := 0; i < len(l); i++ {
		s := api.Sort{Rank: 1}
		heads, below := w.joint(l[i])
		for j, h := range heads {
			kids := make([]int, h.Many)
			for k, p := range below[j] {
				if _, is := number[p]; !is {
					number[p] = len(l)
					l = append(l, p)
				}
				kids[k] = number[p]
			}
			s.Alts = append(s.Alts, api.Alt{Name: h.Name, Kids: kids})
		}
		u.Sorts = append(u.Sorts, s)
		if len(l) > sorts.MaxSorts || len(s.Alts) > sorts.MaxAlts {
			return api.Type{}, api.ErrMany
		}
	}
	return u, api.OK
}
