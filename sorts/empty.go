package sorts

import (
	"roundelay/api"
	"roundelay/base"
	"roundelay/game"
)

// full returns for each sort whether a tree is of it, and, if so, the number of an alternative of which one is.
func (w work) full() ([]bool, []int) {
	// The positions are the sorts, where an alternative is chosen, then the alternatives, where the other player chooses what is below.
	l := make([]game.Position, len(w.Sorts))
	for i, s := range w.Sorts {
		l[i] = game.Position{Mine: true, Rank: s.Rank}
		for _, a := range s.Alts {
			l[i].Next = append(l[i].Next, len(l))
			l = append(l, game.Position{Next: a.Kids})
		}
	}
	win, pick := game.Solve(l)
	return win[:len(w.Sorts)], pick[:len(w.Sorts)]
}

// Empty reports whether a sort is empty.
func Empty(ty api.Type, sortNumber int) (bool, api.Errno) {
	if e := Check(ty); e != api.OK {
		return false, e
	}
	w := begin(ty)
	if !w.there(sortNumber) {
		return false, api.ErrNot
	}
	full, _ := w.full()
	loses := func(sort int) bool { return !full[sort] }
	return loses(sortNumber), api.OK
}

// reached yields the sorts that are reached from Start, by breadth.
func (w work) reached(yield func(int) bool) {
	met := make([]bool, len(w.Sorts))
	met[w.Start] = true
search:
	for queue := []int{w.Start}; len(queue) > 0; queue = queue[1:] {
		if !yield(queue[0]) {
			break search
		}
		for _, a := range w.Sorts[queue[0]].Alts {
			for _, k := range a.Kids {
				if !met[k] {
					met[k] = true
					queue = append(queue, k)
				}
			}
		}
	}
}

// only returns the type of the sorts that are reached, numbered by breadth.
func (w work) only() api.Type {
	to := make([]int, len(w.Sorts))
	var u api.Type
	for s := range w.reached {
		to[s] = len(u.Sorts)
		u.Sorts = append(u.Sorts, w.Sorts[s])
	}
	u = base.CopyType(u)
	for _, s := range u.Sorts {
		for _, a := range s.Alts {
			for i, k := range a.Kids {
				a.Kids[i] = to[k]
			}
		}
	}
	return u
}

// Some returns a tree of a type.
func Some(ty api.Type) (api.Tree, api.Errno) {
	if e := Check(ty); e != api.OK {
		return api.Tree{}, e
	}
	w := begin(base.CopyType(ty))
	full, pick := w.full()
	if !full[ty.Start] {
		return api.Tree{}, api.ErrNone
	}
	for i, s := range w.Sorts {
		w.Sorts[i].Alts = nil
		if full[i] {
			w.Sorts[i].Alts = []api.Alt{s.Alts[pick[i]]}
		}
	}
	var t api.Tree
	for _, s := range w.only().Sorts {
		t.Nodes = append(t.Nodes, api.Node{Name: s.Alts[0].Name, Kids: s.Alts[0].Kids})
	}
	return t, api.OK
}

// Trim returns a type without all that is of no use.
func Trim(ty api.Type) (api.Type, api.Errno) {
	if e := Check(ty); e != api.OK {
		return api.Type{}, e
	}
	w := begin(base.CopyType(ty))
	full, _ := w.full()
	if !full[ty.Start] {
		return api.Type{}, api.ErrNone
	}
	for i, s := range w.Sorts {
		var l []api.Alt
		for _, a := range s.Alts {
			if base.Every(a.Kids, func(k int) bool { return full[k] }) {
				l = append(l, a)
			}
		}
		w.Sorts[i].Alts = l
	}
	return w.only(), api.OK
}
