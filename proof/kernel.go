package proof

import (
	"slices"

	"roundelay/alike"
	"roundelay/api"
	"roundelay/base"
	"roundelay/graph"
	"roundelay/rel"
	"roundelay/solve"
	"roundelay/sorts"
)

// work is goals at work with their rules: for each goal, the goals that are below it by what was chosen there.
type work struct {
	api.Rules
	goals []api.Goal
	next  [][]int
}

// below yields the goals below a goal by a clause, with the numbers of their atoms.
func (w work) below(clause, goal int) func(yield func(int, api.Goal) bool) {
	return func(yield func(int, api.Goal) bool) {
		l, _ := rel.Below(w.Rules, clause, w.goals[goal])
		for i, g := range l {
			if !yield(i, g) {
				return
			}
		}
	}
}

// key is what a goal is found by.
type key struct {
	rel  string
	args [rel.MaxArity]string
}

// keyOf returns the key of a right goal.
func keyOf(g api.Goal) key {
	k := key{rel: g.Rel}
	for i, t := range g.Args {
		u, _ := graph.Least(t)
		k.args[i] = graph.Key(u)
	}
	return k
}

// places returns for each goal the numbers at which it is.
func places(goals []api.Goal) map[key][]int {
	at := map[key][]int{}
	for i, g := range goals {
		k := keyOf(g)
		at[k] = append(at[k], i)
	}
	return at
}

// greatest returns the greatest of ranks.
func greatest(ranks ...int) int { return slices.Max(ranks) }

// isRound reports whether there is a round of places the greatest rank of which is bad.
func isRound(next [][]int, ranks []int, bad func(rank int) bool) bool {
	found := false
search:
	for at := range len(next) {
		if !bad(ranks[at]) {
			continue search
		}
		met := make([]bool, len(next))
		var visit func(i int)
		visit = func(i int) {
			for _, k := range next[i] {
				if greatest(ranks[at], ranks[k]) == ranks[at] && !met[k] {
					met[k] = true
					visit(k)
				}
			}
		}
		visit(at)
		if met[at] {
			found = true
			break search
		}
	}
	return found
}

// even and odd report what a rank is.
func even(rank int) bool { return rank%2 == 0 }
func odd(rank int) bool  { return rank%2 == 1 }

// ranks returns the ranks of the goals.
func (w work) ranks() []int {
	var l []int
	for _, g := range w.goals {
		i := base.First(w.Rels, func(r api.Rel) bool { return r.Name == g.Rel })
		l = append(l, w.Rels[i].Rank)
	}
	return l
}

// checkGoals returns the errors of goals: how many they are, and each one.
func checkGoals(r api.Rules, goals []api.Goal, right bool) api.Errno {
	if len(goals) < 1 || len(goals) > rel.MaxGoals || !right {
		return api.ErrMany
	}
	for _, g := range goals {
		if e := rel.CheckGoal(r, g); e != api.OK {
			return e
		}
	}
	return api.OK
}

// checkProof returns the errors of a proof.
func checkProof(r api.Rules, p api.Proof) api.Errno {
	if e := checkGoals(r, p.Goals, len(p.Clauses) == len(p.Goals)); e != api.OK {
		return e
	}
	if !base.Every(p.Clauses, base.Within(len(r.Clauses))) {
		return api.ErrNot
	}
	return api.OK
}

// checkRefutation returns the errors of a refutation.
func checkRefutation(r api.Rules, x api.Refutation) api.Errno {
	right := len(x.Picks) == len(x.Goals) && base.Every(x.Picks, func(l []int) bool { return len(l) == len(r.Clauses) })
	return checkGoals(r, x.Goals, right)
}

// proofOf returns a proof at work, if each clause fits its goal, and all goals below are among its goals.
func proofOf(r api.Rules, p api.Proof) (work, bool) {
	w := work{r, p.Goals, make([][]int, len(p.Goals))}
	at := places(p.Goals)
	for i, c := range p.Clauses {
		if fits, _ := rel.Fits(r, c, p.Goals[i]); !fits {
			return work{}, false
		}
		for _, g := range w.below(c, i) {
			l := at[keyOf(g)]
			if len(l) == 0 {
				return work{}, false
			}
			w.next[i] = append(w.next[i], l...)
		}
	}
	return w, true
}

// isProof reports whether a checked proof is one of its first goal.
func isProof(r api.Rules, p api.Proof) bool {
	w, is := proofOf(r, p)
	return is && !isRound(w.next, w.ranks(), even)
}

// isRefutation reports whether a checked refutation is one of its first goal.
func isRefutation(r api.Rules, x api.Refutation) bool {
	w := work{r, x.Goals, make([][]int, len(x.Goals))}
	at := places(x.Goals)
	for i, picks := range x.Picks {
		for c, pick := range picks {
			fits, _ := rel.Fits(r, c, x.Goals[i])
			if there := base.Within(len(r.Clauses[c].Body)); fits != there(pick) || !fits && pick != -1 {
				return false
			}
			if !fits {
				continue
			}
			var picked []int
			for n, g := range w.below(c, i) {
				if n == pick {
					picked = at[keyOf(g)]
				}
			}
			if len(picked) == 0 {
				return false
			}
			w.next[i] = append(w.next[i], picked...)
		}
	}
	return !isRound(w.next, w.ranks(), odd)
}

// sameAs is a goal that others are held against.
type sameAs struct{ api.Goal }

// is reports whether another goal is the same.
func (g sameAs) is(other api.Goal) bool { return rel.Same(g.Goal, other) }

// Proves reports whether a proof is one of a goal.
func Proves(r api.Rules, g api.Goal, p api.Proof) (bool, api.Errno) {
	if e := rel.CheckGoal(r, g); e != api.OK {
		return false, e
	}
	if e := checkProof(r, p); e != api.OK {
		return false, e
	}
	same := sameAs{g}.is
	return same(p.Goals[0]) && isProof(r, p), api.OK
}

// Refutes reports whether a refutation is one of a goal.
func Refutes(r api.Rules, g api.Goal, x api.Refutation) (bool, api.Errno) {
	if e := rel.CheckGoal(r, g); e != api.OK {
		return false, e
	}
	if e := checkRefutation(r, x); e != api.OK {
		return false, e
	}
	same := sameAs{g}.is
	return same(x.Goals[0]) && isRefutation(r, x), api.OK
}

// differs reports whether a path leads in two trees to nodes that differ at once.
func differs(a, b api.Tree, path []int) bool {
	x, y := a.Nodes[a.Root], b.Nodes[b.Root]
	for _, k := range path {
		if k < 0 || k >= len(x.Kids) || k >= len(y.Kids) {
			return false
		}
		x, y = a.Nodes[x.Kids[k]], b.Nodes[y.Kids[k]]
	}
	return x.Name != y.Name || len(x.Kids) != len(y.Kids)
}

// spot is a node and a sort.
type spot struct{ node, sort int }

// isOf reports whether pairs of a node and a sort show that a tree is of a type.
func isOf(ty api.Type, t api.Tree, pairs [][2]int) bool {
	at := map[spot]int{}
	for i, p := range pairs {
		at[spot{p[0], p[1]}] = i
	}
	next, ranks := make([][]int, len(pairs)), make([]int, len(pairs))
	for i, p := range pairs {
		n, s := t.Nodes[p[0]], ty.Sorts[p[1]]
		ranks[i] = s.Rank
		a := base.First(s.Alts, func(a api.Alt) bool { return a.Name == n.Name && len(a.Kids) == len(n.Kids) })
		if a < 0 {
			return false
		}
		for j, k := range n.Kids {
			below, is := at[spot{k, s.Alts[a].Kids[j]}]
			if !is {
				return false
			}
			next[i] = append(next[i], below)
		}
	}
	_, is := at[spot{t.Root, ty.Start}]
	return is && !isRound(next, ranks, even)
}

// acceptOf is Accept for Of.
func acceptOf(f Fact, e Evidence) (bool, api.Errno) {
	if len(e.Pairs) > api.MaxNodes*sorts.MaxSorts {
		return false, api.ErrMany
	}
	node, sort := base.Within(len(f.A.Nodes)), base.Within(len(f.Type.Sorts))
	if !base.Every(e.Pairs, func(p [2]int) bool { return node(p[0]) && sort(p[1]) }) {
		return false, api.ErrNot
	}
	return isOf(f.Type, f.A, e.Pairs), api.OK
}

// acceptApart is Accept for Apart.
func acceptApart(f Fact, e Evidence) (bool, api.Errno) {
	if len(e.Stem) > sorts.MaxLong {
		return false, api.ErrMany
	}
	return differs(f.A, f.B, e.Stem), api.OK
}

// acceptValue is Accept for Value.
func acceptValue(f Fact, e Evidence) (bool, api.Errno) {
	is, err := solve.Holds(f.Prog, e.Table)
	if err != api.OK || !is {
		return false, err
	}
	n, err := solve.Find(e.Table, f.Name, f.Args)
	if err != api.OK {
		return false, api.OK
	}
	return alike.Alike(e.Table.Rows[n].Value, f.A)
}
