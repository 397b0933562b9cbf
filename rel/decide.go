package rel

import (
	"roundelay/api"
	"roundelay/base"
	"roundelay/game"
	"roundelay/graph"
)

// key is what a goal is found by: its relation, and the keys of the least graphs of its trees.
type key struct {
	rel  string
	args [MaxArity]string
}

// keyOf returns the key of a goal whose trees are least graphs.
func keyOf(g api.Goal) key {
	k := key{rel: g.Rel}
	for i, t := range g.Args {
		k.args[i] = graph.Key(t)
	}
	return k
}

// stands returns the tree that each variable of a clause stands for in a goal of its relation, if the clause fits it.
func stands(c api.Clause, g api.Goal) (map[string]api.Tree, bool) {
	m := map[string]api.Tree{}
	// put reports whether a variable stands for a tree, and for no other one.
	put := func(v string, t api.Tree) bool {
		u, _ := graph.Least(t)
		old, is := m[v]
		m[v] = u
		return !is || graph.Same(old, u)
	}
	fits := true
patterns:
	for i, p := range c.Head {
		t := g.Args[i]
		if p.Name == "" {
			fits = fits && put(p.Vars[0], t)
			continue patterns
		}
		root := t.Nodes[t.Root]
		if root.Name != p.Name || len(root.Kids) != len(p.Vars) {
			fits = false
			break patterns
		}
		for j, v := range p.Vars {
			fits = put(v, api.Tree{Nodes: t.Nodes, Root: root.Kids[j]}) && fits
		}
	}
	return m, fits
}

// below returns the goals below a goal by a clause, if it is of its relation and fits it.
func (w work) below(clause int, g api.Goal) ([]api.Goal, bool) {
	c := w.Clauses[clause]
	if c.Rel != g.Rel {
		return nil, false
	}
	m, fits := stands(c, g)
	if !fits {
		return nil, false
	}
	var l []api.Goal
	for _, a := range c.Body {
		b := api.Goal{Rel: a.Rel}
		for _, v := range a.Args {
			b.Args = append(b.Args, graph.Copy(m[v]))
		}
		l = append(l, b)
	}
	return l, true
}

// allBelow yields the numbers of the clauses that fit a goal, each with the goals below by it.
func (w work) allBelow(g api.Goal) func(yield func(int, []api.Goal) bool) {
	return func(yield func(int, []api.Goal) bool) {
		for i := range w.Clauses {
			if l, fits := w.below(i, g); fits && !yield(i, l) {
				return
			}
		}
	}
}

// question is the goals of a question, and for each of them and each clause the numbers of the goals below, if it fits.
type question struct {
	work
	goals []api.Goal
	next  [][][]int
	fits  [][]bool
	at    map[key]int
}

// add adds goals, each when it is met for the first time, and returns their numbers.
func (q *question) add(goals ...api.Goal) []int {
	l := make([]int, len(goals))
	for i, g := range goals {
		k := keyOf(g)
		n, is := q.at[k]
		if !is {
			n = len(q.goals)
			q.at[k] = n
			q.goals = append(q.goals, g)
		}
		l[i] = n
	}
	return l
}

// ask returns the goals of a question: those of CheckGoal, ErrGrow.
func ask(r api.Rules, g api.Goal) (*question, api.Errno) {
	if e := CheckGoal(r, g); e != api.OK {
		return nil, e
	}
	q := &question{work: begin(r), at: map[key]int{}}
	q.add(base.LeastGoal(g))
	for i := 0; i < len(q.goals); i++ {
		next, fits := make([][]int, len(r.Clauses)), make([]bool, len(r.Clauses))
		for c, l := range q.allBelow(q.goals[i]) {
			next[c], fits[c] = q.add(l...), true
		}
		if len(q.goals) > MaxGoals {
			return nil, api.ErrGrow
		}
		q.next, q.fits = append(q.next, next), append(q.fits, fits)
	}
	return q, api.OK
}

// play is how the game of a question goes: who wins at each goal, and for each goal the clause, or for each clause that fits it the atom, that is chosen there by who wins; otherwise -1.
type play struct {
	wins   []bool
	clause []int
	atom   [][]int
}

// play plays the game.
func (q *question) play() play {
	many := len(q.goals)
	l := make([]game.Position, many)
	at := make([][]int, many)
	for i, g := range q.goals {
		l[i] = game.Position{Mine: q.mine(true), Rank: q.Rels[q.find(g.Rel)].Rank}
		at[i] = make([]int, len(q.Clauses))
		for c, next := range q.next[i] {
			if q.fits[i][c] {
				at[i][c] = len(l)
				l[i].Next = append(l[i].Next, len(l))
				l = append(l, game.Position{Mine: q.mine(false), Next: next})
			}
		}
	}
	win, pick := game.Solve(l)
	p := play{wins: win[:many]}
	for i := range many {
		clause := -1
		atoms := make([]int, len(q.Clauses))
		passed := 0
		for c := range q.Clauses {
			atoms[c] = -1
			if !q.fits[i][c] {
				continue
			}
			if passed == pick[i] {
				clause = c
			}
			atoms[c] = pick[at[i][c]]
			passed++
		}
		p.clause, p.atom = append(p.clause, clause), append(p.atom, atoms)
	}
	return p
}

// Decide reports whether a goal holds.
func Decide(r api.Rules, goal api.Goal) (bool, api.Errno) {
	q, e := ask(r, goal)
	if e != api.OK {
		return false, e
	}
	return q.play().wins[0], api.OK
}

// Goals returns the goals of a question.
func Goals(r api.Rules, goal api.Goal) ([]api.Goal, api.Errno) {
	q, e := ask(r, goal)
	if e != api.OK {
		return nil, e
	}
	return q.goals, api.OK
}

// set says of which goals something is so.
type set [MaxGoals]bool

// closed returns the goals to which a way of choosing leads from the first one, with itself.
func (q *question) closed(next func(goal int) []int) set {
	var all set
	all[0] = true
	further := func(l set) set {
		for i := range q.goals {
			if l[i] {
				for _, k := range next(i) {
					l[k] = true
				}
			}
		}
		return l
	}
	for l := further(all); l != all; l = further(all) {
		all = l
	}
	return all
}

// Prove returns a proof of a goal.
func Prove(r api.Rules, goal api.Goal) (api.Proof, api.Errno) {
	q, e := ask(r, goal)
	if e != api.OK {
		return api.Proof{}, e
	}
	p := q.play()
	if !p.wins[0] {
		return api.Proof{}, api.ErrNone
	}
	var proof api.Proof
	for i, is := range q.closed(func(g int) []int { return q.next[g][p.clause[g]] }) {
		if is {
			proof.Goals = append(proof.Goals, q.goals[i])
			proof.Clauses = append(proof.Clauses, p.clause[i])
		}
	}
	return proof, api.OK
}

// Refute returns a refutation of a goal.
func Refute(r api.Rules, goal api.Goal) (api.Refutation, api.Errno) {
	q, e := ask(r, goal)
	if e != api.OK {
		return api.Refutation{}, e
	}
	p := q.play()
	if p.wins[0] {
		return api.Refutation{}, api.ErrNone
	}
	picked := func(g int) []int {
		var l []int
		for c, atom := range p.atom[g] {
			if atom >= 0 {
				l = append(l, q.next[g][c][atom])
			}
		}
		return l
	}
	var x api.Refutation
	for i, is := range q.closed(picked) {
		if is {
			x.Goals = append(x.Goals, q.goals[i])
			x.Picks = append(x.Picks, p.atom[i])
		}
	}
	return x, api.OK
}

// checkClauseOf returns the errors of rules and a goal, then that of the number of a clause.
func checkClauseOf(r api.Rules, clause int, g api.Goal) api.Errno {
	if e := CheckGoal(r, g); e != api.OK {
		return e
	}
	if there := base.Within(len(r.Clauses)); !there(clause) {
		return api.ErrNot
	}
	return api.OK
}

// Fits reports whether a clause fits a goal.
func Fits(r api.Rules, clause int, g api.Goal) (bool, api.Errno) {
	if e := checkClauseOf(r, clause, g); e != api.OK {
		return false, e
	}
	_, fits := begin(r).below(clause, g)
	return fits, api.OK
}

// Below returns the goals below a goal by a clause.
func Below(r api.Rules, clause int, g api.Goal) ([]api.Goal, api.Errno) {
	if e := checkClauseOf(r, clause, g); e != api.OK {
		return nil, e
	}
	l, fits := begin(r).below(clause, g)
	if !fits {
		return nil, api.ErrClash
	}
	return l, api.OK
}
