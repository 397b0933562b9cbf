package proof

import (
	"slices"

	"roundelay/api"
	"roundelay/base"
	"roundelay/rel"
)

// right returns the errors of a proof, and ErrWrong if it is no proof of its first goal.
func right(r api.Rules, p api.Proof) api.Errno {
	if e := checkProof(r, p); e != api.OK {
		return e
	}
	if !isProof(r, p) {
		return api.ErrWrong
	}
	return api.OK
}

// from returns the tidy proof of a goal of a proof.
func from(r api.Rules, p api.Proof, g api.Goal) api.Proof {
	first := places(p.Goals)
	w := work{Rules: r}
	var tidy api.Proof
	met := map[key]bool{}
	meet := func(g api.Goal) {
		k := keyOf(g)
		if !met[k] {
			met[k] = true
			w.goals = append(w.goals, base.LeastGoal(g))
			tidy.Clauses = append(tidy.Clauses, p.Clauses[first[k][0]])
		}
	}
	meet(g)
	for i := 0; i < len(w.goals); i++ {
		for _, b := range w.below(tidy.Clauses[i], i) {
			meet(b)
		}
	}
	tidy.Goals = w.goals
	return tidy
}

// Tidy returns the tidy proof of the first goal of a proof.
func Tidy(r api.Rules, p api.Proof) (api.Proof, api.Errno) {
	if e := right(r, p); e != api.OK {
		return api.Proof{}, e
	}
	return from(r, p, p.Goals[0]), api.OK
}

// Join returns the goals of two proofs.
func Join(r api.Rules, p, q api.Proof) (api.Proof, api.Errno) {
	e, f := right(r, p), right(r, q)
	for _, x := range []api.Errno{e, f} {
		if x != api.OK && x != api.ErrWrong {
			return api.Proof{}, x
		}
	}
	if e != api.OK || f != api.OK {
		return api.Proof{}, api.ErrWrong
	}
	at := places(p.Goals)
	goals, clauses := slices.Clone(p.Goals), slices.Clone(p.Clauses)
	for i, g := range q.Goals {
		if len(at[keyOf(g)]) == 0 {
			goals, clauses = append(goals, g), append(clauses, q.Clauses[i])
		}
	}
	if len(goals) > rel.MaxGoals {
		return api.Proof{}, api.ErrMany
	}
	for i, g := range goals {
		goals[i] = base.CopyGoal(g)
	}
	return api.Proof{Goals: goals, Clauses: clauses}, api.OK
}

// Front returns the tidy proof of a goal that is among those of a proof.
func Front(r api.Rules, p api.Proof, g api.Goal) (api.Proof, api.Errno) {
	if e := right(r, p); e != api.OK {
		return api.Proof{}, e
	}
	if e := rel.CheckGoal(r, g); e != api.OK {
		return api.Proof{}, e
	}
	if same := (sameAs{g}).is; !base.Some(p.Goals, same) {
		return api.Proof{}, api.ErrNone
	}
	return from(r, p, g), api.OK
}

// onWay says which goals are on ways that have not come to an end.
type onWay [rel.MaxGoals]bool

// Height returns the height of a proof.
func Height(r api.Rules, p api.Proof) (int, api.Errno) {
	if e := right(r, p); e != api.OK {
		return 0, e
	}
	w, _ := proofOf(r, p)
	var on onWay
	for i := range w.goals {
		on[i] = true
	}
	// Each time the goals are left out below which all have been left out before.
	for high := 0; ; high++ {
		var next onWay
		for i := range w.goals {
			next[i] = base.Some(w.next[i], func(k int) bool { return on[k] })
		}
		switch next {
		case onWay{}:
			return high, api.OK
		case on:
			return 0, api.ErrClash
		}
		on = next
	}
}

// Move returns a proof whose clauses have other numbers.
func Move(p api.Proof, by int) (api.Proof, api.Errno) {
	q := api.Proof{Clauses: slices.Clone(p.Clauses)}
	for i, c := range p.Clauses {
		n := c + by
		// A sum of two numbers of one sign that has the other one is too large.
		if n < 0 || n >= rel.MaxClauses || c < 0 && by < 0 {
			return api.Proof{}, api.ErrRange
		}
		q.Clauses[i] = n
	}
	for _, g := range p.Goals {
		q.Goals = append(q.Goals, base.CopyGoal(g))
	}
	return q, api.OK
}
