package solve

import (
	"roundelay/api"
	"roundelay/base"
	"roundelay/graph"
	"roundelay/prog"
	"roundelay/tree"
)

// lead is a call to which one leads, and whether it leads first.
type lead struct {
	call  int
	first bool
}

// begun is a call that was begun: its trees are least graphs.
type begun struct {
	name  string
	args  []api.Tree
	leads []lead
}

// set says of which calls something is so.
type set [MaxCalls]bool

// solver goes through calls: those that were begun, by number and by key, and the earliest of those that wait.
type solver struct {
	maker
	calls    []begun
	at       map[key]int
	earliest int
}

// run goes through a call, and returns the error with which all ends.
func run(p api.Prog, name string, args []api.Tree) (*solver, api.Errno) {
	if e := Check(p, name, args); e != api.OK {
		return nil, e
	}
	s := &solver{maker: maker{Prog: p}, at: map[key]int{}}
	s.maker.call = s.goTo
	var trees []api.Tree
	for _, t := range args {
		u, _ := graph.Least(t)
		trees = append(trees, u)
	}
	n, _ := s.begin(name, trees)
	return s, s.through(n)
}

// begin begins a call, and returns its number; if it was begun before, it is not begun again.
func (s *solver) begin(name string, args []api.Tree) (n int, isNew bool) {
	k := keyOf(name, args...)
	if n, is := s.at[k]; is {
		return n, false
	}
	n = len(s.calls)
	s.at[k] = n
	s.calls = append(s.calls, begun{name: name, args: args})
	s.Results = append(s.Results, 0)
	s.Ended = append(s.Ended, false)
	return n, true
}

// through goes through a call that was begun.
func (s *solver) through(n int) api.Errno {
	if n >= MaxCalls {
		return api.ErrGrow
	}
	place, e := s.body(n, s.calls[n].name, s.calls[n].args)
	if e != api.OK {
		return e
	}
	s.Results[n] = place
	if s.isRound(n) {
		s.earliest = n
		return api.ErrWait
	}
	s.Ended[n] = true
	return api.OK
}

// isRound reports whether calls that are ended lead at once from a call back to it.
func (s *solver) isRound(n int) bool {
	is := false
	at := n
way:
	for range s.calls {
		// Only a passing body has the result of a call as its value.
		if s.Results[at] >= 0 {
			break way
		}
		at = -1 - s.Results[at]
		switch {
		case at == n:
			is = true
			break way
		case !s.Ended[at]:
			break way
		}
	}
	return is
}

// goTo goes to what a Call of the body of a call calls, and returns the place of its value.
func (s *solver) goTo(from int, name string, args []api.Tree, inner bool) (int, api.Errno) {
	n, isNew := s.begin(name, args)
	s.calls[from].leads = append(s.calls[from].leads, lead{n, inner})
	if isNew {
		if e := s.through(n); e != api.OK {
			return 0, e
		}
	}
	if !inner {
		return -1 - n, api.OK
	}
	for k := range s.open(n) {
		s.earliest = k
		return 0, api.ErrWait
	}
	if _, e := s.Least(-1 - n); e != api.OK {
		return 0, e
	}
	return -1 - n, api.OK
}

// further returns the calls of a set, and those to which they lead.
func (s *solver) further(l set) set {
	for i, is := range l {
		if is {
			for _, to := range s.calls[i].leads {
				l[to.call] = true
			}
		}
	}
	return l
}

// open yields the calls that are not ended to which a call leads, by any number of steps, or itself, in the order in which they were begun.
func (s *solver) open(n int) func(yield func(int) bool) {
	var all set
	all[n] = true
	for next := s.further(all); next != all; next = s.further(all) {
		all = next
	}
	return func(yield func(int) bool) {
		for i, is := range all {
			if is && !s.Ended[i] && !yield(i) {
				return
			}
		}
	}
}

// ranks returns for each call how many steps that lead first there are at most on a way of calls from it.
func (s *solver) ranks() []int {
	l := make([]int, len(s.calls))
	// No round leads first, so that this comes to an end.
	for changed := true; changed; {
		changed = false
		for i, c := range s.calls {
			for _, to := range c.leads {
				r := l[to.call]
				if to.first {
					r++
				}
				if r > l[i] {
					l[i], changed = r, true
				}
			}
		}
	}
	return l
}

// checkRow returns the error of a row.
func checkRow(p api.Prog, r Row) api.Errno {
	i := base.First(p.Defs, func(d api.Def) bool { return d.Name == r.Name })
	if i < 0 {
		return api.ErrNot
	}
	if len(r.Args) != len(p.Defs[i].Params) {
		return api.ErrClash
	}
	for _, t := range r.Args {
		if e := tree.Check(t); e != api.OK {
			return e
		}
	}
	return tree.Check(r.Value)
}

// checkTable returns the error of a program and a table.
func checkTable(p api.Prog, t Table) api.Errno {
	if e := prog.Check(p); e != api.OK {
		return e
	}
	if len(t.Rows) < 1 || len(t.Rows) > MaxCalls || len(t.Ranks) != len(t.Rows) {
		return api.ErrMany
	}
	for _, r := range t.Rows {
		if e := checkRow(p, r); e != api.OK {
			return e
		}
	}
	if base.Some(t.Ranks, func(r int) bool { return r < 0 }) {
		return api.ErrRange
	}
	return api.OK
}

// shower asks whether a table shows what its rows say: to which row each one leads at once (-1 is none).
type shower struct {
	maker
	Table
	at     map[key]int
	values []int
	once   []int
}

// begin loads the trees of a table.
func (s *shower) begin() {
	s.at = map[key]int{}
	for i, r := range s.Rows {
		var args []api.Tree
		for _, t := range r.Args {
			u, _ := graph.Least(t)
			args = append(args, u)
		}
		s.Rows[i].Args = args
		if k := keyOf(r.Name, args...); !base.Has(s.at, k) {
			s.at[k] = i
		}
		s.values = append(s.values, s.Load(r.Value))
		s.once = append(s.once, -1)
	}
}

// goTo returns the place of the value of the row that a Call of the body of a row calls: an error if there is none, or its rank is too great.
func (s *shower) goTo(from int, name string, args []api.Tree, inner bool) (int, api.Errno) {
	n, is := s.at[keyOf(name, args...)]
	if !is {
		return 0, api.ErrNone
	}
	if s.Ranks[n] > s.Ranks[from] || inner && s.Ranks[n] == s.Ranks[from] {
		return 0, api.ErrOrder
	}
	if !inner {
		// The last outer Call of a passing body is the body itself.
		s.once[from] = n
	}
	return s.values[n], api.OK
}

// passes reports whether the body of a row is a passing one.
func (s *shower) passes(r Row) bool {
	d, _ := s.def(r.Name)
	x, _, _ := s.bind(d, r.Args)
	return x.Kind == api.Call
}

// row reports whether a row is as its body says.
func (s *shower) row(i int) bool {
	place, e := s.body(i, s.Rows[i].Name, s.Rows[i].Args)
	if e != api.OK {
		return false
	}
	t, e := s.Least(place)
	u, _ := s.Least(s.values[i])
	if !s.passes(s.Rows[i]) {
		s.once[i] = -1
	}
	return e == api.OK && graph.Same(t, u)
}

// isRound reports whether rows lead at once from a row back to it.
func (s *shower) isRound(i int) bool {
	at := s.once[i]
	for range s.Rows {
		if at < 0 || at == i {
			return at == i
		}
		at = s.once[at]
	}
	return false
}

// Holds reports whether a table shows what its rows say.
func Holds(p api.Prog, t Table) (bool, api.Errno) {
	if e := checkTable(p, t); e != api.OK {
		return false, e
	}
	rows := make([]Row, len(t.Rows))
	copy(rows, t.Rows)
	s := &shower{maker: maker{Prog: p}, Table: Table{rows, t.Ranks}}
	s.maker.call = s.goTo
	s.begin()
	for i := range s.Rows {
		if !s.row(i) {
			return false, api.OK
		}
	}
	for i := range s.Rows {
		if s.isRound(i) {
			return false, api.OK
		}
	}
	return true, api.OK
}
