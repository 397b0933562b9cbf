package core

import (
	"slices"

	"roundelay/api"
	"roundelay/graph"
	"roundelay/prog"
	"roundelay/solve"
	"roundelay/tree"
)

// key is what a call is found by: its block, and the keys of the least graphs of its trees.
type key struct {
	block int
	args  [prog.MaxParams]string
}

// call is a call that was begun: its trees are least graphs.
type call struct {
	block int
	args  []api.Tree
}

// runner goes through calls: those that were begun, by number and by key, and what is done with an operation of a call with slots.
type runner struct {
	work
	graph.Knots
	calls []call
	at    map[key]int
	do    func(c call, op api.Op, slots []int) (int, api.Errno)
}

// begin begins a call, and returns its number; if it was begun before, it is not begun again.
func (r *runner) begin(block int, args []api.Tree) (n int, isNew bool) {
	k := key{block: block}
	for i, t := range args {
		k.args[i] = graph.Key(t)
	}
	if n, is := r.at[k]; is {
		return n, false
	}
	n = len(r.calls)
	r.at[k] = n
	r.calls = append(r.calls, call{block, args})
	r.Results = append(r.Results, 0)
	r.Ended = append(r.Ended, false)
	return n, true
}

// branch returns the branch of a call, if there is one.
func (r *runner) branch(c call) (api.Branch, bool) {
	for _, br := range r.Blocks[c.block].Branches {
		if br.Head == "" {
			return br, true
		}
		root := c.args[0].Nodes[c.args[0].Root]
		if (head{br.Head, br.Kids}) == (head{root.Name, len(root.Kids)}) {
			return br, true
		}
	}
	return api.Branch{}, false
}

// through goes through a call that was begun.
func (r *runner) through(n int) api.Errno {
	if n >= solve.MaxCalls {
		return api.ErrGrow
	}
	br, is := r.branch(r.calls[n])
	if !is {
		return api.ErrStuck
	}
	var slots []int
	for _, op := range br.Ops {
		place, e := r.do(r.calls[n], op, slots)
		if e != api.OK {
			return e
		}
		slots = append(slots, place)
	}
	r.Results[n] = slots[br.Result]
	if r.isRound(n) {
		return api.ErrWait
	}
	r.Ended[n] = true
	return api.OK
}

// isRound reports whether calls that are ended pass on from a call back to it.
func (r *runner) isRound(n int) bool {
	is := false
	at := n
way:
	for range r.calls {
		if r.Results[at] >= 0 {
			break way
		}
		at = -1 - r.Results[at]
		switch {
		case at == n:
			is = true
			break way
		case !r.Ended[at]:
			break way
		}
	}
	return is
}

// operate does an operation, and returns the place of its result.
func (r *runner) operate(c call, op api.Op, slots []int) (int, api.Errno) {
	switch op.Kind {
	case Take:
		return r.Load(c.args[op.Num]), api.OK
	case Below:
		first := r.Load(c.args[0])
		return r.Cells[first].Kids[op.Num], api.OK
	}
	places := make([]int, len(op.Args))
	for i, a := range op.Args {
		places[i] = slots[a]
	}
	if op.Kind == Node {
		r.Cells = append(r.Cells, api.Node{Name: op.Name, Kids: places})
		return len(r.Cells) - 1, api.OK
	}
	var args []api.Tree
	for _, p := range places {
		t, e := r.Least(p)
		if e != api.OK {
			return 0, e
		}
		args = append(args, t)
	}
	find := r.find
	return r.goTo(find(op.Name), args, op.Kind == Ask)
}

// goTo goes through the call of a block, and returns the place of its value.
func (r *runner) goTo(block int, args []api.Tree, asks bool) (int, api.Errno) {
	n, isNew := r.begin(block, args)
	if isNew {
		if e := r.through(n); e != api.OK {
			return 0, e
		}
	}
	if !asks {
		return -1 - n, api.OK
	}
	if _, e := r.Least(-1 - n); e != api.OK {
		return 0, e
	}
	// What was asked for is a cell, so that a call whose result it is does not pass on.
	cell, _ := r.Follow(-1 - n)
	return cell, api.OK
}

// Value returns the least graph of the value of a call.
func Value(c api.Core, name string, args []api.Tree) (api.Tree, api.Errno) {
	block, e := Find(c, name)
	if e != api.OK {
		return api.Tree{}, e
	}
	if len(args) != c.Blocks[block].Arity {
		return api.Tree{}, api.ErrClash
	}
	trees := slices.Clone(args)
	for i, t := range args {
		if e := tree.Check(t); e != api.OK {
			return api.Tree{}, e
		}
		trees[i], _ = graph.Least(t)
	}
	r := &runner{work: work{c}, at: map[key]int{}}
	r.do = r.operate
	n, _ := r.begin(block, trees)
	if e := r.through(n); e != api.OK {
		return api.Tree{}, e
	}
	return r.Least(-1)
}
