package machine

import (
	"roundelay/api"
	"roundelay/base"
	"roundelay/core"
	"roundelay/graph"
	"roundelay/prog"
	"roundelay/solve"
)

// key is what a call is found by: its block, and the keys of the least graphs of its trees.
type key struct {
	block int
	args  [prog.MaxParams]string
}

// keyOf returns the key of a call.
func keyOf(block int, args []api.Tree) key {
	k := key{block: block}
	for i, t := range args {
		u, _ := graph.Least(t)
		k.args[i] = graph.Key(u)
	}
	return k
}

// runner is a machine at work: its state, the core, the calls by their keys, and what operations of each kind do: they come to a slot, or not yet, or to an error that is returned.
type runner struct {
	api.State
	core  api.Core
	calls map[key]int
	do    [core.Tie + 1]func(x api.Entry, op api.Op) (slot int, has bool, e api.Errno)
}

// newRunner returns a machine at work, which changes its state.
func newRunner(c api.Core, s api.State) *runner {
	r := &runner{State: s, core: c}
	r.do = [core.Tie + 1]func(x api.Entry, op api.Op) (int, bool, api.Errno){
		core.Take: r.take, core.Below: r.below, core.Node: r.node, core.Ask: r.call, core.Tie: r.call,
	}
	return r
}

// find returns the number of a block.
func (r *runner) find(name string) int {
	return base.First(r.core.Blocks, func(b api.Block) bool { return b.Name == name })
}

// there returns the number of the first call with this block and these trees, if there is one.
func (r *runner) there(k key) (int, bool) {
	if r.calls == nil {
		r.calls = map[key]int{}
		for i := range len(r.Calls) {
			if old := keyOf(r.Calls[i].Block, r.Calls[i].Args); !base.Has(r.calls, old) {
				r.calls[old] = i
			}
		}
	}
	n, is := r.calls[k]
	return n, is
}

// begin begins a call of a block with least graphs, which is not there: ErrGrow, ErrStuck.
func (r *runner) begin(block int, args []api.Tree) api.Errno {
	if len(r.Calls) >= solve.MaxCalls {
		return api.ErrGrow
	}
	fits := func(br api.Branch) bool {
		if br.Head == "" {
			return true
		}
		root := args[0].Nodes[args[0].Root]
		return br.Head == root.Name && br.Kids == len(root.Kids)
	}
	n := base.First(r.core.Blocks[block].Branches, fits)
	if n < 0 {
		return api.ErrStuck
	}
	if r.calls != nil {
		r.calls[keyOf(block, args)] = len(r.Calls)
	}
	r.Frames = append(r.Frames, api.Frame{Call: len(r.Calls)})
	r.Calls = append(r.Calls, api.Entry{Block: block, Branch: n, Args: args})
	return api.OK
}

// step takes a step of a machine that is not over: ErrWrong, ErrFull.
func (r *runner) step() api.Errno {
	r.Steps++
	last := len(r.Frames) - 1
	f := r.Frames[last]
	x := r.Calls[f.Call]
	br := branch(r.core, x)
	if f.Next == len(br.Ops) {
		r.end(f, f.Slots[br.Result])
		return api.OK
	}
	op := br.Ops[f.Next]
	slot, is, e := r.do[op.Kind](x, op)
	if e != api.OK {
		return e
	}
	if is {
		r.Frames[last].Next++
		r.Frames[last].Slots = append(f.Slots, slot)
	}
	return api.OK
}

// met says which calls were met.
type met [solve.MaxCalls]bool

// comesBack reports whether results of ended calls lead, from a place on, back to a call.
func (r *runner) comesBack(place, call int) bool {
	var before met
	for place < 0 {
		n := -1 - place
		now := before
		now[n] = true
		switch {
		case n == call:
			return true
		case !r.Calls[n].Ended || now == before:
			return false
		}
		before, place = now, r.Calls[n].Result
	}
	return false
}

// end returns from the call at work with the place of its result.
func (r *runner) end(f api.Frame, place int) {
	if r.comesBack(place, f.Call) {
		r.Error = api.ErrWait
		return
	}
	r.Calls[f.Call].Ended, r.Calls[f.Call].Result = true, place
	r.Frames = r.Frames[:len(r.Frames)-1]
}

// add adds cells, and returns the place of the first one: ErrFull.
func (r *runner) add(cells ...api.Node) (int, bool, api.Errno) {
	if len(r.Cells)+len(cells) > MaxCells {
		return 0, false, api.ErrFull
	}
	at := len(r.Cells)
	r.Cells = append(r.Cells, cells...)
	return at, true, api.OK
}

// load loads a tree whose least graph is not too large.
func (r *runner) load(t api.Tree) (int, bool, api.Errno) {
	u, e := graph.Least(t)
	if e != api.OK {
		r.Error = e
		return 0, false, api.OK
	}
	return r.add(graph.Moved(u.Nodes, len(r.Cells))...)
}

// take loads an argument.
func (r *runner) take(x api.Entry, op api.Op) (int, bool, api.Errno) {
	return r.load(x.Args[op.Num])
}

// below loads a tree below the root of the first argument.
func (r *runner) below(x api.Entry, op api.Op) (int, bool, api.Errno) {
	t := x.Args[0]
	kids := t.Nodes[t.Root].Kids
	if op.Num >= len(kids) {
		return 0, false, api.ErrWrong
	}
	return r.load(api.Tree{Nodes: t.Nodes, Root: kids[op.Num]})
}

// slots returns the places in the slots of the frame at work.
func (r *runner) slots(op api.Op) []int {
	f := r.Frames[len(r.Frames)-1]
	l := make([]int, len(op.Args))
	for i, a := range op.Args {
		l[i] = f.Slots[a]
	}
	return l
}

// node adds a cell.
func (r *runner) node(_ api.Entry, op api.Op) (int, bool, api.Errno) {
	return r.add(api.Node{Name: op.Name, Kids: r.slots(op)})
}

// call is Ask and Tie.
func (r *runner) call(_ api.Entry, op api.Op) (int, bool, api.Errno) {
	k := knots(r.State)
	var args []api.Tree
	for _, p := range r.slots(op) {
		t, is := k.Tree(p)
		if !is {
			return 0, false, api.ErrWrong
		}
		u, e := graph.Least(t)
		if e != api.OK {
			r.Error = e
			return 0, false, api.OK
		}
		args = append(args, u)
	}
	find := r.find
	block := find(op.Name)
	n, there := r.there(keyOf(block, args))
	if !there {
		r.Error = r.begin(block, args)
		return 0, false, api.OK
	}
	if op.Kind == core.Tie {
		return -1 - n, true, api.OK
	}
	t, whole := k.Tree(-1 - n)
	if !whole {
		r.Error = api.ErrWait
		return 0, false, api.OK
	}
	return r.load(t)
}
