package trace

import (
	"slices"

	"roundelay/api"
	"roundelay/base"
	"roundelay/core"
	"roundelay/graph"
	"roundelay/solve"
)

// knots returns the cells and the results of a state.
func (a at) knots() graph.Knots {
	k := graph.Knots{Cells: a.Cells}
	for _, x := range a.Calls {
		k.Results = append(k.Results, x.Result)
		k.Ended = append(k.Ended, x.Ended)
	}
	return k
}

// asked returns the call that is there for an Ask or a Tie of the frame at work, or -1.
func (a at) asked(op api.Op) int {
	k := a.knots()
	var args []api.Tree
	for _, slot := range op.Args {
		t, is := k.Tree(a.last().Slots[slot])
		if !is {
			return -1
		}
		u, e := graph.Least(t)
		if e != api.OK {
			return -1
		}
		args = append(args, u)
	}
	return base.First(a.Calls, func(x api.Entry) bool {
		return a.core.Blocks[x.Block].Name == op.Name && slices.EqualFunc(x.Args, args, graph.Same)
	})
}

// happening is what an event is by the kind of an operation that is done: the kind of the event, and the other call.
type happening struct {
	kind  int
	other func(a at, op api.Op) int
}

// happenings returns what events are by the kinds of operations.
func happenings() [core.Tie + 1]happening {
	none := func(at, api.Op) int { return -1 }
	return [core.Tie + 1]happening{core.Take: {Loads, none}, core.Below: {Loads, none}, core.Node: {Makes, none}, core.Ask: {Asks, at.asked}, core.Tie: {Ties, at.asked}}
}

// event returns the event of a step.
func event(a at, m moment) api.Event {
	f := a.last()
	e := api.Event{Step: m.number, Call: f.Call, Other: -1}
	switch {
	case m.did.Error != api.OK:
		e.Kind = Ends
	case m.did.Begun:
		e.Kind, e.Other = Begins, len(a.Calls)
	case m.did.Returned:
		e.Kind, e.Other = Returns, f.Call
	default:
		op := a.branch(f.Call).Ops[f.Next]
		h := happenings()[op.Kind]
		e.Kind, e.Other = h.kind, h.other(a, op)
	}
	return e
}

// Events returns what all steps did.
func Events(t api.Trace) ([]api.Event, api.Errno) {
	if e := Check(t); e != api.OK {
		return nil, e
	}
	s, _ := start(t.Core, t.Now)
	var l []api.Event
	for a, m := range replay(t.Core, s, len(t.Past)) {
		l = append(l, event(a, m))
	}
	return l, api.OK
}

// checkNumber returns the error of a trace, and ErrNot if a number is not that of one of so many.
func checkNumber(t api.Trace, n int, many func(s api.State) int) api.Errno {
	if e := Check(t); e != api.OK {
		return e
	}
	if !base.Within(many(t.Now))(n) {
		return api.ErrNot
	}
	return api.OK
}

// calls and cells return how many there are in a state.
func calls(s api.State) int { return len(s.Calls) }
func cells(s api.State) int { return len(s.Cells) }

// when returns the number of the first step behind which so many things, and at least one more, were done.
func when(past []api.Delta, before int, many func(d api.Delta) int) int {
	n := 0
	return 1 + base.First(past, func(d api.Delta) bool {
		n += many(d)
		return n > before
	})
}

// count returns 1 for what is so, otherwise 0.
func count(is bool) int {
	if is {
		return 1
	}
	return 0
}

// Begun returns the step that began a call.
func Begun(t api.Trace, call int) (int, api.Errno) {
	if e := checkNumber(t, call, calls); e != api.OK {
		return 0, e
	}
	if call == 0 {
		return 0, api.OK
	}
	return when(t.Past, call-1, func(d api.Delta) int { return count(d.Begun) }), api.OK
}

// Made returns the step that made a cell.
func Made(t api.Trace, cell int) (int, api.Errno) {
	if e := checkNumber(t, cell, cells); e != api.OK {
		return 0, e
	}
	return when(t.Past, cell, func(d api.Delta) int { return d.Cells }), api.OK
}

// Ended returns the step that returned a call.
func Ended(t api.Trace, call int) (int, api.Errno) {
	if e := checkNumber(t, call, calls); e != api.OK {
		return 0, e
	}
	if !t.Now.Calls[call].Ended {
		return 0, api.ErrNone
	}
	return when(t.Past, 0, func(d api.Delta) int { return count(d.Returned && d.Frame.Call == call) }), api.OK
}

// Deep returns the greatest number of frames, and when it was first.
func Deep(t api.Trace) (most, step int, e api.Errno) {
	if e := Check(t); e != api.OK {
		return 0, 0, e
	}
	frames := 1
	most = 1
	for i, d := range t.Past {
		frames += count(d.Begun) - count(d.Returned)
		if frames > most {
			most, step = frames, i+1
		}
	}
	return most, step, api.OK
}

// direct returns the calls that are met directly from a call that is ended, rising.
func (a at) direct(call int) []int {
	met := map[int]bool{}
	var l []int
	var follow func(place int)
	follow = func(place int) {
		if met[place] {
			return
		}
		met[place] = true
		if place < 0 {
			l = append(l, -1-place)
			return
		}
		for _, k := range a.Cells[place].Kids {
			follow(k)
		}
	}
	if a.Calls[call].Ended {
		follow(a.Calls[call].Result)
	}
	slices.Sort(l)
	return l
}

// passing returns the calls whose results lead, one to the next, from a call that would return back to it, beginning with it.
func (a at) passing(call int) []int {
	ring := []int{call}
	place := a.last().Slots[a.branch(call).Result]
	for range solve.MaxCalls {
		if place >= 0 || -1-place == call {
			break
		}
		ring = append(ring, -1-place)
		place = a.Calls[-1-place].Result
	}
	return ring
}

// open returns the first shortest way of calls, each met directly from the one before, from one to one that is not ended.
func (a at) open(call int) []int {
	above := map[int]int{call: call}
	for queue := []int{call}; len(queue) > 0; queue = queue[1:] {
		at := queue[0]
		if !a.Calls[at].Ended {
			way := []int{at}
			for at != call {
				at = above[at]
				way = append(way, at)
			}
			slices.Reverse(way)
			return way
		}
		for _, k := range a.direct(at) {
			if _, is := above[k]; !is {
				above[k] = at
				queue = append(queue, k)
			}
		}
	}
	return nil
}

// waits returns the run at work of a trace that waits, and whether it wanted to return: those of Check, ErrNone.
func waits(t api.Trace) (a at, returns bool, e api.Errno) {
	if e := Check(t); e != api.OK {
		return at{}, false, e
	}
	if t.Now.Error != api.ErrWait {
		return at{}, false, api.ErrNone
	}
	a = at{t.Now, t.Core}
	f := a.last()
	return a, f.Next == len(a.branch(f.Call).Ops), api.OK
}

// wanted returns the call that was asked for by the frame at work.
func (a at) wanted() int {
	f := a.last()
	return a.asked(a.branch(f.Call).Ops[f.Next])
}

// Why returns the calls that show that it waits.
func Why(t api.Trace) ([]int, api.Errno) {
	a, returns, e := waits(t)
	if e != api.OK {
		return nil, e
	}
	call := a.last().Call
	if returns {
		return a.passing(call), api.OK
	}
	return append([]int{call}, a.open(a.wanted())...), api.OK
}

// all reports whether several numbers are the same.
func all(first int, others ...int) bool {
	return base.Every(others, base.Is(first))
}

// Because reports whether some calls show that it waits.
func Because(t api.Trace, ring []int) (bool, api.Errno) {
	a, returns, e := waits(t)
	if e != api.OK {
		return false, e
	}
	call := a.last().Call
	if len(ring) < 1 || len(ring) > solve.MaxCalls || !base.Every(ring, base.Within(len(a.Calls))) || !all(call, ring[0]) {
		return false, api.OK
	}
	if returns {
		// Where results lead from a call is one way alone.
		return slices.Equal(ring, a.passing(call)), api.OK
	}
	last := len(ring) - 1
	if last < 1 || !all(a.wanted(), ring[1]) || a.Calls[ring[last]].Ended {
		return false, api.OK
	}
	for i := range last - 1 {
		if !slices.Contains(a.direct(ring[i+1]), ring[i+2]) {
			return false, api.OK
		}
	}
	return true, api.OK
}

// Told returns the names of the calls that show that it waits.
func Told(t api.Trace) ([]string, api.Errno) {
	ring, e := Why(t)
	if e != api.OK {
		return nil, e
	}
	var l []string
	for _, c := range ring {
		l = append(l, t.Core.Blocks[t.Now.Calls[c].Block].Name)
	}
	return l, api.OK
}
