package shell

import (
	"strconv"

	"roundelay/alike"
	"roundelay/api"
	"roundelay/base"
	"roundelay/heap"
	"roundelay/machine"
	"roundelay/rel"
	"roundelay/script"
	"roundelay/store"
	"roundelay/text"
	"roundelay/trace"
)

// command is a word, what it wants, whether it changes something, and what it does: it changes a session at work, and gives the reply.
type command struct {
	word    string
	wants   wants
	changes bool
	does    func(w *work, args []string) (string, api.Errno)
}

// commands returns all commands.
func commands() [19]command {
	name, names, one := wants{names: 1}, wants{names: 1, more: true}, wants{numbers: 1}
	return [19]command{
		{"def", wants{text: true}, true, define}, {"drop", name, true, drop}, {"put", wants{names: 1, text: true}, true, put}, {"let", wants{names: 1, text: true}, true, let},
		{"gone", name, true, gone}, {"fold", wants{}, true, fold}, {"ask", wants{text: true}, false, ask}, {"run", names, false, run}, {"same", wants{names: 2}, false, same},
		{"rel", wants{names: 1, numbers: 2}, true, relation}, {"clause", wants{names: 1, words: true}, true, clause}, {"holds", names, false, holds},
		{"trace", names, true, begin}, {"step", one, true, step}, {"back", one, true, back}, {"why", wants{}, false, why},
		{"gen", wants{}, false, gen}, {"names", wants{}, false, bound}, {"cells", wants{}, false, cells},
	}
}

// find returns the command of a word.
func find(word string) (command, bool) {
	all := commands()
	numbers := map[string]int{}
	for i, c := range all {
		numbers[c.word] = i
	}
	n, is := numbers[word]
	if !is {
		return command{}, false
	}
	return all[n], true
}

// done is the reply of what has none of its own.
const done = "done"

// define is def.
func define(w *work, args []string) (string, api.Errno) {
	s, e := script.Replace(w.Script, args[0])
	w.Script = s
	return done, e
}

// drop is drop.
func drop(w *work, args []string) (string, api.Errno) {
	s, e := script.Drop(w.Script, args[0])
	w.Script = s
	return done, e
}

// commit commits a change.
func (w *work) commit(c api.Change) (string, api.Errno) {
	d, e := store.Commit(w.Store, []api.Change{c})
	w.Store = d
	return done, e
}

// put is put.
func put(w *work, args []string) (string, api.Errno) {
	t, _, e := text.Parse(args[1])
	if e != api.OK {
		return "", e
	}
	return w.commit(api.Change{Name: args[0], Tree: t})
}

// let is let.
func let(w *work, args []string) (string, api.Errno) {
	t, e := w.value(args[1])
	if e != api.OK {
		return "", e
	}
	return w.commit(api.Change{Name: args[0], Tree: t})
}

// gone is gone.
func gone(w *work, args []string) (string, api.Errno) {
	return w.commit(api.Change{Name: args[0], Gone: true})
}

// fold is fold.
func fold(w *work, _ []string) (string, api.Errno) {
	d, e := store.Fold(w.Store)
	w.Store = d
	return done, e
}

// ask is ask.
func ask(w *work, args []string) (string, api.Errno) {
	t, e := w.value(args[0])
	if e != api.OK {
		return "", e
	}
	return text.Plain(t)
}

// call returns the core, and the trees, of a call of a block with names.
func (w *work) call(args []string) (api.Core, []api.Tree, api.Errno) {
	by, e := w.trees(args[1:])
	if e != api.OK {
		return api.Core{}, nil, e
	}
	c, e := w.code()
	return c, by, e
}

// run is run.
func run(w *work, args []string) (string, api.Errno) {
	c, by, e := w.call(args)
	if e != api.OK {
		return "", e
	}
	t, e := machine.Call(c, args[0], by)
	if e != api.OK {
		return "", e
	}
	return text.Plain(t)
}

// same is same.
func same(w *work, args []string) (string, api.Errno) {
	l, e := w.trees(args)
	if e != api.OK {
		return "", e
	}
	path, e := alike.Apart(l[0], l[1])
	if e == api.ErrNone {
		return "yes", api.OK
	}
	reply := []string{"no"}
	for _, n := range path {
		reply = append(reply, strconv.Itoa(n))
	}
	return said(reply...), e
}

// relation is rel.
func relation(w *work, args []string) (string, api.Errno) {
	arity, _ := base.Number(args[1])
	rank, _ := base.Number(args[2])
	w.Rules.Rels = append(w.Rules.Rels, api.Rel{Name: args[0], Arity: arity, Rank: rank})
	return done, rel.Check(w.Rules)
}

// clause is clause.
func clause(w *work, args []string) (string, api.Errno) {
	c, e := Clause(args)
	if e != api.OK {
		return "", e
	}
	w.Rules.Clauses = append(w.Rules.Clauses, c)
	return done, rel.Check(w.Rules)
}

// holds is holds.
func holds(w *work, args []string) (string, api.Errno) {
	by, e := w.trees(args[1:])
	if e != api.OK {
		return "", e
	}
	is, e := rel.Decide(w.Rules, api.Goal{Rel: args[0], Args: by})
	if is {
		return "yes", e
	}
	return "no", e
}

// begin is trace.
func begin(w *work, args []string) (string, api.Errno) {
	c, by, e := w.call(args)
	if e != api.OK {
		return "", e
	}
	w.Trace, e = trace.New(c, args[0], by)
	w.Traced = true
	return w.place(), e
}

// place is the reply that says how many steps the trace has.
func (w *work) place() string { return said("at", strconv.Itoa(w.Trace.Now.Steps)) }

// move moves the trace by steps.
func (w *work) move(by int) (string, api.Errno) {
	if !w.Traced {
		return "", api.ErrNone
	}
	// trace.To tells that there are too many steps, or too few.
	t, e := trace.To(w.Trace, w.Trace.Now.Steps+by)
	w.Trace = t
	return w.place(), e
}

// step is step.
func step(w *work, args []string) (string, api.Errno) {
	n, _ := base.Number(args[0])
	return w.move(n)
}

// back is back.
func back(w *work, args []string) (string, api.Errno) {
	n, _ := base.Number(args[0])
	return w.move(-n)
}

// why is why.
func why(w *work, _ []string) (string, api.Errno) {
	if !w.Traced {
		return "", api.ErrNone
	}
	l, e := trace.Told(w.Trace)
	return said(l...), e
}

// gen is gen.
func gen(w *work, _ []string) (string, api.Errno) {
	n, e := store.Gen(w.Store)
	return strconv.Itoa(n), e
}

// bound is names.
func bound(w *work, _ []string) (string, api.Errno) {
	l, e := store.All(w.Store)
	var reply []string
	for _, x := range l {
		reply = append(reply, x.Name)
	}
	if len(reply) == 0 {
		return "none", e
	}
	return said(reply...), e
}

// cells is cells.
func cells(w *work, _ []string) (string, api.Errno) {
	l, e := store.All(w.Store)
	if e != api.OK {
		return "", e
	}
	h, e := heap.New(heap.MaxCells)
	if e != api.OK {
		return "", e
	}
	for _, x := range l {
		if _, e := h.Put(x.Tree); e != api.OK {
			return "", e
		}
	}
	return strconv.Itoa(h.Size()), api.OK
}
