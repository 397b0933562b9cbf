package prog

import (
	"slices"

	"roundelay/api"
	"roundelay/base"
)

// Find returns the number of a definition.
func Find(p api.Prog, name string) (int, api.Errno) {
	if e := Check(p); e != api.OK {
		return 0, e
	}
	n := work{Prog: p}.find(name)
	if n < 0 {
		return 0, api.ErrNot
	}
	return n, api.OK
}

// calls returns the names of the definitions that one calls, each once.
func calls(d api.Def) []string {
	met := map[string]bool{}
	var l []string
	for _, b := range base.Bodies(d) {
		for x := range places(b) {
			if x.Kind == api.Call && !met[x.Name] {
				met[x.Name] = true
				l = append(l, x.Name)
			}
		}
	}
	return l
}

// Calls returns the names of the definitions that one calls.
func Calls(p api.Prog, name string) ([]string, api.Errno) {
	n, e := Find(p, name)
	if e != api.OK {
		return nil, e
	}
	return calls(p.Defs[n]), api.OK
}

// Reach returns the names of the definitions that are reached from one.
func Reach(p api.Prog, name string) ([]string, api.Errno) {
	if _, e := Find(p, name); e != api.OK {
		return nil, e
	}
	w := work{Prog: p}
	l := []string{name}
	for i := 0; i < len(l); i++ {
		for _, c := range calls(p.Defs[w.find(l[i])]) {
			if !slices.Contains(l, c) {
				l = append(l, c)
			}
		}
	}
	return l, api.OK
}

// copiedProg returns the definitions that are kept, in memory of their own.
func copiedProg(p api.Prog, keep func(api.Def) bool) api.Prog {
	return base.CopyProg(api.Prog{Defs: slices.DeleteFunc(slices.Clone(p.Defs), func(d api.Def) bool { return !keep(d) })})
}

// Only returns the program of the definitions that are reached from one.
func Only(p api.Prog, name string) (api.Prog, api.Errno) {
	l, e := Reach(p, name)
	if e != api.OK {
		return api.Prog{}, e
	}
	return copiedProg(p, func(d api.Def) bool { return slices.Contains(l, d.Name) }), api.OK
}

// Vars returns the names of all variables of an expression.
func Vars(e api.Expr) []string {
	met := map[string]bool{}
	var l []string
	for x := range places(e) {
		if x.Kind == api.Var && !met[x.Name] {
			met[x.Name] = true
			l = append(l, x.Name)
		}
	}
	return l
}

// putSize returns the size of an expression in which each Var is what a function says.
func putSize(x api.Expr, put func(api.Expr) (api.Expr, bool)) int {
	if y, is := put(x); is {
		return Size(y)
	}
	many := 1
	for _, a := range x.Args {
		many = add(many, putSize(a, put))
	}
	return many
}

// Subst returns an expression in which variables are replaced.
func Subst(e api.Expr, vars []string, by []api.Expr) (api.Expr, api.Errno) {
	if len(vars) != len(by) {
		return api.Expr{}, api.ErrClash
	}
	if twice(vars) {
		return api.Expr{}, api.ErrTwice
	}
	find := func(x api.Expr) (api.Expr, bool) {
		i := slices.Index(vars, x.Name)
		if x.Kind != api.Var || i < 0 {
			return api.Expr{}, false
		}
		return by[i], true
	}
	if putSize(e, find) > MaxSize {
		return api.Expr{}, api.ErrMany
	}
	var put func(x api.Expr) api.Expr
	put = func(x api.Expr) api.Expr {
		if y, is := find(x); is {
			return base.CopyExpr(y)
		}
		y := api.Expr{Kind: x.Kind, Name: x.Name}
		for _, a := range x.Args {
			y.Args = append(y.Args, put(a))
		}
		return y
	}
	return put(e), api.OK
}

// renamed returns an expression whose calls of a definition have another name.
func renamed(x api.Expr, from, to string) api.Expr {
	if x.Kind == api.Call && x.Name == from {
		x.Name = to
	}
	x.Args = slices.Clone(x.Args)
	for i, a := range x.Args {
		x.Args[i] = renamed(a, from, to)
	}
	return x
}

// renameCalls gives the calls in the expressions of a definition another name. A Body beside Cases is no expression of it, so what looks like a call there stays as it is.
func renameCalls(d *api.Def, from, to string) {
	if len(d.Cases) == 0 {
		d.Body = renamed(d.Body, from, to)
		return
	}
	for i, c := range d.Cases {
		d.Cases[i].Body = renamed(c.Body, from, to)
	}
}

// Rename returns a program in which a definition has another name.
func Rename(p api.Prog, from, to string) (api.Prog, api.Errno) {
	n, e := Find(p, from)
	if e != api.OK {
		return api.Prog{}, e
	}
	if !base.IsName(to) {
		return api.Prog{}, api.ErrForm
	}
	if from != to && (work{Prog: p}).has(to) {
		return api.Prog{}, api.ErrTwice
	}
	q := copiedProg(p, func(api.Def) bool { return true })
	q.Defs[n].Name = to
	for i := range q.Defs {
		renameCalls(&q.Defs[i], from, to)
	}
	return q, api.OK
}

// simple reports whether no Call is within the Args of a Call of an expression.
func simple(x api.Expr) bool {
	for y := range places(x) {
		if y.Kind != api.Call {
			continue
		}
		for _, a := range y.Args {
			if kinds(a)[api.Call] > 0 {
				return false
			}
		}
	}
	return true
}

// Simple reports whether no call is within the arguments of a call.
func Simple(p api.Prog) (bool, api.Errno) {
	if e := Check(p); e != api.OK {
		return false, e
	}
	return base.Every(p.Defs, func(d api.Def) bool { return base.Every(base.Bodies(d), simple) }), api.OK
}

// Pick returns the number of the case of a definition that has a head.
func Pick(d api.Def, name string, kids int) (int, api.Errno) {
	n := base.First(d.Cases, func(c api.Case) bool { return head{c.Name, len(c.Vars)} == head{name, kids} })
	if n < 0 {
		return 0, api.ErrNone
	}
	return n, api.OK
}

// Add returns a program with one definition more.
func Add(p api.Prog, d api.Def) (api.Prog, api.Errno) {
	if e := Check(p); e != api.OK {
		return api.Prog{}, e
	}
	if len(p.Defs) >= MaxDefs {
		return api.Prog{}, api.ErrMany
	}
	whole := api.Prog{Defs: slices.Concat(p.Defs, []api.Def{d})}
	if e := Check(whole); e != api.OK {
		return api.Prog{}, e
	}
	return copiedProg(whole, func(api.Def) bool { return true }), api.OK
}

// Heads returns the heads of all nodes that are made, and of all cases.
func Heads(p api.Prog) ([]string, []int, api.Errno) {
	if e := Check(p); e != api.OK {
		return nil, nil, e
	}
	var names []string
	var many []int
	met := map[head]bool{}
	add := func(h head) {
		if !met[h] {
			met[h] = true
			names, many = append(names, h.name), append(many, h.many)
		}
	}
	for _, d := range p.Defs {
		for i, b := range base.Bodies(d) {
			if len(d.Cases) > 0 {
				add(head{d.Cases[i].Name, len(d.Cases[i].Vars)})
			}
			for x := range places(b) {
				if x.Kind == api.Make {
					add(head{x.Name, len(x.Args)})
				}
			}
		}
	}
	return names, many, api.OK
}
