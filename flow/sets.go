package flow

import (
	"maps"
	"slices"

	"roundelay/api"
	"roundelay/base"
	"roundelay/sorts"
)

// words is how many words a set of sources has: there are at most 12 * 6 * 24 Makes, and 4 * 24 * 6 alternatives.
const words = 36

// set is a set of sources.
type set [words]uint64

// head is the head of a source.
type head struct {
	name string
	many int
}

// source is a Make of a definition, or an alternative (of the definition -1), and what is below it.
type source struct {
	head
	def   int
	below []set
}

// flow is what comes where in a program at work: to parameters, variables of cases and values; which definitions and Makes are used; and what is done at an expression.
type flow struct {
	api.Prog
	all    []source
	params [][]set
	vars   [][][]set
	values []set
	used   []bool
	made   set
	at     func(x api.Expr, scope func(name string) *set) set
	next   int
}

// sizes returns empty sets.
func sizes(many int) []set { return make([]set, many) }

// newFlow returns the flow of a program to which nothing comes yet.
func newFlow(p api.Prog) *flow {
	f := &flow{Prog: p, values: sizes(len(p.Defs)), used: make([]bool, len(p.Defs))}
	for i, d := range p.Defs {
		f.params = append(f.params, sizes(len(d.Params)))
		var l [][]set
		for _, c := range d.Cases {
			l = append(l, sizes(len(c.Vars)))
			f.addMakes(i, c.Body)
		}
		if len(d.Cases) == 0 {
			f.addMakes(i, d.Body)
		}
		f.vars = append(f.vars, l)
	}
	f.at = f.comes
	return f
}

// addMakes adds the Makes of an expression as sources, in the order of places.
func (f *flow) addMakes(def int, x api.Expr) {
	if x.Kind == api.Make {
		f.all = append(f.all, source{head{x.Name, len(x.Args)}, def, sizes(len(x.Args))})
	}
	for _, a := range x.Args {
		f.addMakes(def, a)
	}
}

// addType adds the alternatives of a type as sources, and returns those of its Start.
func (f *flow) addType(ty api.Type) set {
	sets := sizes(len(ty.Sorts))
	first := len(f.all)
	for i, s := range ty.Sorts {
		for _, a := range s.Alts {
			sets[i].add(len(f.all))
			f.all = append(f.all, source{head{a.Name, len(a.Kids)}, -1, sizes(len(a.Kids))})
		}
	}
	for _, s := range ty.Sorts {
		for _, a := range s.Alts {
			for j, k := range a.Kids {
				f.all[first].below[j] = sets[k]
			}
			first++
		}
	}
	return sets[ty.Start]
}

// add adds a source to a set.
func (s *set) add(n int) { s[n/64] |= 1 << (n % 64) }

// union returns the union of sets.
func union(sets ...set) set {
	var u set
	for _, s := range sets {
		for i, w := range s {
			u[i] |= w
		}
	}
	return u
}

// join adds a set to another one.
func (f *flow) join(to *set, s set) { *to = union(*to, s) }

// sources yields the sources of a set.
func (f *flow) sources(s set) func(yield func(*source) bool) {
	return func(yield func(*source) bool) {
		for i := range f.all {
			if s[i/64]>>(i%64)&1 == 1 && !yield(&f.all[i]) {
				return
			}
		}
	}
}

// caseUsed reports whether a case of a definition is used.
func (f *flow) caseUsed(def, n int) bool {
	c := f.Defs[def].Cases[n]
	is := false
search:
	for s := range f.sources(f.params[def][0]) {
		if s.head == (head{c.Name, len(c.Vars)}) {
			is = true
			break search
		}
	}
	return is
}

// comes returns what comes to an expression that is used, and lets it come to what it is given to. Makes are numbered in the order of places.
func (f *flow) comes(x api.Expr, scope func(name string) *set) set {
	var visit func(x api.Expr) set
	visit = func(x api.Expr) set {
		switch x.Kind {
		case api.Var:
			return *scope(x.Name)
		case api.Make:
			n := f.next
			f.next++
			for i, a := range x.Args {
				s := visit(a)
				f.join(&f.all[n].below[i], s)
			}
			f.made.add(n)
			var s set
			s.add(n)
			return s
		}
		n := base.First(f.Defs, func(d api.Def) bool { return d.Name == x.Name })
		f.used[n] = true
		for i, a := range x.Args {
			s := visit(a)
			f.join(&f.params[n][i], s)
		}
		return f.values[n]
	}
	return visit(x)
}

// makes returns how many Makes an expression has.
func makes(x api.Expr) int {
	n := 0
	if x.Kind == api.Make {
		n = 1
	}
	for _, a := range x.Args {
		n += makes(a)
	}
	return n
}

// bodies yields the expressions of a definition that are used, with their variables; those that are not are passed over.
func (f *flow) bodies(def int, yield func(x api.Expr, scope func(name string) *set)) {
	d := f.Defs[def]
	param := func(name string) *set {
		if i := slices.Index(d.Params, name); i >= 0 {
			return &f.params[def][i]
		}
		return nil
	}
	for i, c := range d.Cases {
		if !f.used[def] || !f.caseUsed(def, i) {
			f.next += makes(c.Body)
			continue
		}
		for s := range f.sources(f.params[def][0]) {
			for j := range c.Vars {
				if s.head == (head{c.Name, len(c.Vars)}) {
					f.join(&f.vars[def][i][j], s.below[j])
				}
			}
		}
		yield(c.Body, func(name string) *set {
			if j := slices.Index(c.Vars, name); j >= 0 {
				return &f.vars[def][i][j]
			}
			return param(name)
		})
	}
	if len(d.Cases) == 0 && f.used[def] {
		yield(d.Body, param)
	} else if len(d.Cases) == 0 {
		f.next += makes(d.Body)
	}
}

// sum returns all that comes anywhere: when it does not change, nothing does.
func (f *flow) sum() []set {
	l := slices.Concat(slices.Concat(f.params...), f.values, []set{f.made})
	for _, v := range f.vars {
		l = append(l, slices.Concat(v...)...)
	}
	for _, s := range f.all {
		l = append(l, s.below...)
	}
	return l
}

// settle lets all come where it comes, until nothing changes.
func (f *flow) settle() {
	for before, used := []set(nil), 0; ; {
		f.next = 0
		for def := range f.Defs {
			f.bodies(def, func(x api.Expr, scope func(name string) *set) {
				s := f.at(x, scope)
				f.join(&f.values[def], s)
			})
		}
		after, many := f.sum(), 0
		for _, is := range f.used {
			if is {
				many++
			}
		}
		if many == used && slices.Equal(before, after) {
			return
		}
		before, used = after, many
	}
}

// typeOf returns the type of a set of sources: ErrMany.
func (f *flow) typeOf(start set) (api.Type, api.Errno) {
	number := map[set]int{start: 0}
	l := []set{start}
	var ty api.Type
	for i := 0; i < len(l); i++ {
		below := map[head][]set{}
		for s := range f.sources(l[i]) {
			if below[s.head] == nil {
				below[s.head] = sizes(s.many)
			}
			for j, b := range s.below {
				f.join(&below[s.head][j], b)
			}
		}
		srt := api.Sort{Rank: 1}
		for _, h := range ordered("", slices.Collect(maps.Keys(below))) {
			a := api.Alt{Name: h.Name}
			for _, s := range below[head{h.Name, h.Many}] {
				if _, is := number[s]; !is {
					number[s] = len(l)
					l = append(l, s)
				}
				a.Kids = append(a.Kids, number[s])
			}
			srt.Alts = append(srt.Alts, a)
		}
		ty.Sorts = append(ty.Sorts, srt)
		if len(l) > sorts.MaxSorts || len(srt.Alts) > sorts.MaxAlts {
			return api.Type{}, api.ErrMany
		}
	}
	return ty, api.OK
}
