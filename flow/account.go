package flow

import (
	"slices"

	"roundelay/api"
	"roundelay/base"
	"roundelay/prog"
	"roundelay/sorts"
	"roundelay/under"
)

// account is rows for a program.
type account struct {
	api.Prog
	rows []Row
}

// row returns the row of a definition.
func (a account) row(name string) (Row, bool) {
	i := base.First(a.rows, func(r Row) bool { return r.has(name) })
	if i < 0 {
		return Row{}, false
	}
	return a.rows[i], true
}

// isUnder reports whether a right type is under another one.
func isUnder(a, b api.Type) bool {
	is, e := under.Under(a, b)
	return is && e == api.OK
}

// from returns a type with another Start, for asking alone.
func from(ty api.Type, start int) api.Type { return api.Type{Sorts: ty.Sorts, Start: start} }

// isOfUse reports whether no sort below an alternative is empty.
func isOfUse(ty api.Type, a api.Alt) bool {
	return base.Every(a.Kids, func(k int) bool {
		empty, _ := sorts.Empty(ty, k)
		return !empty
	})
}

// fits reports whether an expression, whose variables have types, fits a type.
func (a account) fits(x api.Expr, ty api.Type, scope func(name string) api.Type) bool {
	switch x.Kind {
	case api.Var:
		return isUnder(scope(x.Name), ty)
	case api.Make:
		alts := ty.Sorts[ty.Start].Alts
		i := base.First(alts, func(b api.Alt) bool { return head{b.Name, len(b.Kids)} == head{x.Name, len(x.Args)} })
		if i < 0 {
			return false
		}
		for j, y := range x.Args {
			if !a.fits(y, from(ty, alts[i].Kids[j]), scope) {
				return false
			}
		}
		return true
	}
	r, is := a.row(x.Name)
	if !is {
		return false
	}
	for j, y := range x.Args {
		if !a.fits(y, r.Params[j], scope) {
			return false
		}
	}
	return isUnder(r.Value, ty)
}

// rowHolds reports whether a row holds.
func (a account) rowHolds(r Row) bool {
	n, _ := prog.Find(a.Prog, r.Name)
	d := a.Defs[n]
	param := func(name string) api.Type { return r.Params[slices.Index(d.Params, name)] }
	if base.Some(r.Value.Sorts, func(s api.Sort) bool { return s.Rank != 1 }) {
		return false
	}
	if len(d.Cases) == 0 {
		return a.fits(d.Body, r.Value, param)
	}
	first := r.Params[0]
	for _, alt := range first.Sorts[first.Start].Alts {
		i, e := prog.Pick(d, alt.Name, len(alt.Kids))
		if e != api.OK || !isOfUse(first, alt) {
			continue
		}
		scope := func(name string) api.Type {
			if j := slices.Index(d.Cases[i].Vars, name); j >= 0 {
				return from(first, alt.Kids[j])
			}
			return param(name)
		}
		if !a.fits(d.Cases[i].Body, r.Value, scope) {
			return false
		}
	}
	return true
}

// holds reports whether the account holds for a question.
func (a account) holds(name string, args []api.Type) bool {
	r, is := a.row(name)
	if !is {
		return false
	}
	for i, ty := range args {
		if !isUnder(ty, r.Params[i]) {
			return false
		}
	}
	return base.Every(a.rows, a.rowHolds)
}
