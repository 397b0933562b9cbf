package script

import (
	"slices"

	"roundelay/api"
	"roundelay/prog"
)

// source is the tokens of a script, and the index at which it is wrong if there are too few.
type source struct {
	list []Token
	end  int
}

// reader reads tokens: the next one, the index at which the script is wrong, or -1, how many of each kind were read, and what is read between brackets.
type reader struct {
	source
	at, wrong int
	seen      [10]int
	item      func()
}

// written is a definition, and its bytes.
type written struct {
	api.Def
	from, to int
}

// begin returns a reader of a script, whether it is cut wrong: ErrLong.
func begin(s string) (r *reader, isCut bool, e api.Errno) {
	if len(s) > api.MaxBytes {
		return nil, false, api.ErrLong
	}
	r = &reader{source: source{end: len(s)}, wrong: -1}
	for t, wrong := range tokens(s) {
		// A name that is too long is a name all the same.
		if t.Kind != 0 {
			r.list = append(r.list, t)
		}
		if wrong >= 0 {
			r.end, isCut = wrong, true
		}
	}
	return r, isCut, api.OK
}

// next returns the next token; behind the last one there is one of the kind 0.
func (r *reader) next() Token {
	if r.at < len(r.list) {
		return r.list[r.at]
	}
	return Token{At: r.end}
}

// is reports whether the next token is of a kind, and nothing was wrong.
func (r *reader) is(kind int) bool { return r.wrong < 0 && r.next().Kind == kind }

// take reads a token of a kind.
func (r *reader) take(kind int) Token {
	if r.wrong >= 0 {
		return Token{}
	}
	next := r.next
	t := next()
	if t.Kind != kind {
		r.wrong = t.At
		return Token{}
	}
	r.at++
	if kind == Name {
		r.seen[9]++
	} else {
		r.seen[single(byte(kind))]++
	}
	return t
}

// many reads what is to be read again and again, with a token between each two.
func (r *reader) many(between int, read func()) {
	read()
	for r.is(between) {
		r.take(between)
		read()
	}
}

// brackets reads what is read between brackets, with commas, if there is anything.
func (r *reader) brackets(open, shut int, item func()) {
	outer := r.item
	r.item = item
	r.take(open)
	if !r.is(shut) {
		r.many(',', r.item)
	}
	r.take(shut)
	r.item = outer
}

// names reads names between brackets.
func (r *reader) names(open, shut int) []string {
	var l []string
	r.brackets(open, shut, func() { l = append(l, r.take(Name).Text) })
	return l
}

// expr reads an expression.
func (r *reader) expr() api.Expr {
	var read func() api.Expr
	read = func() api.Expr {
		x := api.Expr{Kind: api.Var, Name: r.take(Name).Text}
		var args []api.Expr
		arg := func() {
			a := read()
			args = append(args, a)
		}
		switch {
		case r.is('('):
			x.Kind = api.Make
			r.brackets('(', ')', arg)
		case r.is('['):
			x.Kind = api.Call
			r.brackets('[', ']', arg)
		}
		x.Args = slices.Clone(args)
		return x
	}
	return read()
}

// def reads a definition, if there is any token.
func (r *reader) def() written {
	if r.at == len(r.list) {
		return written{}
	}
	name := r.take(Name)
	d := api.Def{Name: name.Text, Params: r.names('[', ']')}
	if t := r.next(); t == (Token{t.At, Name, "of"}) && r.wrong < 0 {
		r.take(Name)
		r.many(';', func() {
			c := api.Case{Name: r.take(Name).Text, Vars: r.names('(', ')')}
			r.take(':')
			c.Body = r.expr()
			d.Cases = append(d.Cases, c)
		})
	} else {
		r.take('=')
		d.Body = r.expr()
	}
	point := r.take('.')
	return written{d, name.At, point.At + 1}
}

// read returns the definitions of a script, and the index at which it is wrong: ErrLong, ErrForm.
func read(s string) ([]written, int, api.Errno) {
	r, isCut, e := begin(s)
	if e != api.OK {
		return nil, 0, e
	}
	var l []written
	for {
		before := r.seen
		d := r.def()
		if r.wrong >= 0 {
			return nil, r.wrong, api.ErrForm
		}
		if r.seen == before {
			break
		}
		l = append(l, d)
	}
	if isCut {
		return nil, r.end, api.ErrForm
	}
	return l, 0, api.OK
}

// program returns the program of definitions.
func program(l []written) api.Prog {
	var p api.Prog
	for i := range len(l) {
		p.Defs = append(p.Defs, l[i].Def)
	}
	return p
}

// parse returns the definitions of a script whose program is right: the errors of a script.
func parse(s string) ([]written, int, api.Errno) {
	l, at, e := read(s)
	if e != api.OK {
		return nil, at, e
	}
	if e := prog.Check(program(l)); e != api.OK {
		return nil, len(s), e
	}
	return l, 0, api.OK
}

// Parse returns the program of a script.
func Parse(s string) (api.Prog, int, api.Errno) {
	l, at, e := parse(s)
	if e != api.OK {
		return api.Prog{}, at, e
	}
	return program(l), 0, api.OK
}

// Read returns the expression that a text is.
func Read(s string) (api.Expr, int, api.Errno) {
	r, isCut, e := begin(s)
	if e != api.OK {
		return api.Expr{}, 0, e
	}
	x := r.expr()
	switch {
	case r.wrong >= 0:
		return api.Expr{}, r.wrong, api.ErrForm
	case r.at < len(r.list):
		return api.Expr{}, r.next().At, api.ErrForm
	case isCut:
		return api.Expr{}, r.end, api.ErrForm
	case prog.Size(x) > prog.MaxSize:
		return api.Expr{}, len(s), api.ErrMany
	}
	return x, 0, api.OK
}

// Defs returns the names of the definitions of a script.
func Defs(s string) ([]string, int, api.Errno) {
	l, at, e := parse(s)
	if e != api.OK {
		return nil, at, e
	}
	var names []string
	for _, d := range l {
		names = append(names, d.Name)
	}
	return names, 0, api.OK
}

// places returns where the first definition of each name is.
func places(l []written) map[string][2]int {
	m := map[string][2]int{}
	for _, d := range slices.Backward(l) {
		m[d.Name] = [2]int{d.from, d.to}
	}
	return m
}

// Where returns the bytes of a definition.
func Where(s, name string) (from, to int, e api.Errno) {
	l, _, e := parse(s)
	if e != api.OK {
		return 0, 0, e
	}
	at, is := places(l)[name]
	if !is {
		return 0, 0, api.ErrNot
	}
	return at[0], at[1], api.OK
}

// checked returns a script, if it is right.
func checked(s string) (string, api.Errno) {
	if _, _, e := parse(s); e != api.OK {
		return "", e
	}
	return s, api.OK
}

// Replace returns a script with the definition of another one.
func Replace(s, u string) (string, api.Errno) {
	l, _, e := read(s)
	if e != api.OK {
		return "", e
	}
	by, _, e := read(u)
	if e != api.OK {
		return "", e
	}
	if len(by) != 1 {
		return "", api.ErrMany
	}
	bytes := u[by[0].from:by[0].to]
	if at, is := places(l)[by[0].Name]; is {
		return checked(concat(s[:at[0]], bytes, s[at[1]:]))
	}
	if s != "" {
		s = concat(s, "\n")
	}
	return checked(concat(s, bytes, "\n"))
}

// Drop returns a script without a definition.
func Drop(s, name string) (string, api.Errno) {
	from, to, e := Where(s, name)
	if e != api.OK {
		return "", e
	}
	if to < len(s) && s[to] == '\n' {
		to++
	}
	return checked(concat(s[:from], s[to:]))
}
