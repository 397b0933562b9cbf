package regex

import "roundelay/api"

// source is a text that is read.
type source struct{ text string }

// reader reads a text: where it is, and whether it is wrong there.
type reader struct {
	source
	at    int
	wrong bool
}

// next returns the next byte, or 0 at the end.
func (r *reader) next() byte {
	if r.wrong || r.at >= len(r.text) {
		return 0
	}
	return r.text[r.at]
}

// several reads one or more with a byte between each two, which are put together from the left.
func (r *reader) several(name string, between byte, read func() term) term {
	x := read()
	for r.next() == between && between != 0 {
		r.at++
		y := read()
		x = put(name, x, y)
	}
	return x
}

// alt reads an expression.
func (r *reader) alt() term {
	return r.several("alt", '|', func() term { return r.several("and", '&', r.cat) })
}

// begins reports whether the next byte begins what is put together by cat.
func (r *reader) begins() bool {
	switch r.next() {
	case '!', '(', '0', '1', 'a', 'b', 'c', 'd':
		return true
	}
	return false
}

// cat reads one or more, one behind the other.
func (r *reader) cat() term {
	x := r.not()
items:
	for {
		if !r.begins() {
			break items
		}
		y := r.not()
		x = put("cat", x, y)
	}
	return x
}

// not reads what may have ! in front, and * behind.
func (r *reader) not() term {
	if r.next() == '!' {
		r.at++
		return put("not", r.not())
	}
	x := r.atom()
	for r.next() == '*' {
		r.at++
		x = put("star", x)
	}
	return x
}

// atom reads a letter, 0, 1, or what is in parentheses.
func (r *reader) atom() term {
	c := r.next()
	if c != '(' && !r.begins() {
		r.wrong = true
		return term{}
	}
	r.at++
	switch c {
	case '(':
		x := r.alt()
		if r.next() != ')' {
			r.wrong = true
			return term{}
		}
		r.at++
		return x
	case '0':
		return put("none")
	case '1':
		return put("one")
	}
	return put(string([]byte{c}))
}

// Parse returns the expression of a text.
func Parse(s string) (api.Tree, int, api.Errno) {
	if len(s) > maxText {
		return api.Tree{}, 0, api.ErrLong
	}
	r := &reader{source: source{s}}
	x := r.alt()
	if r.wrong || r.at < len(s) {
		return api.Tree{}, r.at, api.ErrForm
	}
	t, e := x.tree()
	return t, 0, e
}

// binds returns how closely a name binds.
func binds(name string) int {
	switch name {
	case "alt":
		return 1
	case "and":
		return 2
	case "cat":
		return 3
	case "not":
		return 4
	}
	return 5
}

// text returns the printed text of a term.
func (x term) text() string {
	within := func(y term, second bool) string {
		s := y.text()
		// What binds less closely would be read otherwise; so would a second one that is put together in the same way.
		if binds(y.name) < binds(x.name) || second && y.name == x.name {
			return "(" + s + ")"
		}
		return s
	}
	switch x.name {
	case "none":
		return "0"
	case "one":
		return "1"
	case "alt":
		return within(x.kids[0], false) + "|" + within(x.kids[1], true)
	case "and":
		return within(x.kids[0], false) + "&" + within(x.kids[1], true)
	case "cat":
		return within(x.kids[0], false) + within(x.kids[1], true)
	case "not":
		return "!" + within(x.kids[0], false)
	case "star":
		return within(x.kids[0], false) + "*"
	}
	return x.name
}

// Print returns the printed text of an expression.
func Print(t api.Tree) (string, api.Errno) {
	if e := Check(t); e != api.OK {
		return "", e
	}
	return termOf(t, 0).text(), api.OK
}
