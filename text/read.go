package text

import (
	"slices"
	"strconv"

	"roundelay/api"
	"roundelay/base"
	"roundelay/tree"
)

// use is a label where it is written: its token, and whether it has an = of its own there.
type use struct {
	Token
	label int
	owns  bool
}

// reader reads a text: what may come next, the nodes, where their bytes are, the labels in front of them (0 is none), and the nodes whose parentheses are open.
type reader struct {
	source
	may    func(t Token) bool
	nodes  []api.Node
	spans  [][2]int
	fronts []int
	labels map[int]int
	uses   []use
	open   []int
	last   int
}

// begins reports whether a token may begin a node.
func (r *reader) begins(t Token) bool { return t.Kind == Name || t.Kind == Label }

// follows reports whether a token may come after a node.
func (r *reader) follows(t Token) bool {
	if len(r.open) == 0 {
		return false
	}
	full := len(r.nodes[r.open[len(r.open)-1]].Kids) >= api.MaxKids
	return t.Kind == Close || t.Kind == Comma && !full
}

// named reports whether a token may come after a name.
func (r *reader) named(t Token) bool { return t.Kind == Open || r.follows(t) }

// just returns what may come if it is one kind alone.
func just(kind int) func(Token) bool {
	return func(t Token) bool { return t.Kind == kind }
}

// attach puts a node below the one whose parentheses are open.
func (r *reader) attach(node int) {
	if len(r.open) > 0 {
		above := &r.nodes[r.open[len(r.open)-1]]
		above.Kids = append(above.Kids, node)
	}
}

// add adds the node of a name.
func (r *reader) add(t Token) {
	n := len(r.nodes)
	front := 0
	if r.last == Is {
		front = r.uses[len(r.uses)-1].label
	}
	r.nodes = append(r.nodes, api.Node{Name: t.Text})
	r.spans = append(r.spans, [2]int{t.At, t.At + len(t.Text)})
	r.fronts = append(r.fronts, front)
	r.attach(n)
}

// label reads a label.
func (r *reader) label(t Token) {
	l, _ := strconv.Atoi(t.Text)
	node, is := r.labels[l]
	r.uses = append(r.uses, use{t, l, !is})
	if !is {
		r.may = just(Is)
		return
	}
	r.attach(node)
	r.may = r.follows
}

// take reads a token that may come.
func (r *reader) take(t Token) {
	switch t.Kind {
	case Name:
		r.add(t)
		r.may = r.named
	case Label:
		r.label(t)
	case Is:
		r.labels[r.uses[len(r.uses)-1].label] = len(r.nodes)
		r.may = just(Name)
	case Open:
		r.open = append(r.open, len(r.nodes)-1)
		r.may = r.begins
	case Comma:
		r.may = r.begins
	case Close:
		n := r.open[len(r.open)-1]
		r.open = r.open[:len(r.open)-1]
		r.spans[n][1] = t.At + 1
		r.may = r.follows
	}
	r.last = t.Kind
}

// read reads a text, and returns the errors of a text.
func read(s string) (*reader, int, api.Errno) {
	if len(s) > api.MaxBytes {
		return nil, 0, api.ErrLong
	}
	r := &reader{source: source{s}, labels: map[int]int{}}
	r.may = r.begins
	for p := range r.pieces {
		switch {
		case !r.may(p.Token):
			return nil, p.At, api.ErrForm
		case p.Kind == Name && len(r.nodes) == api.MaxNodes:
			return nil, p.At, api.ErrMany
		case p.wrong >= 0:
			return nil, p.wrong, api.ErrForm
		}
		r.take(p.Token)
	}
	if len(r.open) > 0 || r.last != Name && r.last != Close {
		return nil, len(s), api.ErrForm
	}
	return r, 0, api.OK
}

// find returns the node to which a path leads.
func (r *reader) find(path []int) (int, api.Errno) {
	if len(path) > tree.MaxDepth {
		return 0, api.ErrMany
	}
	node := 0
	for _, k := range path {
		if k < 0 || k >= len(r.nodes[node].Kids) {
			return 0, api.ErrNot
		}
		node = r.nodes[node].Kids[k]
	}
	return node, api.OK
}

// Where returns the bytes of the node to which a path leads.
func Where(s string, path []int) (from, to int, e api.Errno) {
	r, _, e := read(s)
	if e != api.OK {
		return 0, 0, e
	}
	n, e := r.find(path)
	if e != api.OK {
		return 0, 0, e
	}
	return r.spans[n][0], r.spans[n][1], api.OK
}

// defined returns the labels that have = outside of some bytes, in order.
func (r *reader) defined(from, to int) []int {
	var l []int
	for _, u := range r.uses {
		if u.owns && (u.At < from || u.At >= to) {
			l = append(l, u.label)
		}
	}
	return l
}

// cutOff reports whether a label has its = within some bytes, and is written alone outside of them.
func (r *reader) cutOff(from, to int) bool {
	out := r.defined(from, to)
	return base.Some(r.uses, func(u use) bool {
		return (u.At < from || u.At >= to) && !slices.Contains(out, u.label)
	})
}

// fitted returns the text from the first token to the last one, for a place with a label in front (0 is none), where other labels are taken.
func (r *reader) fitted(front int, taken []int) string {
	from := r.spans[0][0]
	to := map[int]string{}
	if r.fronts[0] > 0 && front > 0 {
		to[r.fronts[0]] = strconv.Itoa(front)
	} else if r.fronts[0] > 0 {
		from = r.uses[0].At
	}
	next := 1
	for _, l := range r.defined(0, 0) {
		if _, is := to[l]; is {
			continue
		}
		for slices.Contains(taken, next) {
			next++
		}
		to[l] = strconv.Itoa(next)
		next++
	}
	var parts []string
	at := from
	for _, u := range r.uses {
		if u.At >= from {
			parts = append(parts, r.text[at:u.At], to[u.label])
			at = u.At + len(u.Text)
		}
	}
	return concat(append(parts, r.text[at:r.spans[0][1]])...)
}

// Change returns a text in which a node's bytes are replaced by another text.
func Change(s string, path []int, u string) (string, api.Errno) {
	r, _, e := read(s)
	if e != api.OK {
		return "", e
	}
	by, _, e := read(u)
	if e != api.OK {
		return "", e
	}
	n, e := r.find(path)
	if e != api.OK {
		return "", e
	}
	from, to := r.spans[n][0], r.spans[n][1]
	if r.cutOff(from, to) {
		return "", api.ErrClash
	}
	names := len(by.nodes)
	for _, span := range r.spans {
		if span[0] < from || span[0] >= to {
			names++
		}
	}
	if names > api.MaxNodes {
		return "", api.ErrMany
	}
	v := concat(s[:from], by.fitted(r.fronts[n], r.defined(from, to)), s[to:])
	if len(v) > api.MaxBytes {
		return "", api.ErrLong
	}
	return v, api.OK
}
