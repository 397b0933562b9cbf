package code

import (
	"slices"
	"strconv"
	"strings"

	"roundelay/api"
	"roundelay/base"
	"roundelay/core"
)

// source is bytes that are read.
type source struct{ bytes []byte }

// reader reads bytes: where it is, and whether there were enough.
type reader struct {
	source
	at    int
	wrong bool
}

// byte reads a byte.
func (r *reader) byte() byte {
	if r.at >= len(r.bytes) {
		r.wrong = true
		return 0
	}
	r.at++
	return r.bytes[r.at-1]
}

// number reads a number, of at most three bytes: no right one has more.
func (r *reader) number() int {
	n := 0
	for i := range 3 {
		b := int(r.byte())
		n += b % 128 << (7 * i)
		if b < 128 {
			return n
		}
	}
	r.wrong = true
	return 0
}

// index reads a number that is less than another one.
func (r *reader) index(many int) int {
	n := r.number()
	if n >= many {
		r.wrong = true
		return 0
	}
	return n
}

// several reads how many there are, and each one.
func several[T any](r *reader, read func() T) []T {
	var l []T
	for range r.number() {
		if r.wrong {
			return nil
		}
		x := read()
		l = append(l, x)
	}
	return l
}

// letters reads a name.
func (r *reader) letters() string {
	return string(several(r, r.byte))
}

// read returns the core that bytes say, if they say one.
func read(b []byte) (api.Core, bool) {
	r := &reader{source: source{b}}
	if begin := [3]byte{r.byte(), r.byte(), r.byte()}; begin != first() {
		return api.Core{}, false
	}
	all := several(r, r.letters)
	name := func(n int) string {
		if n < 0 || n >= len(all) {
			r.wrong = true
			return ""
		}
		return all[n]
	}
	// Calls say the numbers of blocks, whose names are known when all are read.
	var calls []*api.Op
	var blocks []int
	branch := func() api.Branch {
		var br api.Branch
		if n := r.number(); n > 0 {
			br.Head = name(n - 1)
		}
		br.Kids = r.number()
		br.Ops = make([]api.Op, r.index(core.MaxOps+1))
		for i := range br.Ops {
			op := &br.Ops[i]
			op.Kind = r.index(core.Tie + 1)
			switch op.Kind {
			case core.Take, core.Below:
				op.Num = r.number()
				continue
			case core.Node:
				op.Name = name(r.number())
			default:
				calls, blocks = append(calls, op), append(blocks, r.number())
			}
			op.Args = several(r, func() int { return i - r.number() })
		}
		br.Result = len(br.Ops) - r.number()
		return br
	}
	var c api.Core
	c.Blocks = several(r, func() api.Block {
		b := api.Block{Name: name(r.number()), Arity: r.number()}
		b.Branches = several(r, branch)
		return b
	})
	for i, op := range calls {
		if blocks[i] >= len(c.Blocks) {
			return api.Core{}, false
		}
		op.Name = c.Blocks[blocks[i]].Name
	}
	return c, !r.wrong && r.at == len(b)
}

// Disassemble returns the text of a code, with marks.
func Disassemble(b []byte) (string, api.Errno) {
	w, e := decode(b)
	if e != api.OK {
		return "", e
	}
	text, e := core.Print(w.Core)
	if e != api.OK {
		return "", e
	}
	lines := strings.Split(strings.TrimSuffix(text, "\n"), "\n")
	n := 0
	for i, line := range lines {
		if strings.HasPrefix(line, "  ") && !strings.HasPrefix(line, "  is ") {
			lines[i] = line + " ; " + strconv.Itoa(w.marks[n].at)
			n++
		}
	}
	return strings.Join(lines, "\n") + "\n", api.OK
}

// words is the words of a line, of which some were read.
type words struct{ list []string }

// next reads the next word; behind the last one there is "".
func (w *words) next() string {
	if len(w.list) == 0 {
		return ""
	}
	word := w.list[0]
	w.list = w.list[1:]
	return word
}

// The states of an assembler: what comes next.
const (
	wantsBlock = iota
	wantsBranch
	within
	behind
)

// assembler makes a core of lines: what comes next, and the labels of the branch.
type assembler struct {
	core   api.Core
	state  int
	labels map[string]int
}

// block and branch return the last ones.
func (a *assembler) block() *api.Block { return &a.core.Blocks[len(a.core.Blocks)-1] }

func (a *assembler) branch() *api.Branch {
	b := a.block()
	return &b.Branches[len(b.Branches)-1]
}

// beginBlock reads what is behind "block".
func (a *assembler) beginBlock(w *words) api.Errno {
	name := w.next()
	arity, is := base.Number(w.next())
	if a.state != wantsBlock && a.state != behind || !base.IsName(name) || !is || len(w.list) > 0 {
		return api.ErrForm
	}
	a.core.Blocks = append(a.core.Blocks, api.Block{Name: name, Arity: arity})
	a.state = wantsBranch
	return api.OK
}

// beginBranch reads what is behind "of".
func (a *assembler) beginBranch(w *words) api.Errno {
	word := w.next()
	if a.state != wantsBranch && a.state != behind || len(w.list) > 0 {
		return api.ErrForm
	}
	var br api.Branch
	if word != "any" {
		head, kids, _ := strings.Cut(word, "/")
		n, is := base.Number(kids)
		if !is || !base.IsName(head) {
			return api.ErrForm
		}
		br.Head, br.Kids = head, n
	}
	b := a.block()
	b.Branches = append(b.Branches, br)
	a.state, a.labels = within, map[string]int{}
	return api.OK
}

// args reads Args: ErrForm, or else ErrNot if a label is not there.
func (a *assembler) args(w *words) ([]int, api.Errno) {
	find := func(label string) (int, api.Errno) {
		if n, is := a.labels[label]; is {
			return n, api.OK
		}
		return 0, api.ErrNot
	}
	var l []int
	e := api.OK
	for len(w.list) > 0 {
		word := w.next()
		n, is := base.Number(word)
		switch {
		case is:
		case !base.IsName(word):
			return nil, api.ErrForm
		default:
			var missing api.Errno
			if n, missing = find(word); missing != api.OK {
				e = missing
			}
		}
		l = append(l, n)
	}
	return l, e
}

// end reads what is behind "is".
func (a *assembler) end(w *words) api.Errno {
	if a.state != within || len(w.list) != 1 {
		return api.ErrForm
	}
	l, e := a.args(w)
	if e != api.OK {
		return e
	}
	a.branch().Result = l[0]
	a.state = behind
	return api.OK
}

// operation reads an operation, in front of which there may be its number or a label.
func (a *assembler) operation(word string, w *words) api.Errno {
	if a.state != within {
		return api.ErrForm
	}
	at := len(a.branch().Ops)
	label, isLabel := strings.CutSuffix(word, ":")
	n, isNumber := base.Number(word)
	if isLabel && !base.IsName(label) || isNumber && n != at {
		return api.ErrForm
	}
	if isLabel || isNumber {
		word = w.next()
	}
	all := forms()
	op := api.Op{Kind: base.First(all[:], func(f form) bool { return f.word == word && word != "" })}
	e := api.OK
	switch op.Kind {
	case -1:
		return api.ErrForm
	case core.Take, core.Below:
		n, is := base.Number(w.next())
		if !is || len(w.list) > 0 {
			return api.ErrForm
		}
		op.Num = n
	default:
		op.Name = w.next()
		op.Args, e = a.args(w)
		if !base.IsName(op.Name) || e == api.ErrForm {
			return api.ErrForm
		}
	}
	if _, twice := a.labels[label]; isLabel && twice {
		return api.ErrTwice
	}
	if e != api.OK {
		return e
	}
	if isLabel {
		a.labels[label] = at
	}
	a.branch().Ops = append(a.branch().Ops, op)
	return api.OK
}

// line reads a line that counts.
func (a *assembler) line(w *words) api.Errno {
	next := w.next
	switch word := next(); word {
	case "block":
		return a.beginBlock(w)
	case "of":
		return a.beginBranch(w)
	case "is":
		return a.end(w)
	default:
		return a.operation(word, w)
	}
}

// Assemble returns the core of a text.
func Assemble(s string) (api.Core, int, api.Errno) {
	if len(s) > api.MaxBytes {
		return api.Core{}, 0, api.ErrLong
	}
	a := &assembler{}
	all := strings.Split(s, "\n")
lines:
	for i, line := range all {
		line, _, _ = strings.Cut(line, ";")
		w := &words{slices.DeleteFunc(strings.Split(line, " "), func(word string) bool { return word == "" })}
		if len(w.list) == 0 {
			continue lines
		}
		if e := a.line(w); e != api.OK {
			return api.Core{}, i + 1, e
		}
	}
	if a.state == wantsBranch || a.state == within {
		return api.Core{}, len(all), api.ErrForm
	}
	if e := core.Check(a.core); e != api.OK {
		return api.Core{}, 0, e
	}
	return a.core, 0, api.OK
}
