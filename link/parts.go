package link

import (
	"bytes"
	"slices"

	"roundelay/api"
	"roundelay/base"
	"roundelay/code"
	"roundelay/core"
	"roundelay/prog"
)

// Join returns one module of two.
func Join(a, b api.Module) (api.Module, api.Errno) {
	if e := Check(a); e != api.OK {
		return api.Module{}, e
	}
	if e := Check(b); e != api.OK {
		return api.Module{}, e
	}
	if twice(a.Gives, b.Gives) {
		return api.Module{}, api.ErrTwice
	}
	both := []api.Module{a, b}
	m := api.Module{Name: a.Name, Gives: slices.Concat(a.Gives, b.Gives), Wants: missing(both)}
	unlike := func(w api.Want) bool {
		n := wanted(m.Wants, w.Name)
		return n >= 0 && m.Wants[n] != w
	}
	if !fits(both) || base.Some(slices.Concat(a.Wants, b.Wants), unlike) {
		return api.Module{}, api.ErrClash
	}
	blocks, private := joined(both)
	if base.Some(private, func(name string) bool { return wanted(m.Wants, name) >= 0 }) {
		return api.Module{}, api.ErrClash
	}
	if len(blocks)+len(m.Wants) > prog.MaxDefs {
		return api.Module{}, api.ErrMany
	}
	m.Blocks = blocks
	return m, api.OK
}

// part returns the module of the blocks of a group.
func part(c api.Core, groups []int, group int) api.Module {
	m := api.Module{Name: "part" + string([]byte{'a' + byte(group)})}
	for i, b := range c.Blocks {
		if groups[i] != group {
			continue
		}
		m.Blocks = append(m.Blocks, renamed(b, same))
		m.Gives = append(m.Gives, b.Name)
		for name := range called(b) {
			if n := find(c.Blocks, name); groups[n] != group && wanted(m.Wants, name) < 0 {
				m.Wants = append(m.Wants, api.Want{Name: name, Arity: c.Blocks[n].Arity})
			}
		}
	}
	return m
}

// Split returns a core as modules.
func Split(c api.Core, groups []int) ([]api.Module, api.Errno) {
	if e := core.Check(c); e != api.OK {
		return nil, e
	}
	if len(groups) != len(c.Blocks) {
		return nil, api.ErrMany
	}
	if !base.Every(groups, base.Within(MaxModules)) {
		return nil, api.ErrRange
	}
	var l []api.Module
	for k := range slices.Max(groups) + 1 {
		if !slices.Contains(groups, k) {
			return nil, api.ErrNone
		}
		l = append(l, part(c, groups, k))
	}
	return l, api.OK
}

// change is what is asked of a module before it is changed, and what becomes of the copy then.
type change struct {
	ask func(m api.Module) api.Errno
	do  func(m *api.Module)
}

// changed returns a module in memory of its own, changed.
func (c change) changed(m api.Module) (api.Module, api.Errno) {
	if e := Check(m); e != api.OK {
		return api.Module{}, e
	}
	if e := c.ask(m); e != api.OK {
		return api.Module{}, e
	}
	n := api.Module{Name: m.Name, Blocks: copied(m.Blocks), Gives: slices.Clone(m.Gives), Wants: slices.Clone(m.Wants)}
	c.do(&n)
	return n, api.OK
}

// Hide returns a module that does not give some names any more.
func Hide(m api.Module, names []string) (api.Module, api.Errno) {
	return change{func(m api.Module) api.Errno {
		switch {
		case !base.Every(names, func(name string) bool { return slices.Contains(m.Gives, name) }):
			return api.ErrNot
		case twice(names):
			return api.ErrTwice
		}
		return api.OK
	}, func(m *api.Module) {
		m.Gives = slices.DeleteFunc(m.Gives, func(name string) bool { return slices.Contains(names, name) })
	}}.changed(m)
}

// Rename returns a module in which a block, or what it wants, has another name.
func Rename(m api.Module, from, to string) (api.Module, api.Errno) {
	has := func(m api.Module, name string) bool { return find(m.Blocks, name) >= 0 || wanted(m.Wants, name) >= 0 }
	return change{func(m api.Module) api.Errno {
		switch {
		case !has(m, from):
			return api.ErrNot
		case !base.IsName(to):
			return api.ErrForm
		case from != to && has(m, to):
			return api.ErrTwice
		}
		return api.OK
	}, func(m *api.Module) {
		w := work{*m, map[string]string{from: to}}
		name := w.name
		for i, b := range m.Blocks {
			m.Blocks[i] = renamed(b, name)
		}
		for i, g := range m.Gives {
			m.Gives[i] = name(g)
		}
		for i, x := range m.Wants {
			m.Wants[i].Name = name(x.Name)
		}
	}}.changed(m)
}

// reached returns the names of the blocks that are reached from some, and of what they want.
func reached(blocks []api.Block, roots []string) map[string]bool {
	met := map[string]bool{}
	for work := slices.Clone(roots); len(work) > 0; work = work[1:] {
		if met[work[0]] {
			continue
		}
		met[work[0]] = true
		if n := find(blocks, work[0]); n >= 0 {
			work = slices.AppendSeq(work, called(blocks[n]))
		}
	}
	return met
}

// Fit returns a module without what is not reached.
func Fit(m api.Module) (api.Module, api.Errno) {
	return change{func(m api.Module) api.Errno {
		if len(m.Gives) == 0 {
			return api.ErrNone
		}
		return api.OK
	}, func(m *api.Module) {
		met := reached(m.Blocks, m.Gives)
		m.Blocks = slices.DeleteFunc(m.Blocks, func(b api.Block) bool { return !met[b.Name] })
		m.Wants = slices.DeleteFunc(m.Wants, func(w api.Want) bool { return !met[w.Name] })
	}}.changed(m)
}

// Shake returns a core with the blocks that are reached from some.
func Shake(c api.Core, roots []string) (api.Core, api.Errno) {
	if e := core.Check(c); e != api.OK {
		return api.Core{}, e
	}
	if len(roots) == 0 {
		return api.Core{}, api.ErrMany
	}
	if base.Some(roots, func(name string) bool { return find(c.Blocks, name) < 0 }) {
		return api.Core{}, api.ErrNot
	}
	met := reached(c.Blocks, roots)
	return api.Core{Blocks: slices.DeleteFunc(copied(c.Blocks), func(b api.Block) bool { return !met[b.Name] })}, api.OK
}

// letters returns the length of a name, and its letters.
func letters(name string) []byte {
	return append([]byte{byte(len(name))}, name...)
}

// Pack returns the bytes of a module.
func Pack(m api.Module) ([]byte, api.Errno) {
	c, e := Core(m)
	if e != api.OK {
		return nil, e
	}
	b, e := code.Encode(c)
	if e != api.OK {
		return nil, e
	}
	out := append(letters(m.Name), byte(len(m.Gives)))
	for _, g := range m.Gives {
		out = append(out, letters(g)...)
	}
	return slices.Concat(out, []byte{byte(len(m.Wants))}, b), api.OK
}

// unpack returns the module that bytes say, if they say one.
func unpack(b []byte) (api.Module, bool) {
	is := true
	take := func() int {
		if len(b) == 0 {
			is = false
			return 0
		}
		n := int(b[0])
		b = b[1:]
		return n
	}
	name := func() string {
		var l []byte
		for range take() {
			l = append(l, byte(take()))
		}
		return string(l)
	}
	m := api.Module{Name: name()}
	for range take() {
		m.Gives = append(m.Gives, name())
	}
	many := take()
	c, e := code.Decode(b)
	if !is || e != api.OK || many > len(c.Blocks) {
		return api.Module{}, false
	}
	own := len(c.Blocks) - many
	m.Blocks = c.Blocks[:own:own]
	for _, s := range c.Blocks[own:] {
		m.Wants = append(m.Wants, api.Want{Name: s.Name, Arity: s.Arity})
	}
	return m, true
}

// Unpack returns the module whose bytes are some.
func Unpack(b []byte) (api.Module, api.Errno) {
	m, is := unpack(b)
	if !is {
		return api.Module{}, api.ErrForm
	}
	// There is one way alone to write a module, in which stubs stand for what it wants.
	if packed, e := Pack(m); e != api.OK || !bytes.Equal(packed, b) {
		return api.Module{}, api.ErrForm
	}
	return m, api.OK
}
