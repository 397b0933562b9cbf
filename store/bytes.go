package store

import (
	"cmp"
	"slices"

	"roundelay/alike"
	"roundelay/api"
	"roundelay/base"
	"roundelay/graph"
)

// isLeast reports whether a tree is a least graph.
func isLeast(t api.Tree) bool {
	is, e := alike.IsLeast(t)
	return is && e == api.OK
}

// nameBytes returns the length of a name, and its letters.
func nameBytes(name string) []byte { return append([]byte{byte(len(name))}, name...) }

// treeBytes returns the bytes of a least graph.
func treeBytes(t api.Tree) []byte {
	b := []byte{byte(len(t.Nodes))}
	for _, n := range t.Nodes {
		b = append(append(b, nameBytes(n.Name)...), byte(len(n.Kids)))
		for _, k := range n.Kids {
			b = append(b, byte(k))
		}
	}
	return b
}

// listBytes returns the bytes of a generation.
func listBytes(l []api.Named) []byte {
	b := []byte{byte(len(l))}
	for _, x := range l {
		b = slices.Concat(b, nameBytes(x.Name), treeBytes(x.Tree))
	}
	return b
}

// changeBytes returns the bytes of changes.
func changeBytes(l []api.Change) []byte {
	b := []byte{byte(len(l))}
	for _, c := range l {
		b = append(b, nameBytes(c.Name)...)
		if c.Gone {
			b = append(b, 0)
		} else {
			b = append(append(b, 1), treeBytes(c.Tree)...)
		}
	}
	return b
}

// reading returns a function that reads the next byte, and one that tells whether there were enough, and none is left.
func reading(b []byte) (next func() int, done func() bool) {
	enough := true
	next = func() int {
		if len(b) == 0 {
			enough = false
			return 0
		}
		n := int(b[0])
		b = b[1:]
		return n
	}
	return next, func() bool { return enough && len(b) == 0 }
}

// readName reads a name.
func readName(next func() int) string {
	var l []byte
	for range next() {
		l = append(l, byte(next()))
	}
	return string(l)
}

// readTree reads a tree.
func readTree(next func() int) api.Tree {
	var t api.Tree
	for range next() {
		n := api.Node{Name: readName(next)}
		for range next() {
			n.Kids = append(n.Kids, next())
		}
		t.Nodes = append(t.Nodes, n)
	}
	return t
}

// parseChanges returns the changes whose bytes are some, if there are any.
func parseChanges(b []byte) ([]api.Change, bool) {
	next, done := reading(b)
	var l []api.Change
	right := true
	for range next() {
		c := api.Change{Name: readName(next)}
		switch next() {
		case 0:
			c.Gone = true
		case 1:
			c.Tree = readTree(next)
			right = right && isLeast(c.Tree)
		default:
			right = false
		}
		right = right && base.IsName(c.Name)
		l = append(l, c)
	}
	return l, right && done() && len(l) >= 1 && len(l) <= MaxChanges
}

// kind is what is done for a change to the trees that names are bound to: an error if it cannot be done.
type kind struct {
	do func(bound map[string]api.Tree, c api.Change) api.Errno
}

// changed returns a list with changes: ErrTwice, ErrNone, ErrMany.
func changed(list []api.Named, changes []api.Change) ([]api.Named, api.Errno) {
	for i, c := range changes {
		if base.Some(changes[:i], func(b api.Change) bool { return b.Name == c.Name }) {
			return nil, api.ErrTwice
		}
	}
	bound := map[string]api.Tree{}
	for _, x := range list {
		bound[x.Name] = x.Tree
	}
	kinds := [2]kind{{func(bound map[string]api.Tree, c api.Change) api.Errno {
		bound[c.Name] = c.Tree
		return api.OK
	}}, {func(bound map[string]api.Tree, c api.Change) api.Errno {
		if _, is := bound[c.Name]; !is {
			return api.ErrNone
		}
		delete(bound, c.Name)
		return api.OK
	}}}
	for _, c := range changes {
		k := kinds[0]
		if c.Gone {
			k = kinds[1]
		}
		if e := k.do(bound, c); e != api.OK {
			return nil, e
		}
	}
	if len(bound) > MaxNamed {
		return nil, api.ErrMany
	}
	var l []api.Named
	for name, t := range bound {
		l = append(l, api.Named{Name: name, Tree: graph.Copy(t)})
	}
	slices.SortFunc(l, order)
	return l, api.OK
}

// order orders names.
func order(a, b api.Named) int {
	return cmp.Compare(a.Name, b.Name)
}

// isGeneration reports whether a list is one of a generation, but for how many names there are.
func isGeneration(l []api.Named) bool {
	for i, x := range l {
		if !base.IsName(x.Name) || !isLeast(x.Tree) || i > 0 && order(l[i-1], x) >= 0 {
			return false
		}
	}
	return true
}

// Bytes returns the bytes of a generation.
func Bytes(l []api.Named) ([]byte, api.Errno) {
	if len(l) > MaxNamed {
		return nil, api.ErrMany
	}
	if !isGeneration(l) {
		return nil, api.ErrForm
	}
	return listBytes(l), api.OK
}

// Parse returns the generation whose bytes are some.
func Parse(b []byte) ([]api.Named, api.Errno) {
	next, done := reading(b)
	var l []api.Named
	for range next() {
		x := api.Named{Name: readName(next)}
		x.Tree = readTree(next)
		l = append(l, x)
	}
	if !done() || len(l) > MaxNamed || !isGeneration(l) {
		return nil, api.ErrForm
	}
	return l, api.OK
}
