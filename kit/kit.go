// Package kit helps the tests: it writes trees shortly, and rolls dice that always fall alike. The program does not use it.
package kit

import "roundelay/api"

// N is a node.
func N(name string, kids ...int) api.Node { return api.Node{Name: name, Kids: kids} }

// T is a tree with the root 0.
func T(nodes ...api.Node) api.Tree { return api.Tree{Nodes: nodes} }

// Dice are numbers that look like chance, and are the same each time.
type Dice struct{ state uint64 }

// Roll returns a number from 0 to many less 1.
func (d *Dice) Roll(many int) int {
	d.state = d.state*6364136223846793005 + 1442695040888963407
	return int(d.state>>33) % many
}

// Tree returns a tree of at most so many nodes, with the names a, b (none below), s, t (one), p (two).
func (d *Dice) Tree(most int) api.Tree {
	many := 1 + d.Roll(most)
	t := api.Tree{Root: d.Roll(many)}
	for range many {
		n := []api.Node{N("a"), N("b"), N("s", 0), N("t", 0), N("p", 0, 0), N("p", 0, 0)}[d.Roll(6)]
		for i := range n.Kids {
			n.Kids[i] = d.Roll(many)
		}
		t.Nodes = append(t.Nodes, n)
	}
	return t
}

// Long is a path that is longer than any may be.
func Long() []int { return make([]int, 41) }

// List is the endless list of a.
func List() api.Tree { return T(N("cons", 1, 0), N("a")) }

// List2 is alike List, with three nodes.
func List2() api.Tree { return T(N("cons", 1, 2), N("a"), N("cons", 1, 0)) }

// Wrong is trees that are not right, and their errors.
func Wrong() map[api.Errno]api.Tree {
	return map[api.Errno]api.Tree{
		api.ErrMany: {},
		api.ErrForm: T(N("A")),
		api.ErrNot:  T(N("s", 1)),
	}
}
