// Package graph makes graphs of any size small: it has what the layers need before a graph is a right tree.
package graph

import (
	"slices"

	"roundelay/api"
)

// head is what a node is at once, and, where they are known, the classes of the nodes below, and 1.
type head struct {
	name string
	many int
	kids [api.MaxKids]int
}

// sign is what a node is, if the classes of the nodes below are known.
type sign struct {
	class int
	kids  [api.MaxKids]int
}

// number gives numbers to the keys of some nodes, from one on, in the order in which they are met, and returns how many there are.
func number[K comparable](nodes []int, from int, key func(node int) K, give func(node, number int)) int {
	met := map[K]int{}
	for _, n := range nodes {
		k := key(n)
		at, is := met[k]
		if !is {
			at = from + len(met)
			met[k] = at
		}
		give(n, at)
	}
	return len(met)
}

// split returns the nodes from which all paths end, those below first, and all others.
func split(nodes []api.Node) (ends, endless []int) {
	const (
		unmet = iota
		open
		ended
		round
	)
	state := make([]int, len(nodes))
	var visit func(n int)
	visit = func(n int) {
		state[n] = open
		next := ended
		for _, k := range nodes[n].Kids {
			if state[k] == unmet {
				visit(k)
			}
			if state[k] != ended {
				next = round
			}
		}
		state[n] = next
		if next == ended {
			ends = append(ends, n)
		} else {
			endless = append(endless, n)
		}
	}
	for n := range nodes {
		if state[n] == unmet {
			visit(n)
		}
	}
	return ends, endless
}

// refine returns the classes of nodes, and how many there are, until they no longer change, or are more than most.
func refine(nodes []api.Node, most int) ([]int, int) {
	class := make([]int, len(nodes))
	give := func(n, c int) { class[n] = c }
	ends, endless := split(nodes)
	// What is below a node from which all paths end is known before it, so that its class is known at once.
	known := number(ends, 0, func(n int) head {
		h := head{name: nodes[n].Name, many: len(nodes[n].Kids)}
		for j, k := range nodes[n].Kids {
			h.kids[j] = class[k] + 1
		}
		return h
	}, give)
	many := number(endless, known, func(n int) head { return head{name: nodes[n].Name, many: len(nodes[n].Kids)} }, give)
	for known+many <= most {
		old := slices.Clone(class)
		more := number(endless, known, func(n int) sign {
			s := sign{class: old[n]}
			for j, k := range nodes[n].Kids {
				s.kids[j] = old[k] + 1
			}
			return s
		}, give)
		if more == many {
			break
		}
		many = more
	}
	return class, known + many
}

// Classes returns for each node the number of its class, from 0 on: nodes from which on trees are alike are in one class. No node has more than api.MaxKids nodes below.
func Classes(nodes []api.Node) []int {
	class, _ := refine(nodes, len(nodes))
	return class
}

// Reached yields the nodes that are reached from some nodes, by breadth from the first one on, then from the next one that was not met, and so on.
func Reached(nodes []api.Node, roots ...int) func(yield func(int) bool) {
	return func(yield func(int) bool) {
		met := make([]bool, len(nodes))
		for _, r := range roots {
			if met[r] {
				continue
			}
			met[r] = true
			for queue := []int{r}; len(queue) > 0; queue = queue[1:] {
				if !yield(queue[0]) {
					return
				}
				for _, k := range nodes[queue[0]].Kids {
					if !met[k] {
						met[k] = true
						queue = append(queue, k)
					}
				}
			}
		}
	}
}

// Only returns the nodes that are reached from some nodes, numbered as they are met, and the new numbers of these.
func Only(nodes []api.Node, roots ...int) ([]api.Node, []int) {
	to := make([]int, len(nodes))
	var old []int
	for n := range Reached(nodes, roots...) {
		to[n] = len(old)
		old = append(old, n)
	}
	l := make([]api.Node, len(old))
	for i, n := range old {
		l[i] = api.Node{Name: nodes[n].Name, Kids: mapped(nodes[n].Kids, to)}
	}
	return l, mapped(roots, to)
}

// mapped returns numbers by a list that says what becomes of each.
func mapped(numbers, to []int) []int {
	l := make([]int, len(numbers))
	for i, n := range numbers {
		l[i] = to[n]
	}
	return l
}

// Share returns the least nodes for the trees of some nodes, numbered by breadth from the first one on, and the numbers of these: ErrMany if there are more than api.MaxNodes.
func Share(nodes []api.Node, roots ...int) ([]api.Node, []int, api.Errno) {
	all, starts := Only(nodes, roots...)
	class, many := refine(all, api.MaxNodes)
	if many > api.MaxNodes {
		return nil, nil, api.ErrMany
	}
	l := make([]api.Node, many)
	for i := range all {
		n := all[len(all)-1-i]
		l[class[len(all)-1-i]] = api.Node{Name: n.Name, Kids: mapped(n.Kids, class)}
	}
	least, at := Only(l, mapped(starts, class)...)
	return least, at, api.OK
}

// Least returns the least graph of a tree whose graph may have any size: ErrMany if it has more than api.MaxNodes nodes.
func Least(t api.Tree) (api.Tree, api.Errno) {
	nodes, _, e := Share(t.Nodes, t.Root)
	if e != api.OK {
		return api.Tree{}, e
	}
	return api.Tree{Nodes: nodes}, api.OK
}

// Moved returns nodes whose numbers below are greater by a number.
func Moved(nodes []api.Node, by int) []api.Node {
	many := 0
	for _, n := range nodes {
		many += len(n.Kids)
	}
	l := slices.Clone(nodes)
	// All numbers are made at once, as there are many small lists of them; each list has its own part.
	all := make([]int, 0, many)
	for i, n := range l {
		from := len(all)
		for _, k := range n.Kids {
			all = append(all, k+by)
		}
		l[i].Kids = all[from:len(all):len(all)]
	}
	return l
}

// Copy returns a tree that shares no memory with it.
func Copy(t api.Tree) api.Tree {
	return api.Tree{Nodes: Moved(t.Nodes, 0), Root: t.Root}
}

// Copies returns copies of trees.
func Copies(l []api.Tree) []api.Tree {
	c := make([]api.Tree, len(l))
	for i, t := range l {
		c[i] = Copy(t)
	}
	return c
}

// Same reports whether two graphs are the same, node by node.
func Same(a, b api.Tree) bool {
	return a.Root == b.Root && slices.EqualFunc(a.Nodes, b.Nodes, func(x, y api.Node) bool {
		return x.Name == y.Name && slices.Equal(x.Kids, y.Kids)
	})
}
