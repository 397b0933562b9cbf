// Package graph makes graphs of any size small: it has what the layers need before a graph is a right tree.
package graph

import (
	"slices"

	"roundelay/api"
)

// head is what a node is at once.
type head struct {
	name string
	many int
}

// sign is what a node is, if the classes of the nodes below are known.
type sign struct {
	class int
	kids  [api.MaxKids]int
}

// number gives numbers to keys, from 0 on, in the order in which they are met.
func number[K comparable](many int, key func(int) K) ([]int, int) {
	met := map[K]int{}
	l := make([]int, many)
	for i := range many {
		k := key(i)
		n, is := met[k]
		if !is {
			n = len(met)
			met[k] = n
		}
		l[i] = n
	}
	return l, len(met)
}

// refine returns the classes of nodes, and how many there are, until they no longer change, or are more than most.
func refine(nodes []api.Node, most int) ([]int, int) {
	class, many := number(len(nodes), func(i int) head { return head{nodes[i].Name, len(nodes[i].Kids)} })
	for many <= most {
		old := class
		next, more := number(len(nodes), func(i int) sign {
			s := sign{class: old[i]}
			for j, k := range nodes[i].Kids {
				s.kids[j] = old[k] + 1
			}
			return s
		})
		if more == many {
			break
		}
		class, many = next, more
	}
	return class, many
}

// Classes returns for each node the number of its class, in the order of their first nodes: nodes from which on trees are alike are in one class. No node has more than api.MaxKids nodes below.
func Classes(nodes []api.Node) []int {
	class, _ := refine(nodes, len(nodes))
	return class
}

// Reached yields the nodes that are reached from some nodes, by breadth from the first one on, then from the next one that was not met, and so on.
func Reached(nodes []api.Node, roots ...int) func(yield func(int) bool) {
	return func(yield func(int) bool) {
		met := make([]bool, len(nodes))
		for _, r := range roots {
			if met[r] {
				continue
			}
			met[r] = true
			for queue := []int{r}; len(queue) > 0; queue = queue[1:] {
				if !yield(queue[0]) {
					return
				}
				for _, k := range nodes[queue[0]].Kids {
					if !met[k] {
						met[k] = true
						queue = append(queue, k)
					}
				}
			}
		}
	}
}

// Only returns the nodes that are reached from some nodes, numbered as they are met, and the new numbers of these.
func Only(nodes []api.Node, roots ...int) ([]api.Node, []int) {
	to := make([]int, len(nodes))
	var old []int
	for n := range Reached(nodes, roots...) {
		to[n] = len(old)
		old = append(old, n)
	}
	l := make([]api.Node, len(old))
	for i, n := range old {
		l[i] = api.Node{Name: nodes[n].Name, Kids: mapped(nodes[n].Kids, to)}
	}
	return l, mapped(roots, to)
}

// mapped returns numbers by a list that says what becomes of each.
func mapped(numbers, to []int) []int {
	l := make([]int, len(numbers))
	for i, n := range numbers {
		l[i] = to[n]
	}
	return l
}

// Share returns the least nodes for the trees of some nodes, numbered by breadth from the first one on, and the numbers of these: ErrMany if there are more than api.MaxNodes.
func Share(nodes []api.Node, roots ...int) ([]api.Node, []int, api.Errno) {
	all, starts := Only(nodes, roots...)
	class, many := refine(all, api.MaxNodes)
	if many > api.MaxNodes {
		return nil, nil, api.ErrMany
	}
	l := make([]api.Node, many)
	for i := range all {
		n := all[len(all)-1-i]
		l[class[len(all)-1-i]] = api.Node{Name: n.Name, Kids: mapped(n.Kids, class)}
	}
	least, at := Only(l, mapped(starts, class)...)
	return least, at, api.OK
}

// Least returns the least graph of a tree whose graph may have any size: ErrMany if it has more than api.MaxNodes nodes.
func Least(t api.Tree) (api.Tree, api.Errno) {
	nodes, _, e := Share(t.Nodes, t.Root)
	if e != api.OK {
		return api.Tree{}, e
	}
	return api.Tree{Nodes: nodes}, api.OK
}

// Moved returns nodes whose numbers below are greater by a number.
func Moved(nodes []api.Node, by int) []api.Node {
	l := slices.Clone(nodes)
	for i, n := range l {
		l[i].Kids = slices.Clone(n.Kids)
		for j := range n.Kids {
			l[i].Kids[j] += by
		}
	}
	return l
}

// Copy returns a tree that shares no memory with it.
func Copy(t api.Tree) api.Tree {
	return api.Tree{Nodes: Moved(t.Nodes, 0), Root: t.Root}
}

// Copies returns copies of trees.
func Copies(l []api.Tree) []api.Tree {
	c := make([]api.Tree, len(l))
	for i, t := range l {
		c[i] = Copy(t)
	}
	return c
}

// Same reports whether two graphs are the same, node by node.
func Same(a, b api.Tree) bool {
	return a.Root == b.Root && slices.EqualFunc(a.Nodes, b.Nodes, func(x, y api.Node) bool {
		return x.Name == y.Name && slices.Equal(x.Kids, y.Kids)
	})
}
