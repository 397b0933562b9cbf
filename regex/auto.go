package regex

import (
	"slices"

	"roundelay/alike"
	"roundelay/api"
	"roundelay/base"
	"roundelay/graph"
	"roundelay/lasso"
	"roundelay/tree"
)

// named returns the name of a node that accepts, or does not.
func named(accepts bool) string {
	if accepts {
		return "yes"
	}
	return "no"
}

// letterAuto returns the automaton of the word of a letter; of a letter that is not one of the first k ones it accepts nothing.
func letterAuto(k, letter int) api.Tree {
	nodes := []api.Node{{Name: "no", Kids: slices.Repeat([]int{2}, k)}, {Name: "yes", Kids: slices.Repeat([]int{2}, k)}, {Name: "no", Kids: slices.Repeat([]int{2}, k)}}
	if letter < k {
		nodes[0].Kids[letter] = 1
	}
	t, _ := graph.Least(api.Tree{Nodes: nodes})
	return t
}

// oneAuto returns the automaton of the empty word.
func oneAuto(k int) api.Tree {
	return api.Tree{Nodes: []api.Node{{Name: "yes", Kids: slices.Repeat([]int{1}, k)}, {Name: "no", Kids: slices.Repeat([]int{1}, k)}}}
}

// notAuto returns an automaton with yes and no changed.
func notAuto(a api.Tree) api.Tree {
	t := graph.Copy(a)
	for i, n := range t.Nodes {
		t.Nodes[i].Name = named(n.Name == "no")
	}
	return t
}

// explore returns the least automaton of states that are met from one on: ErrMany if more than most are met, or the automaton is too large.
func explore[S comparable](k, most int, start S, accepts func(s S) bool, next func(s S, letter int) S) (api.Tree, api.Errno) {
	number := map[S]int{start: 0}
	states := []S{start}
	meet := func(s S) int {
		n, is := number[s]
		if !is {
			n = len(states)
			number[s] = n
			states = append(states, s)
		}
		return n
	}
	var t api.Tree
	for i := 0; i < len(states); i++ {
		n := api.Node{Name: named(accepts(states[i]))}
		for letter := range k {
			n.Kids = append(n.Kids, meet(next(states[i], letter)))
		}
		t.Nodes = append(t.Nodes, n)
		if len(states) > most {
			return api.Tree{}, api.ErrMany
		}
	}
	return graph.Least(t)
}

// automaton is an automaton at work.
type automaton struct{ api.Tree }

// accepts reports whether a node is accepted.
func (a automaton) accepts(node int) bool { return a.Nodes[node].Name == "yes" }

// both returns the automaton of the words of which something is so in two automata.
func both(k int, l []api.Tree, is func(x, y bool) bool) (api.Tree, api.Errno) {
	a, b := automaton{l[0]}, automaton{l[1]}
	inA, inB := a.accepts, b.accepts
	return explore(k, api.MaxNodes*api.MaxNodes, [2]int{a.Root, b.Root}, func(p [2]int) bool { return is(inA(p[0]), inB(p[1])) }, func(p [2]int, letter int) [2]int {
		return [2]int{a.Nodes[p[0]].Kids[letter], b.Nodes[p[1]].Kids[letter]}
	})
}

// set is a set of nodes.
type set [api.MaxNodes]bool

// some reports whether a node of a set is accepted.
func (a automaton) some(s set) bool {
	for n := range a.Nodes {
		if s[n] && a.accepts(n) {
			return true
		}
	}
	return false
}

// step returns the nodes to which a letter leads from those of a set.
func (a automaton) step(s set, letter int) set {
	var to set
	for n := range a.Nodes {
		if s[n] {
			to[a.Nodes[n].Kids[letter]] = true
		}
	}
	return to
}

// mixed is a node of one automaton, and nodes of another one.
type mixed struct {
	node int
	set  set
}

// catAuto returns the automaton of a word of one and a word of another one behind it.
func catAuto(k int, l []api.Tree) (api.Tree, api.Errno) {
	a, b := automaton{l[0]}, automaton{l[1]}
	enter := func(m mixed) mixed {
		if a.accepts(m.node) {
			m.set[b.Root] = true
		}
		return m
	}
	return explore(k, MaxPairs, enter(mixed{node: a.Root}), func(m mixed) bool { return b.some(m.set) }, func(m mixed, letter int) mixed {
		return enter(mixed{a.Nodes[m.node].Kids[letter], b.step(m.set, letter)})
	})
}

// starAuto returns the automaton of any number of words, one behind the other.
func starAuto(k int, l []api.Tree) (api.Tree, api.Errno) {
	a := automaton{l[0]}
	var start set
	start[a.Root] = true
	t, e := explore(k, MaxPairs, start, a.some, func(s set, letter int) set {
		to := a.step(s, letter)
		if a.some(to) {
			to[a.Root] = true
		}
		return to
	})
	if e != api.OK {
		return api.Tree{}, e
	}
	// The empty word is accepted, which may be so at the beginning alone.
	nodes := append([]api.Node{{Name: "yes", Kids: graph.Moved(t.Nodes[:1], 1)[0].Kids}}, graph.Moved(t.Nodes, 1)...)
	return graph.Least(api.Tree{Nodes: nodes})
}

// auto returns the automaton of a term: ErrMany if it is too much.
func (x term) auto(k int) (api.Tree, api.Errno) {
	var kids []api.Tree
	for _, y := range x.kids {
		a, e := y.auto(k)
		if e != api.OK {
			return api.Tree{}, e
		}
		kids = append(kids, a)
	}
	m, _ := find(x.name)
	t, e := m.auto(k, kids)
	if e != api.OK {
		return api.Tree{}, e
	}
	return graph.Least(t)
}

// checkLetters returns the error of how many letters there are.
func checkLetters(k int) api.Errno {
	if k < 1 || k > maxLetters {
		return api.ErrRange
	}
	return api.OK
}

// Auto returns the automaton of an expression.
func Auto(t api.Tree, k int) (api.Tree, api.Errno) {
	if e := Check(t); e != api.OK {
		return api.Tree{}, e
	}
	if e := checkLetters(k); e != api.OK {
		return api.Tree{}, e
	}
	return termOf(t, 0).auto(k)
}

// Letters returns how many letters an automaton has.
func Letters(a api.Tree) (int, api.Errno) {
	if e := tree.Check(a); e != api.OK {
		return 0, e
	}
	k := len(a.Nodes[a.Root].Kids)
	if k < 1 {
		return 0, api.ErrForm
	}
	for n := range graph.Reached(a.Nodes, a.Root) {
		if x := a.Nodes[n]; len(x.Kids) != k || x.Name != "yes" && x.Name != "no" {
			return 0, api.ErrForm
		}
	}
	return k, api.OK
}

// Run reports whether a word is accepted by an automaton.
func Run(a api.Tree, word string) (bool, api.Errno) {
	k, e := Letters(a)
	if e != api.OK {
		return false, e
	}
	if e := checkWord(word, k); e != api.OK {
		return false, e
	}
	node := a.Root
	for i := range len(word) {
		node = a.Nodes[node].Kids[word[i]-'a']
	}
	return automaton{a}.accepts(node), api.OK
}

// Of returns the automaton that accepts just some words.
func Of(words []string, k int) (api.Tree, api.Errno) {
	if e := checkLetters(k); e != api.OK {
		return api.Tree{}, e
	}
	long := func(w string) bool { return len(w) > MaxWord }
	switch {
	case len(words) > MaxList:
		return api.Tree{}, api.ErrMany
	case base.Some(words, long):
		return api.Tree{}, api.ErrLong
	case base.Some(words, func(w string) bool { return checkWord(w, k) != api.OK }):
		return api.Tree{}, api.ErrForm
	}
	// Node 0 accepts nothing any more; node 1 is the beginning.
	none := func() api.Node { return api.Node{Name: "no", Kids: make([]int, k)} }
	nodes := []api.Node{none(), none()}
	for _, w := range words {
		at := 1
		for i := range len(w) {
			kids := nodes[at].Kids
			if c := int(w[i] - 'a'); kids[c] == 0 {
				kids[c] = len(nodes)
				nodes = append(nodes, none())
			}
			at = kids[w[i]-'a']
		}
		nodes[at].Name = "yes"
	}
	return graph.Least(api.Tree{Nodes: nodes, Root: 1})
}

// autos returns the automata of two expressions.
func autos(t, u api.Tree, k int) (a, b api.Tree, e api.Errno) {
	if e := Check(t); e != api.OK {
		return a, b, e
	}
	if e := Check(u); e != api.OK {
		return a, b, e
	}
	a, e = Auto(t, k)
	if e != api.OK {
		return a, b, e
	}
	b, e = Auto(u, k)
	return a, b, e
}

// Same reports whether two expressions have the same words.
func Same(t, u api.Tree, k int) (bool, api.Errno) {
	a, b, e := autos(t, u, k)
	if e != api.OK {
		return false, e
	}
	return graph.Same(a, b), api.OK
}

// Apart returns the first word that just one of two expressions has.
func Apart(t, u api.Tree, k int) (string, api.Errno) {
	a, b, e := autos(t, u, k)
	if e != api.OK {
		return "", e
	}
	path, e := alike.Apart(a, b)
	if e != api.OK {
		return "", e
	}
	word := make([]byte, len(path))
	for i, n := range path {
		word[i] = 'a' + byte(n)
	}
	return string(word), api.OK
}

// words yields the words of a length that are accepted, in order.
func (a automaton) words(length int, can [][]bool) func(yield func(string) bool) {
	return func(yield func(string) bool) {
		word := make([]byte, 0, length)
		var visit func(node int) bool
		visit = func(node int) bool {
			left := length - len(word)
			if !can[left][node] {
				return true
			}
			if left == 0 {
				return yield(string(word))
			}
			for letter, k := range a.Nodes[node].Kids {
				word = append(word, 'a'+byte(letter))
				on := visit(k)
				word = word[:len(word)-1]
				if !on {
					return false
				}
			}
			return true
		}
		visit(a.Root)
	}
}

// further returns from which nodes words of a length that are accepted lead on, by those of one letter less.
func (a automaton) further(can []bool) []bool {
	l := make([]bool, len(a.Nodes))
	for i, n := range a.Nodes {
		l[i] = base.Some(n.Kids, func(k int) bool { return can[k] })
	}
	return l
}

// only returns the automaton of the nodes that are reached.
func only(a api.Tree) automaton {
	nodes, _ := graph.Only(a.Nodes, a.Root)
	return automaton{api.Tree{Nodes: nodes}}
}

// now returns which nodes are accepted.
func (a automaton) now() []bool {
	l := make([]bool, len(a.Nodes))
	for i := range l {
		l[i] = a.accepts(i)
	}
	return l
}

// Words returns the first words that are accepted.
func Words(a api.Tree, n int) ([]string, api.Errno) {
	if _, e := Letters(a); e != api.OK {
		return nil, e
	}
	if n < 0 || n > 20 {
		return nil, api.ErrRange
	}
	m := only(a)
	can := [][]bool{m.now()}
	var l []string
	// If there is no word of as many lengths as there are nodes, one after the other, there is no longer one.
	for length, without := 0, 0; len(l) < n && without <= len(m.Nodes); length++ {
		without++
		for w := range m.words(length, can) {
			without = 0
			l = append(l, w)
			if len(l) == n {
				break
			}
		}
		can = append(can, m.further(can[length]))
	}
	return l, api.OK
}

// Count returns how many words of a length are accepted.
func Count(a api.Tree, n int) (int, api.Errno) {
	if _, e := Letters(a); e != api.OK {
		return 0, e
	}
	if n < 0 || n > 30 {
		return 0, api.ErrRange
	}
	m := only(a)
	many := make([]int, len(m.Nodes))
	for i, is := range m.now() {
		if is {
			many[i] = 1
		}
	}
	for range n {
		next := make([]int, len(many))
		for i, x := range m.Nodes {
			for _, k := range x.Kids {
				next[i] += many[k]
			}
		}
		many = next
	}
	return many[0], api.OK
}

// Finite reports whether just finitely many words are accepted.
func Finite(a api.Tree) (bool, api.Errno) {
	if _, e := Letters(a); e != api.OK {
		return false, e
	}
	// There are infinitely many words just if there is one that has as many letters as there are nodes, and less than twice as many.
	m := only(a)
	can := m.now()
	for length := range 2 * len(m.Nodes) {
		if length >= len(m.Nodes) && can[0] {
			return false, api.OK
		}
		can = m.further(can)
	}
	return true, api.OK
}

// Beat returns the stream of the lengths of the words that are accepted by an automaton of one letter.
func Beat(a api.Tree) (api.Lasso, api.Errno) {
	k, e := Letters(a)
	if e != api.OK {
		return api.Lasso{}, e
	}
	if k != 1 {
		return api.Lasso{}, api.ErrRange
	}
	// The nodes of a trimmed automaton of one letter come one after the other, and then go round.
	m := only(a)
	var values []int
	for i := range m.Nodes {
		v := 0
		if m.accepts(i) {
			v = 1
		}
		values = append(values, v)
	}
	stem := m.Nodes[len(m.Nodes)-1].Kids[0]
	return lasso.Least(api.Lasso{Mod: 2, Stem: values[:stem], Round: values[stem:]})
}
