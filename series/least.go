package series

import (
	"slices"

	"roundelay/api"
	"roundelay/base"
	"roundelay/field"
)

// work is an automaton at work, which may have any number of states.
type work struct{ api.Weighted }

// times returns a row of states behind a letter.
func (w work) times(row []int, letter int) []int {
	l := make([]int, len(w.Start))
	for i, x := range row {
		if x != 0 {
			l = add(l, scaled(w.Steps[letter][i], x))
		}
	}
	return l
}

// back returns a column of states before a letter.
func (w work) back(column []int, letter int) []int {
	l := make([]int, len(w.Start))
	for i := range l {
		l[i] = dot(w.Steps[letter][i], column)
	}
	return l
}

// row returns the states behind a word.
func (w work) row(word string) []int {
	row := slices.Clone(w.Start)
	for i := range len(word) {
		row = w.times(row, int(word[i]-'a'))
	}
	return row
}

// weight returns the weight of a word.
func (w work) weight(word string) int { return dot(w.row(word), w.End) }

// dot returns the sum of the products of two lists, place by place.
func dot(a, b []int) int {
	sum := 0
	for i, x := range a {
		sum = (sum + x*b[i]) % field.P
	}
	return sum
}

// scaled returns a row multiplied by a residue.
func scaled(row []int, by int) []int {
	l := slices.Clone(row)
	for i := range l {
		l[i] = l[i] * by % field.P
	}
	return l
}

// add returns the sum of rows of one length.
func add(rows ...[]int) []int {
	l := slices.Clone(rows[0])
	for _, row := range rows[1:] {
		for i, x := range row {
			l[i] = (l[i] + x) % field.P
		}
	}
	return l
}

// pivot is a row that was chosen: its place among those that were, and the first place at which what is left of it is not 0.
type pivot struct{ number, place int }

// span is rows that were chosen: what is left of each by those before it, and what that is made of.
type span struct {
	pivots []pivot
	left   [][]int
	made   [][]int
}

// ask returns what a row is made of, by the rows that were chosen; if it is not, it is chosen.
func (s *span) ask(row []int) (made []int, isNew bool) {
	left := slices.Clone(row)
	made = make([]int, len(s.pivots)+1)
	// take takes a chosen row away so many times.
	take := func(i, times int) {
		left = add(left, scaled(s.left[i], field.P-times))
		for j, x := range s.made[i] {
			made[j] = (made[j] + x*times) % field.P
		}
	}
	// Each chosen row is 0 before its pivot, so that what was made 0 stays so.
	for place := range left {
		n := base.First(s.pivots, func(p pivot) bool { return p == pivot{p.number, place} })
		if n >= 0 && left[place] != 0 {
			take(n, left[place])
		}
	}
	place := base.First(left, func(x int) bool { return x != 0 })
	if place < 0 {
		return made[:len(s.pivots)], false
	}
	by, _ := field.Inv(left[place])
	own := scaled(made, field.P-1)
	own[len(s.pivots)] = 1
	s.pivots = append(s.pivots, pivot{len(s.pivots), place})
	s.left = append(s.left, scaled(left, by))
	s.made = append(s.made, scaled(own, by))
	return nil, true
}

// order is words in order, each of which begins with one that was kept.
type order struct {
	letters int
	kept    map[string]bool
}

// words yields the words; one whose beginning is not kept is passed over.
func (o order) words(yield func(string) bool) {
	for queue := []string{""}; len(queue) > 0; queue = queue[1:] {
		if !yield(queue[0]) {
			return
		}
		if !o.kept[queue[0]] {
			continue
		}
		for i := range o.letters {
			queue = append(queue, queue[0]+string([]byte{'a' + byte(i)}))
		}
	}
}

// columns returns columns by which all columns of words are made.
func (w work) columns() [][]int {
	s := &span{}
	var l [][]int
	for queue := [][]int{w.End}; len(queue) > 0; queue = queue[1:] {
		if _, isNew := s.ask(queue[0]); !isNew {
			continue
		}
		l = append(l, queue[0])
		for i := range w.Letters {
			queue = append(queue, w.back(queue[0], i))
		}
	}
	return l
}

// chosen returns the chosen words, and rows that ask what others are made of: ErrMany if there are more than MaxStates.
func (w work) chosen() (words []string, s *span, row func(word string) []int, e api.Errno) {
	columns := w.columns()
	states := map[string][]int{}
	row = func(word string) []int {
		at, is := states[word]
		if !is && word == "" {
			at = slices.Clone(w.Start)
		} else if !is {
			last := len(word) - 1
			at = w.times(states[word[:last]], int(word[last]-'a'))
		}
		states[word] = at
		l := make([]int, len(columns))
		for i, c := range columns {
			l[i] = dot(at, c)
		}
		return l
	}
	s = &span{}
	o := order{w.Letters, map[string]bool{}}
	for word := range o.words {
		if _, isNew := s.ask(row(word)); isNew {
			o.kept[word] = true
			words = append(words, word)
		}
		if len(words) > MaxStates {
			return nil, nil, nil, api.ErrMany
		}
	}
	return words, s, row, api.OK
}

// least returns the least automaton of a series: ErrMany.
func (w work) least() (api.Weighted, api.Errno) {
	words, s, row, e := w.chosen()
	if e != api.OK {
		return api.Weighted{}, e
	}
	l := api.Weighted{Letters: w.Letters, Start: make([]int, len(words)), End: make([]int, len(words)), Steps: make([][][]int, w.Letters)}
	weight := w.weight
	for i, word := range words {
		if word == "" {
			l.Start[i] = 1
		}
		l.End[i] = weight(word)
		for letter := range w.Letters {
			made, _ := s.ask(row(word + string([]byte{'a' + byte(letter)})))
			l.Steps[letter] = append(l.Steps[letter], made)
		}
	}
	return l, api.OK
}

// first returns the first word in order whose weight is not 0, if there is one.
func (w work) first() (string, bool) {
	s := &span{}
	o := order{w.Letters, map[string]bool{}}
	found, is := "", false
search:
	for word := range o.words {
		row := w.row(word)
		if dot(row, w.End) != 0 {
			found, is = word, true
			break search
		}
		// What begins with a word whose states are made of earlier ones has the weights that words before it have.
		if _, isNew := s.ask(row); isNew {
			o.kept[word] = true
		}
	}
	return found, is
}
