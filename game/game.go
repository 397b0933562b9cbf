// Package game decides games that may go on for ever, and finds rounds in graphs: types and relations are asked by it.
package game

// Position is where a player moves: the first one, if Mine. Who cannot move has lost; if a game goes on for ever, the first player wins if the greatest Rank that comes again and again is odd.
type Position struct {
	Mine bool
	Rank int
	Next []int
}

// solver has a game in which everybody can always move: what it is made of, who wins where, and by which move.
type solver struct {
	at   []Position
	from [][]int
	win  []bool
	pick []int
}

// Solve returns for each position whether the first player wins there, and, where the one who moves wins, the index of a move in Next that wins; otherwise -1.
func Solve(positions []Position) (win []bool, pick []int) {
	many := len(positions)
	s := &solver{at: make([]Position, many+2), from: make([][]int, many+2), win: make([]bool, many+2), pick: make([]int, many+2)}
	copy(s.at, positions)
	// Two positions at the end are where it is lost, and where it is won.
	s.at[many] = Position{Rank: 0, Next: []int{many}}
	s.at[many+1] = Position{Rank: 1, Next: []int{many + 1}}
	for i, p := range s.at {
		if len(p.Next) == 0 && p.Mine {
			s.at[i].Next = []int{many}
		} else if len(p.Next) == 0 {
			s.at[i].Next = []int{many + 1}
		}
		for _, k := range s.at[i].Next {
			s.from[k] = append(s.from[k], i)
		}
	}
	all := make([]bool, many+2)
	for i := range all {
		all[i] = true
	}
	s.solve(all)
	for i, p := range positions {
		if p.Mine != s.win[i] || len(p.Next) == 0 {
			s.pick[i] = -1
		}
	}
	return s.win[:many], s.pick[:many]
}

// attract returns the positions of a set from which a player can lead the game to a goal, and notes how.
func (s *solver) attract(set []bool, goal []int, mine bool) []bool {
	drawn := make([]bool, len(set))
	left := make([]int, len(set))
	for i, is := range set {
		for _, k := range s.at[i].Next {
			if is && set[k] {
				left[i]++
			}
		}
	}
	for _, g := range goal {
		drawn[g] = true
	}
	for work := append([]int(nil), goal...); len(work) > 0; work = work[1:] {
		for _, i := range s.from[work[0]] {
			left[i]--
			if !set[i] || drawn[i] || s.at[i].Mine != mine && left[i] > 0 {
				continue
			}
			drawn[i] = true
			s.choose(i, func(k int) bool { return k == work[0] })
			work = append(work, i)
		}
	}
	return drawn
}

// choose notes the first move to a position that is right.
func (s *solver) choose(at int, right func(int) bool) {
	for i, k := range s.at[at].Next {
		if right(k) {
			s.pick[at] = i
			return
		}
	}
}

// greatest returns the greatest rank in a set, and the positions that have it.
func (s *solver) greatest(set []bool) (int, []int) {
	rank := -1
	var l []int
	for i, is := range set {
		if is && s.at[i].Rank > rank {
			rank, l = s.at[i].Rank, nil
		}
		if is && s.at[i].Rank == rank {
			l = append(l, i)
		}
	}
	return rank, l
}

// without returns a set without another one.
func without(set, other []bool) []bool {
	l := make([]bool, len(set))
	for i, is := range set {
		l[i] = is && !other[i]
	}
	return l
}

// members returns the positions of a set at which a player wins.
func (s *solver) members(set []bool, mine bool) []int {
	var l []int
	for i, is := range set {
		if is && s.win[i] == mine {
			l = append(l, i)
		}
	}
	return l
}

// solve tells who wins in a set which nobody has to leave.
func (s *solver) solve(set []bool) {
	for {
		rank, top := s.greatest(set)
		if rank < 0 {
			return
		}
		mine := rank%2 == 1
		rest := without(set, s.attract(set, top, mine))
		s.solve(rest)
		lost := s.members(rest, !mine)
		if len(lost) == 0 {
			for i, is := range set {
				if is {
					s.win[i] = mine
				}
			}
			for _, i := range top {
				s.choose(i, func(k int) bool { return set[k] })
			}
			return
		}
		// What the other one wins without the greatest rank is won for good; the rest is asked again.
		drawn := s.attract(set, lost, !mine)
		for i, is := range drawn {
			if is {
				s.win[i] = !mine
			}
		}
		set = without(set, drawn)
	}
}

// Way returns the shortest way of at least one step from a place to another one, by places that may be gone to: for each step, which of the next places it goes to.
func Way(next [][]int, from, to int, may func(int) bool) ([]int, bool) {
	type met struct{ at, above, kid int }
	seen := make([]bool, len(next))
	for l, i := []met{{from, -1, 0}}, 0; i < len(l); i++ {
		for kid, k := range next[l[i].at] {
			if k == to && may(k) {
				way := []int{kid}
				for j := i; j > 0; j = l[j].above {
					way = append([]int{l[j].kid}, way...)
				}
				return way, true
			}
			if !seen[k] && may(k) {
				seen[k] = true
				l = append(l, met{k, i, kid})
			}
		}
	}
	return nil, false
}

// Round returns a place and a way from it back to it by places whose rank is not greater than that of this place, of which a rank is asked for, if there is one. Ranks less than 0 are of places that must not be gone to.
func Round(next [][]int, rank []int, asked func(rank int) bool) (at int, way []int, is bool) {
	for at, r := range rank {
		if r < 0 || !asked(r) {
			continue
		}
		may := func(k int) bool { return rank[k] >= 0 && rank[k] <= r }
		if way, is := Way(next, at, at, may); is {
			return at, way, true
		}
	}
	return 0, nil, false
}
