package game_test

import (
	"testing"

	"roundelay/game"
	"roundelay/kit"
)

// wins plays a game in which only one player can choose: the moves of the other one are fixed.
func wins(l []game.Position, pick []int, mine bool) bool {
	next := make([][]int, len(l))
	rank := make([]int, len(l))
	for i, p := range l {
		next[i], rank[i] = p.Next, p.Rank
		if p.Mine == mine && len(p.Next) > 0 {
			next[i] = p.Next[pick[i] : pick[i]+1]
		}
	}
	seen := make([]bool, len(l))
	ok := true
	var visit func(i int)
	visit = func(i int) {
		if seen[i] {
			return
		}
		seen[i] = true
		if len(next[i]) == 0 && l[i].Mine == mine {
			ok = false
		}
		for _, k := range next[i] {
			visit(k)
		}
	}
	visit(0)
	for i := range rank {
		if !seen[i] {
			rank[i] = -1
		}
	}
	_, _, bad := game.Round(next, rank, func(r int) bool { return (r%2 == 1) != mine })
	return ok && !bad
}

// TestSolve asks all ways to choose moves of small games.
func TestSolve(t *testing.T) {
	var d kit.Dice
	for i := range 3000 {
		l := make([]game.Position, 1+d.Roll(6))
		for j := range l {
			l[j] = game.Position{Mine: d.Roll(2) == 0, Rank: d.Roll(4)}
			for range d.Roll(4) {
				l[j].Next = append(l[j].Next, d.Roll(len(l)))
			}
		}
		win, pick := game.Solve(l)
		pick2 := make([]int, len(l))
		for j := range pick2 {
			pick2[j] = max(pick[j], 0)
		}
		if !wins(l, pick2, win[0]) {
			t.Fatal(i, l, win, pick)
		}
	}
}

func TestWay(t *testing.T) {
	next := [][]int{{1, 2}, {0}, {3}, {3, 1}}
	all := func(int) bool { return true }
	if w, is := game.Way(next, 0, 1, func(k int) bool { return k != 1 }); is {
		t.Error(w)
	}
	if w, is := game.Way(next, 2, 0, all); !is || len(w) != 3 || w[0] != 0 || w[1] != 1 || w[2] != 0 {
		t.Error(w, is)
	}
	if w, is := game.Way(next, 3, 3, all); !is || len(w) != 1 {
		t.Error(w, is)
	}
}
