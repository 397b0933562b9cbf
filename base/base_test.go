package base_test

import (
	"testing"

	"roundelay/base"
)

func TestNames(t *testing.T) {
	for s, want := range map[string]bool{"a": true, "abcdefgh": true, "": false, "abcdefghi": false, "aB": false, "a1": false, "é": false} {
		if base.IsName(s) != want {
			t.Error(s)
		}
	}
}

func TestLayout(t *testing.T) {
	for s, want := range map[string]int{"": 0, "  \n#x(\n a": 8, "#": 1, "\t": 0, "#a\n#b": 5, "a ": 0} {
		if n := base.Layout(s, 0); n != want {
			t.Error(s, n)
		}
	}
}

func TestLists(t *testing.T) {
	odd := func(n int) bool { return n%2 == 1 }
	l := []int{2, 3, 5}
	if base.Every(l, odd) || !base.Every(l[1:], odd) || !base.Every(nil, odd) || !base.Some(l, odd) || base.Some(nil, odd) || base.First(l, odd) != 1 || base.First(l[:1], odd) != -1 || base.First(l, base.Is(5)) != 2 {
		t.Error("lists")
	}
	if in := base.Within(2); in(-1) || !in(0) || !in(1) || in(2) {
		t.Error("Within")
	}
}
