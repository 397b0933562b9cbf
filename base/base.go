// Package base has what several layers need of lists and names.
package base

import (
	"strings"

	"roundelay/api"
)

// IsName reports whether a text is 1 to api.MaxName letters a to z.
func IsName(s string) bool {
	if len(s) < 1 || len(s) > api.MaxName {
		return false
	}
	right := true
letters:
	for _, c := range s {
		if c < 'a' || c > 'z' {
			right = false
			break letters
		}
	}
	return right
}

// Every reports whether all elements of a list have something.
func Every[T any](l []T, has func(T) bool) bool {
	for _, x := range l {
		if !has(x) {
			return false
		}
	}
	return true
}

// Some reports whether an element of a list has something.
func Some[T any](l []T, has func(T) bool) bool {
	for _, x := range l {
		if has(x) {
			return true
		}
	}
	return false
}

// First returns the first index of a list whose element has something, or -1.
func First[T any](l []T, has func(T) bool) int {
	for i, x := range l {
		if has(x) {
			return i
		}
	}
	return -1
}

// Is returns a function that reports whether something is the same.
func Is[T comparable](x T) func(T) bool {
	return func(y T) bool { return x == y }
}

// Within reports whether a number is one of a list of so many elements.
func Within(many int) func(int) bool {
	return func(n int) bool { return n >= 0 && n < many }
}

// Blank reports whether a byte is layout by itself.
func Blank(b byte) bool { return b == ' ' || b == '\n' }

// Layout returns the index behind the layout at an index of a text: blanks, line feeds, and comments.
func Layout(s string, at int) int {
	for at < len(s) {
		if Blank(s[at]) {
			at++
			continue
		}
		if s[at] != '#' {
			break
		}
		if end := strings.IndexByte(s[at:], '\n'); end >= 0 {
			at += end
		} else {
			at = len(s)
		}
	}
	return at
}

// Bodies returns the expressions of a definition: its Body, or those of its cases.
func Bodies(d api.Def) []api.Expr {
	if len(d.Cases) == 0 {
		return []api.Expr{d.Body}
	}
	var l []api.Expr
	for _, c := range d.Cases {
		l = append(l, c.Body)
	}
	return l
}

// Number returns the number that a word is: 0, or 1 to 4 digits without 0 at the beginning.
func Number(s string) (int, bool) {
	if len(s) < 1 || len(s) > 4 || s[0] == '0' && len(s) > 1 {
		return 0, false
	}
	n := 0
	for i := range len(s) {
		if s[i] < '0' || s[i] > '9' {
			return 0, false
		}
		n = n*10 + int(s[i]-'0')
	}
	return n, true
}

// Has reports whether a map has a key.
func Has[K comparable, V any](m map[K]V, k K) bool {
	_, is := m[k]
	return is
}
