package kit

import (
	"roundelay/api"
	"roundelay/script"
	"roundelay/text"
)

// X is the tree of a text.
func X(s string) api.Tree {
	t, _, e := text.Parse(s)
	if e != api.OK {
		panic(s)
	}
	return t
}

// Xs is the trees of texts.
func Xs(l ...string) []api.Tree {
	var trees []api.Tree
	for _, s := range l {
		trees = append(trees, X(s))
	}
	return trees
}

// S is the text of the least graph of a tree.
func S(t api.Tree) string {
	s, _ := text.Plain(t)
	return s
}

// P is the program of a script.
func P(s string) api.Prog {
	p, _, e := script.Parse(s)
	if e != api.OK {
		panic(s)
	}
	return p
}

// E is the expression of a text.
func E(s string) api.Expr {
	x, _, e := script.Read(s)
	if e != api.OK {
		panic(s)
	}
	return x
}

// expr returns an expression with some variables, and calls of f, g, h and k.
func (d *Dice) expr(vars []string, deep int) string {
	sub := func() string { return d.expr(vars, deep-1) }
	switch n := d.Roll(10); {
	case deep == 0 || n < 3:
		if len(vars) > 0 && d.Roll(4) > 0 {
			return vars[d.Roll(len(vars))]
		}
		return []string{"a()", "b()", "k[]", "k[]"}[d.Roll(4)]
	case n < 5:
		return "s(" + sub() + ")"
	case n < 6:
		return "p(" + sub() + ", " + sub() + ")"
	case n < 8:
		return "f[" + sub() + "]"
	case n < 9:
		return "g[" + sub() + ", " + sub() + "]"
	}
	return "h[" + sub() + "]"
}

// Prog returns a program with f[x], g[x, y], h[x] by cases, and k[].
func (d *Dice) Prog() api.Prog {
	var s string
	s = "f[x] = " + d.expr([]string{"x"}, 2) + ".\n"
	s += "g[x, y] of s(z): " + d.expr([]string{"x", "y", "z"}, 2) + "; p(u, v): " + d.expr([]string{"y", "u", "v"}, 2) + "; a(): " + d.expr([]string{"y"}, 1) + "; b(): " + d.expr([]string{"y"}, 1) + ".\n"
	s += "h[x] of s(z): " + d.expr([]string{"z", "x"}, 2) + "; p(u, v): " + d.expr([]string{"u", "v"}, 2) + "; a(): " + d.expr(nil, 1) + ".\n"
	s += "k[] = " + d.expr(nil, 2) + ".\n"
	return P(s)
}

// Print is the script of a program.
func Print(p api.Prog) string {
	s, _ := script.Print(p)
	return s
}
