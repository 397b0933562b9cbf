package base

import (
	"slices"

	"roundelay/api"
	"roundelay/graph"
)

// CopyType returns a type that shares no memory with it.
func CopyType(ty api.Type) api.Type {
	c := api.Type{Sorts: slices.Clone(ty.Sorts), Start: ty.Start}
	for i, s := range ty.Sorts {
		c.Sorts[i].Alts = slices.Clone(s.Alts)
		for j, a := range s.Alts {
			c.Sorts[i].Alts[j].Kids = slices.Clone(a.Kids)
		}
	}
	return c
}

// CopyRules returns rules that share no memory with them.
func CopyRules(r api.Rules) api.Rules {
	c := api.Rules{Rels: slices.Clone(r.Rels), Clauses: slices.Clone(r.Clauses)}
	for i, x := range r.Clauses {
		c.Clauses[i].Head = slices.Clone(x.Head)
		for j, p := range x.Head {
			c.Clauses[i].Head[j].Vars = slices.Clone(p.Vars)
		}
		c.Clauses[i].Body = slices.Clone(x.Body)
		for j, a := range x.Body {
			c.Clauses[i].Body[j].Args = slices.Clone(a.Args)
		}
	}
	return c
}

// CopyGoal returns a goal that shares no memory with it.
func CopyGoal(g api.Goal) api.Goal {
	return api.Goal{Rel: g.Rel, Args: graph.Copies(g.Args)}
}

// LeastGoal returns a right goal with least graphs.
func LeastGoal(g api.Goal) api.Goal {
	l := api.Goal{Rel: g.Rel}
	for _, t := range g.Args {
		u, _ := graph.Least(t)
		l.Args = append(l.Args, u)
	}
	return l
}

// CopyExpr returns an expression that shares no memory with it.
func CopyExpr(x api.Expr) api.Expr {
	x.Args = slices.Clone(x.Args)
	for i, a := range x.Args {
		x.Args[i] = CopyExpr(a)
	}
	return x
}

// CopyProg returns a program that shares no memory with it.
func CopyProg(p api.Prog) api.Prog {
	c := api.Prog{Defs: slices.Clone(p.Defs)}
	for i, d := range p.Defs {
		c.Defs[i].Params = slices.Clone(d.Params)
		c.Defs[i].Body = CopyExpr(d.Body)
		c.Defs[i].Cases = slices.Clone(d.Cases)
		for j, k := range d.Cases {
			c.Defs[i].Cases[j].Vars = slices.Clone(k.Vars)
			c.Defs[i].Cases[j].Body = CopyExpr(k.Body)
		}
	}
	return c
}

// CopyBlock returns a block that shares no memory with it.
func CopyBlock(b api.Block) api.Block {
	b.Branches = slices.Clone(b.Branches)
	for i, br := range b.Branches {
		ops := slices.Clone(br.Ops)
		for j, op := range ops {
			ops[j].Args = slices.Clone(op.Args)
		}
		b.Branches[i].Ops = ops
	}
	return b
}

// CopyCore returns a core that shares no memory with it.
func CopyCore(c api.Core) api.Core {
	d := api.Core{Blocks: slices.Clone(c.Blocks)}
	for i, b := range d.Blocks {
		d.Blocks[i] = CopyBlock(b)
	}
	return d
}

// CopyFrame returns a frame that shares no memory with it.
func CopyFrame(f api.Frame) api.Frame {
	f.Slots = slices.Clone(f.Slots)
	return f
}

// CopyState returns a state that shares no memory with it.
func CopyState(s api.State) api.State {
	s.Cells = graph.Moved(s.Cells, 0)
	s.Calls = slices.Clone(s.Calls)
	for i, x := range s.Calls {
		s.Calls[i].Args = graph.Copies(x.Args)
	}
	s.Frames = slices.Clone(s.Frames)
	for i, f := range s.Frames {
		s.Frames[i] = CopyFrame(f)
	}
	return s
}

// CopyTrace returns a trace that shares no memory with it.
func CopyTrace(t api.Trace) api.Trace {
	c := api.Trace{Core: CopyCore(t.Core), Now: CopyState(t.Now), Past: slices.Clone(t.Past)}
	for i, d := range c.Past {
		c.Past[i].Frame = CopyFrame(d.Frame)
	}
	return c
}

// CopyDisk returns a disk that shares no memory with it.
func CopyDisk(d api.Disk) api.Disk {
	d.Sectors = slices.Clone(d.Sectors)
	for i, s := range d.Sectors {
		d.Sectors[i] = slices.Clone(s)
	}
	d.Writes = slices.Clone(d.Writes)
	for i, w := range d.Writes {
		d.Writes[i].Data = slices.Clone(w.Data)
	}
	return d
}
