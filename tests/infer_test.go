package tests

import (
	"slices"

	"loop.example/g00682/impl"
)

// wayOf has the fields of a way in order; those that are left out are 0.
func wayOf(fields ...int) impl.Way {
	var l [5]int
	copy(l[:], fields)
	return impl.Way{I: l[0], Side: l[1], J: l[2], Other: l[3], At: l[4]}
}

// sideOf returns the side of a literal with that number, and the other one; nil if there is none.
func sideOf(row []lit, i, side int) (near, far *tree) {
	switch {
	case i < 0 || i >= len(row):
		return nil, nil
	case side == 0:
		return row[i].l, row[i].r
	case side == 1:
		return row[i].r, row[i].l
	}
	return nil, nil
}

// shiftedLits is the second implementation of ApartClauses.
func shiftedLits(c, d []lit) (out []lit, good bool) {
	by := 0
	for _, v := range varsOfLits(c) {
		by = max(by, v+1)
	}
	for _, x := range d {
		out = append(out, lit{x.pos, x.l.shifted(by), x.r.shifted(by)})
	}
	for _, v := range varsOfLits(out) {
		if v >= 12 {
			return nil, false
		}
	}
	return out, true
}

// solveShort also fails where the common instance is no valid term.
func (b binds) solveShort(x, y *tree) bool { return b.solve(x, y) && b.full(x).size() <= 40 }

func (b binds) fullLits(row []lit) []lit {
	var out []lit
	for _, x := range row {
		out = append(out, lit{x.pos, b.full(x.l), b.full(x.r)})
	}
	return out
}

func fitLits(row []lit) bool {
	tooLong := func(x lit) bool { return x.l.size() > 40 || x.r.size() > 40 }
	return len(row) <= 8 && !slices.ContainsFunc(row, tooLong)
}

func concludedLits(row []lit) []impl.Lit { return wantedRenameClause(madeOf(tidyLits(row))) }

// isFirst reports whether the side may be replaced by the other one, in a literal than which none is greater.
func isFirst(row []lit, i, side int) bool {
	near, far := sideOf(row, i, side)
	n := ordered(near, far)
	return (n == 1 || n == 2) && slices.Contains(maximalLits(row), i)
}

// superposedLits is the second implementation of Superpose.
func superposedLits(c, d []lit, w impl.Way) ([]impl.Lit, int) {
	l, r := sideOf(c, w.I, w.Side)
	u, _ := sideOf(d, w.J, w.Other)
	if l == nil || u == nil || !c[w.I].pos || w.At < 0 || w.At >= u.size() || u.nodes()[w.At].n < 0 {
		return nil, 1
	}
	e, good := shiftedLits(c, d)
	if !good {
		return nil, 2
	}
	u, v := sideOf(e, w.J, w.Other)
	part := u.nodes()[w.At]
	b := binds{}
	if !b.solveShort(l, part) {
		return nil, 3
	}
	var out []lit
	for i, x := range c {
		if i != w.I {
			out = append(out, b.fullLits([]lit{x})...)
		}
	}
	for j, x := range e {
		if j == w.J {
			x = lit{x.pos, u.replaced(part, r), v}
			if w.Other == 1 {
				x = x.swapped()
			}
		}
		out = append(out, b.fullLits([]lit{x})...)
	}
	c, e = b.fullLits(c), b.fullLits(e)
	switch {
	case !fitLits(c) || !fitLits(e) || !fitLits(out):
		return nil, 4
	case !isFirst(c, w.I, w.Side) || !isFirst(e, w.J, w.Other):
		return concludedLits(out), 5
	}
	return concludedLits(out), 0
}

// resolvedLits is the second implementation of Resolve.
func resolvedLits(c []lit, i int) ([]impl.Lit, int) {
	if i < 0 || i >= len(c) || c[i].pos {
		return nil, 1
	}
	b := binds{}
	if !b.solveShort(c[i].l, c[i].r) {
		return nil, 3
	}
	c = b.fullLits(c)
	if !fitLits(c) {
		return nil, 4
	}
	var out []lit
	for j, x := range c {
		if j != i {
			out = append(out, x)
		}
	}
	if !slices.Contains(maximalLits(c), i) {
		return concludedLits(out), 5
	}
	return concludedLits(out), 0
}

// factoredLits is the second implementation of Factor.
func factoredLits(c []lit, w impl.Way) ([]impl.Lit, int) {
	l, r := sideOf(c, w.I, w.Side)
	l2, r2 := sideOf(c, w.J, w.Other)
	if l == nil || l2 == nil || !c[w.I].pos || !c[w.J].pos || w.I == w.J || w.At != 0 {
		return nil, 1
	}
	b := binds{}
	if !b.solveShort(l, l2) {
		return nil, 3
	}
	var out []lit
	for j, x := range c {
		if j == w.I {
			x = lit{false, r, r2}
		}
		out = append(out, b.fullLits([]lit{x})...)
	}
	c = b.fullLits(c)
	switch {
	case !fitLits(c) || !fitLits(out):
		return nil, 4
	case !isFirst(c, w.I, w.Side):
		return concludedLits(out), 5
	}
	return concludedLits(out), 0
}

// eachWay visits, in order, the ways from a side of the first clause into one of the second one, at positions up to the last
// one. The numbers are also up to that much too small or too large.
func eachWay(c, d []lit, last, beyond int, visit func(w impl.Way)) {
	for i := -beyond; i < len(c)+beyond; i++ {
		for side := -beyond; side < 2+beyond; side++ {
			for j := -beyond; j < len(d)+beyond; j++ {
				for other := -beyond; other < 2+beyond; other++ {
					for at := -beyond; at <= last+beyond; at++ {
						visit(wayOf(i, side, j, other, at))
					}
				}
			}
		}
	}
}

// lastIn is the greatest position in a clause.
func lastIn(row []lit) int {
	n := 0
	for _, x := range row {
		n = max(n, x.l.size()-1, x.r.size()-1)
	}
	return n
}

// waysOfLits is the second implementation of WaysInto.
func waysOfLits(c, d []lit) []impl.Way {
	var ways []impl.Way
	eachWay(c, d, lastIn(d), 0, func(w impl.Way) {
		if _, code := superposedLits(c, d, w); code == 0 {
			ways = append(ways, w)
		}
	})
	return ways
}

// singleWaysOfLits is the second implementation of SingleWays.
func singleWaysOfLits(c []lit) ([]int, []impl.Way) {
	var at []int
	for i := range c {
		if _, code := resolvedLits(c, i); code == 0 {
			at = append(at, i)
		}
	}
	var ways []impl.Way
	eachWay(c, c, 0, 0, func(w impl.Way) {
		if _, code := factoredLits(c, w); code == 0 {
			ways = append(ways, w)
		}
	})
	return at, ways
}

// premise returns a clause of which at most one term is long. It has few variables, sometimes with a great number, which
// leaves none for a second clause.
func (d *dice) premise(s impl.Sign, many, most int) []lit {
	row := d.lits(s, many, most)
	if len(row) == 0 && d.below(4) > 0 {
		row = []lit{d.lit(s, most)}
	}
	if len(row) > 0 && d.below(2) == 0 {
		row[d.below(len(row))].l = d.comb(s, min(2*most, 30+d.below(11)))
	}
	if d.below(12) == 0 {
		return someVars(row, []int{0, 1, 11})
	}
	return someVars(row, d.order(1+d.below(6)))
}

// comb returns a term of about that length, most of whose arguments are variables.
func (d *dice) comb(s impl.Sign, long int) *tree {
	x := leaf(-1 - d.below(12))
	for range long {
		y := leaf(d.below(len(s.Arity)))
		for range s.Arity[y.n] {
			y.args = append(y.args, leaf(-1-d.below(12)))
		}
		if len(y.args) == 0 {
			continue
		}
		y.args[d.below(len(y.args))] = x
		if y.size() > long {
			return x
		}
		x = y
	}
	return x
}

// instance puts terms for variables, or variables for subterms.
func (d *dice) instance(s impl.Sign, x *tree) *tree {
	if d.below(3) == 0 {
		return d.changed(s, x)
	}
	values := make([][]*tree, 12)
	for v := range values {
		if d.below(2) == 0 {
			values[v] = []*tree{d.tree(s, 1+d.below(8))}
		}
	}
	return put(values, x)
}

// premises returns two clauses and a way from a side of the first one into a subterm of the second one that is often an
// instance of that side. The numbers of the way are those of literals and positions that exist, if there are any.
func (d *dice) premises(s impl.Sign, most int) (c, e []lit, w impl.Way) {
	c, e = d.premise(s, 3, most), d.premise(s, 3, most)
	if d.below(10) == 0 {
		c = d.premise(s, 8, most)
	}
	if len(c) == 0 || len(e) == 0 {
		return c, e, w
	}
	w = wayOf(d.below(len(c)), d.below(2), d.below(len(e)), d.below(2))
	c[w.I].pos = c[w.I].pos || d.below(8) > 0
	l, _ := sideOf(c, w.I, w.Side)
	u, v := sideOf(e, w.J, w.Other)
	w.At = d.below(u.size())
	for d.below(8) > 0 && u.nodes()[w.At].n < 0 {
		w.At = d.below(u.size())
	}
	x := lit{e[w.J].pos, u.replaced(u.nodes()[w.At], d.instance(s, l)), v}
	if w.Other == 1 {
		x = x.swapped()
	}
	if d.below(6) > 0 && fitLits([]lit{x}) {
		e[w.J] = x
	}
	return c, e, w
}

// single returns a clause and a way from a side of one equation into one of another equation, which is often an instance of
// it. The sides of an inequation are often instances of each other, too.
func (d *dice) single(s impl.Sign, most int) (c []lit, w impl.Way) {
	c = d.premise(s, 4, most)
	if len(c) < 2 {
		return c, w
	}
	order := d.order(len(c))
	w = wayOf(order[0], d.below(2), order[1], d.below(2))
	l, _ := sideOf(c, w.I, w.Side)
	x := lit{d.below(4) > 0, d.instance(s, l), d.tree(s, most)}
	if w.Other == 1 {
		x = x.swapped()
	}
	if fitLits([]lit{x}) {
		c[w.J] = x
	}
	c[w.I].pos = d.below(4) > 0
	for i, x := range c {
		if x.r = d.instance(s, x.l); !x.pos && d.below(3) > 0 && fitLits([]lit{x}) {
			c[i] = x
		}
	}
	return c, w
}
