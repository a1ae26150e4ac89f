package tests

import (
	"slices"
	"testing"

	"loop.example/g00682/impl"
)

// matchedTrees is what matched returns, as trees.
func matchedTrees(s impl.Sign, p, t *tree) ([][]*tree, bool) {
	b := matched(p, t)
	if b == nil {
		return nil, false
	}
	return goodTrees(s, b)
}

// smaller reports whether y has no variables that do not occur in x, and x is greater.
func smaller(x, y *tree) bool {
	for _, v := range y.vars() {
		if !slices.Contains(x.vars(), v) {
			return false
		}
	}
	return above(x, y)
}

// stepOf is the second implementation of StepTerm. Its result is nil if there is no step.
func stepOf(s impl.Sign, x *tree, units []lit) (y *tree, at, unit int) {
	nodes := x.nodes()
	for at := len(nodes) - 1; at >= 0; at-- {
		part := nodes[at]
		for k, l := range units {
			for _, l := range []lit{l, l.swapped()} {
				values, found := matchedTrees(s, l.l, part)
				if !found {
					continue
				}
				if by := put(values, l.r); smaller(part, by) {
					return x.replaced(part, by), at, k
				}
			}
		}
	}
	return nil, 0, 0
}

// normalOf is the second implementation of NormalTerm: it repeats single steps.
func normalOf(s impl.Sign, x *tree, units []lit) (*tree, int) {
	for many := 0; ; many++ {
		y, _, _ := stepOf(s, x, units)
		if y == nil {
			return x, many
		}
		x = y
	}
}

// normalLits is the second implementation of NormalClause.
func normalLits(s impl.Sign, row, units []lit) ([]impl.Lit, int) {
	var out []lit
	steps := 0
	for _, x := range row {
		l, many := normalOf(s, x.l, units)
		r, more := normalOf(s, x.r, units)
		out = append(out, lit{x.pos, l, r})
		steps += many + more
	}
	return concludedLits(out), steps
}

// goodUnits holds the trees of at most 10 equations.
func goodUnits(s impl.Sign, l []impl.Lit) ([]lit, bool) {
	if len(l) > 10 || !goodSign(s) {
		return nil, false
	}
	var units []lit
	for _, x := range l {
		row, good := goodLits(s, []impl.Lit{x})
		if !good || !x.Pos {
			return nil, false
		}
		units = append(units, row[0])
	}
	return units, true
}

// joined is one term that holds all terms of some literals, so that they are matched at once. Its symbol is in no signature.
func joined(row []lit) *tree {
	x := leaf(100)
	for _, l := range row {
		x.args = append(x.args, l.l, l.r)
	}
	return x
}

// subsumedBy is the second implementation of Subsumes: it tries all choices of a literal of d, as it is or with its sides
// exchanged, for each literal of c. The first choice changes last. Its result is nil if there is no match.
func subsumedBy(c, d []lit) [][]int {
	if len(c) < 1 || len(c) > 4 || len(c) > len(d) {
		return nil
	}
	var sides []lit
	for _, x := range d {
		sides = append(sides, x, x.swapped())
	}
	choice := make([]int, len(c))
	for more := true; more; more = countUp(choice, len(sides)) {
		var chosen []lit
		for i := range c {
			chosen = append(chosen, sides[choice[len(c)-1-i]])
		}
		if !slices.EqualFunc(c, chosen, func(x, y lit) bool { return x.pos == y.pos }) {
			continue
		}
		if b := matched(joined(c), joined(chosen)); b != nil {
			return b
		}
	}
	return nil
}

// unit returns an equation of which one side is often an instance or a generalisation of a subterm of x.
func (d *dice) unit(s impl.Sign, x *tree) lit {
	nodes := x.nodes()
	l := nodes[d.below(len(nodes))]
	for range 3 {
		if y := nodes[d.below(len(nodes))]; len(l.args) == 0 {
			l = y
		}
	}
	switch d.below(4) {
	case 0:
		l = d.changed(s, l)
	case 1, 2:
		l = d.general(l)
	}
	parts := l.nodes()
	r := parts[d.below(len(parts))]
	switch d.below(6) {
	case 0:
		r = d.exchanged(l)
	case 1:
		r = d.tree(s, l.size())
	case 2:
		r = d.changed(s, l)
	case 3:
		r = leaf(d.below(len(s.Arity)))
		for range s.Arity[r.n] {
			r.args = append(r.args, parts[d.below(len(parts))])
		}
	}
	u := lit{true, l, r}
	if d.below(2) == 0 {
		u = u.swapped()
	}
	if !fitLits([]lit{u}) {
		return lit{true, leaf(-1), leaf(0)}
	}
	return u
}

// general puts variables for some arguments.
func (d *dice) general(x *tree) *tree {
	y := leaf(x.n)
	for _, a := range x.args {
		switch d.below(3) {
		case 0:
			y.args = append(y.args, leaf(-1-d.below(12)))
		default:
			y.args = append(y.args, d.general(a))
		}
	}
	return y
}

func (d *dice) units(s impl.Sign, x *tree, many int) []lit {
	var units []lit
	for range many {
		units = append(units, d.unit(s, x))
	}
	return units
}

// covered returns a clause whose literals are related to those of d, so that it often subsumes d.
func (d *dice) covered(s impl.Sign, row []lit, many int) []lit {
	var c []lit
	names := d.order(12)[:1+d.below(12)]
	for range many {
		if len(row) == 0 || d.below(12) == 0 {
			c = append(c, d.lit(s, 4))
			continue
		}
		x := row[d.below(len(row))]
		if d.below(2) == 0 {
			x = x.swapped()
		}
		switch d.below(6) {
		case 0:
			x = lit{x.pos, d.general(x.l), x.r}
		case 1, 2:
			x = lit{x.pos, d.general(x.l), d.general(x.r)}
		case 3:
			x = lit{x.pos, leaf(-1 - d.below(12)), x.r}
		case 4:
			x = lit{x.pos, leaf(-1 - d.below(12)), leaf(-1 - d.below(12))}
		}
		if d.below(2) == 0 {
			x = someVars([]lit{x}, names)[0]
		}
		c = append(c, x)
	}
	return c
}

// checkStep compares StepTerm and IsNormal with the second implementation, and reports whether there is a step.
func checkStep(t *testing.T, s impl.Sign, x *tree, units []lit) bool {
	t.Helper()
	want, at, unit := stepOf(s, x, units)
	got, i, k, ok := impl.StepTerm(s, x.list(), madeOf(units))
	if want == nil && (got != nil || i != 0 || k != 0 || ok) || want != nil && (!slices.Equal(got, want.list()) || i != at || k != unit || !ok) {
		t.Fatalf("StepTerm(%v, %s, %s): %v, %d, %d, %v", s, x.text(), textOfLits(units), got, i, k, ok)
	}
	if is, ok := impl.IsNormal(s, x.list(), madeOf(units)); is != (want == nil) || !ok {
		t.Fatalf("IsNormal(%v, %s, %s): %v, %v", s, x.text(), textOfLits(units), is, ok)
	}
	return want != nil
}

// checkNormal compares NormalTerm with the second implementation, and returns the number of steps.
func checkNormal(t *testing.T, s impl.Sign, x *tree, units []lit) int {
	t.Helper()
	want, steps := normalOf(s, x, units)
	got, many, ok := impl.NormalTerm(s, x.list(), madeOf(units))
	if !slices.Equal(got, want.list()) || many != steps || !ok {
		t.Fatalf("NormalTerm(%v, %s, %s): %v, %d, %v", s, x.text(), textOfLits(units), got, many, ok)
	}
	return steps
}
