package tests

import (
	"slices"
	"testing"

	"loop.example/g00682/impl"
)

// unitRows are the clauses of one unit each.
func unitRows(units []lit) [][]lit {
	var rows [][]lit
	for _, u := range units {
		rows = append(rows, []lit{u})
	}
	return rows
}

// checkForm reports a normal form, or the result of one step, that is greater than the term, that has a further step, or that
// differs from the term in a model of the units.
func (x *truths) checkForm(t *testing.T, tr *tree, units []lit) {
	t.Helper()
	forms := map[string][]int{}
	step, _, _, more := impl.StepTerm(x.s, tr.list(), madeOf(units))
	if more {
		forms["StepTerm"] = step
	}
	form, n, ok := impl.NormalTerm(x.s, tr.list(), madeOf(units))
	forms["NormalTerm"] = form
	if !ok || more != (n > 0) {
		t.Fatalf("NormalTerm(%v, %s, %s): %v, %d, %v, but a step is possible: %v", x.s, tr.text(), textOfLits(units), form, n, ok, more)
	}
	for name, got := range forms {
		y := goodTree(x.s, got)
		if y == nil || above(y, tr) || above(tr, y) != more {
			t.Fatalf("%s(%v, %s, %s): %v", name, x.s, tr.text(), textOfLits(units), got)
		}
		x.check(t, name, tr.text(), impl.InDone, madeOf([]lit{{true, tr, y}}), unitRows(units)...)
	}
	if _, _, _, more := impl.StepTerm(x.s, form, madeOf(units)); more {
		t.Fatalf("NormalTerm(%v, %s, %s) has a step: %v", x.s, tr.text(), textOfLits(units), form)
	}
	if is, ok := impl.IsNormal(x.s, form, madeOf(units)); !is || !ok {
		t.Fatalf("NormalTerm(%v, %s, %s) is not normal: %v", x.s, tr.text(), textOfLits(units), form)
	}
	if is, ok := impl.IsNormal(x.s, tr.list(), madeOf(units)); is == more || !ok {
		t.Fatalf("IsNormal(%v, %s, %s): %v, %v", x.s, tr.text(), textOfLits(units), is, ok)
	}
	if again, n, ok := impl.NormalTerm(x.s, form, madeOf(units)); !slices.Equal(again, form) || n != 0 || !ok {
		t.Fatalf("NormalTerm(%v, %v, %s), which is normal: %v, %d, %v", x.s, form, textOfLits(units), again, n, ok)
	}
}

// sharesVars reports whether each variable of the unit occurs on both sides.
func sharesVars(u lit) bool { return slices.Equal(u.l.vars(), u.r.vars()) }

// checkClause reports a clause that does not hold in the same models of the units as before, or whose terms have a step. Such
// a step may be due to the new number of a variable, if a side of a unit has a variable that the other one has not.
func (x *truths) checkClause(t *testing.T, row, units []lit) {
	t.Helper()
	got, _, ok := impl.NormalClause(x.s, madeOf(row), madeOf(units))
	after, good := goodLits(x.s, got)
	if !ok || !good {
		t.Fatalf("NormalClause(%v, %s, %s): %v, %v", x.s, textOfLits(row), textOfLits(units), got, ok)
	}
	rows := unitRows(units)
	x.check(t, "NormalClause", textOfLits(units), impl.InDone, got, append([][]lit{row}, rows...)...)
	x.check(t, "back", textOfLits(units), impl.InDone, madeOf(row), append([][]lit{after}, rows...)...)
	for _, l := range listsIn(got) {
		if slices.ContainsFunc(units, func(u lit) bool { return !sharesVars(u) }) {
			break
		}
		x.seen["normal"]++
		if is, ok := impl.IsNormal(x.s, l, madeOf(units)); !is || !ok {
			t.Fatalf("NormalClause(%v, %s, %s): %v is not normal", x.s, textOfLits(row), textOfLits(units), l)
		}
	}
	if is, ok := impl.SameClause(x.s, got, madeOf(tidyLits(row))); len(units) == 0 && !is || !ok {
		t.Fatalf("NormalClause(%v, %s) without units: %v", x.s, textOfLits(row), got)
	}
}

// checkSubsumed reports a clause that does not hold in all models of one that subsumes it.
func (x *truths) checkSubsumed(t *testing.T, c, d []lit) {
	t.Helper()
	if _, ok := impl.Subsumes(x.s, madeOf(c), madeOf(d)); ok {
		x.check(t, "Subsumes", "", impl.InDone, madeOf(d), c)
	}
	if is, _ := impl.SameClause(x.s, madeOf(c), madeOf(d)); is {
		x.check(t, "SameClause", "", impl.InDone, madeOf(d), c)
		x.check(t, "SameClause", "", impl.InDone, madeOf(c), d)
	}
}

// informed expects that many informative conclusions of each kind.
func (x *truths) informed(t *testing.T, many int, names ...string) {
	t.Helper()
	for _, name := range names {
		if x.seen[name+", done"] < many {
			t.Errorf("too few cases of %s: %v", name, x.seen)
		}
	}
}

// TestPromise7Small: all small terms, with each small unit and with pairs of them, over all worlds of at most 3 elements.
func TestPromise7Small(t *testing.T) {
	x := truthsOf(impl.Sign{Arity: []int{0, 0, 1}}, 3)
	var units []lit
	sides := smallTrees(x.s, []int{0, 1}, 3)
	for _, l := range sides {
		for _, r := range sides {
			units = append(units, lit{true, l, r})
		}
	}
	d := &dice{state: 77}
	for _, tr := range smallTrees(x.s, []int{0, 1}, 4) {
		for _, u := range units {
			x.checkForm(t, tr, []lit{u})
			x.checkForm(t, tr, []lit{u, units[d.below(len(units))]})
		}
	}
	x.informed(t, 200, "StepTerm", "NormalTerm")
}

// TestPromise7SmallClauses: small clauses with one or two small units.
func TestPromise7SmallClauses(t *testing.T) {
	x := truthsOf(impl.Sign{Arity: []int{0, 0, 1}}, 3)
	all := smallClauses(x.s)
	var units []lit
	for _, row := range all {
		if len(row) == 1 && row[0].pos {
			units = append(units, row[0])
		}
	}
	d := &dice{state: 78}
	for range 15000 {
		row := all[d.below(len(all))]
		x.checkClause(t, row, []lit{units[d.below(len(units))], units[d.below(len(units))]}[:1+d.below(2)])
	}
	x.informed(t, 1000, "NormalClause", "back")
}

// TestPromise7SmallPairs: a subsumed clause holds wherever the subsuming one does.
func TestPromise7SmallPairs(t *testing.T) {
	x := truthsOf(impl.Sign{Arity: []int{0, 0, 1}}, 3)
	all := smallClauses(x.s)
	d := &dice{state: 79}
	for range 30000 {
		c, e := all[d.below(len(all))], all[d.below(len(all))]
		if d.below(2) == 0 {
			c = threeVars(d.covered(x.s, e, 1+d.below(2)))
		}
		x.checkSubsumed(t, c, e)
		x.checkSubsumed(t, e, someVars(e, d.order(3)))
	}
	x.informed(t, 500, "Subsumes", "SameClause")
}

// TestPromise7Large: larger terms and clauses, and several units.
func TestPromise7Large(t *testing.T) {
	d := &dice{state: 80}
	total := &truths{seen: map[string]int{}}
	for _, x := range soundSigns() {
		for range 200 {
			tr := d.large(x.s)
			row := threeVars(append(d.lits(x.s, 3, 6), lit{d.below(2) == 0, tr, d.changed(x.s, tr)}))
			units := threeVars(d.units(x.s, row[len(row)-1].l, 1+d.below(3)))
			x.checkForm(t, row[len(row)-1].l, units)
			x.checkClause(t, row, units)
			x.checkClause(t, row, nil)
			x.checkSubsumed(t, threeVars(d.covered(x.s, row, 1+d.below(4))), row)
			x.checkSubsumed(t, row, someVars(row, d.order(3)))
			clear(x.known)
		}
		for kind, n := range x.seen {
			total.seen[kind] += n
		}
	}
	total.informed(t, 100, "StepTerm", "NormalTerm", "NormalClause", "back", "Subsumes", "SameClause")
	if total.seen["normal"] < 1000 {
		t.Error("too few terms in normal form", total.seen)
	}
}
