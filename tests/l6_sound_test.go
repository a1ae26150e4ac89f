package tests

import (
	"slices"
	"testing"

	"loop.example/g00682/impl"
)

// truths remembers in which of the models of a signature a clause holds.
type truths struct {
	s     impl.Sign
	all   []model
	known map[string][]bool
	seen  map[string]int
}

func truthsOf(s impl.Sign, most int) *truths {
	x := &truths{s: s, known: map[string][]bool{}, seen: map[string]int{}}
	for size := 1; size <= most; size++ {
		x.all = append(x.all, modelsOf(s, size)...)
	}
	return x
}

func (m model) holdsAlways(row []lit) bool {
	vars := varsOfLits(row)
	digits, env := make([]int, len(vars)), make([]int, 12)
	for more := true; more; more = countUp(digits, m.size) {
		for i, v := range vars {
			env[v] = digits[i]
		}
		if !m.holdsAt(row, env) {
			return false
		}
	}
	return true
}

func (x *truths) of(row []lit) []bool {
	text := textOfLits(row)
	if x.known[text] == nil {
		holds := make([]bool, len(x.all))
		for i, m := range x.all {
			holds[i] = m.holdsAlways(row)
		}
		x.known[text] = holds
	}
	return x.known[text]
}

// check reports a conclusion that does not hold in some model in which all premises hold. It counts the conclusions from
// premises that have a model, but not only models, by whether they hold in all models.
func (x *truths) check(t *testing.T, what string, w any, code int, got []impl.Lit, premises ...[]lit) {
	t.Helper()
	if code != impl.InDone && code != impl.InOrder {
		if got != nil {
			t.Fatalf("%s of %s, %v: a conclusion with the code %d", what, textOfLits(premises[0]), w, code)
		}
		return
	}
	row, good := goodLits(x.s, got)
	if !good {
		t.Fatalf("%s of %s, %v: %v is not valid", what, textOfLits(premises[0]), w, got)
	}
	var given [][]bool
	for _, p := range premises {
		given = append(given, x.of(p))
	}
	holds, some, all := x.of(row), false, true
	for i, m := range x.all {
		if slices.ContainsFunc(given, func(known []bool) bool { return !known[i] }) {
			all = false
			continue
		}
		some = true
		if !holds[i] {
			t.Fatalf("%s of %s and %s, %v: %s does not hold with %d elements and the tables %v", what, textOfLits(premises[0]), textOfLits(premises[len(premises)-1]), w, textOfLits(row), m.size, m.tables)
		}
	}
	if !some || all {
		return
	}
	kind := what + ", done"
	if code == impl.InOrder {
		kind = what + ", in order"
	}
	if slices.Contains(holds, false) {
		x.seen[kind]++
	}
	if len(row) == 0 {
		t.Fatalf("%s of %s, %v: an empty conclusion from premises that have a model", what, textOfLits(premises[0]), w)
	}
}

// checkPairs checks all inferences from the first clause into the second one.
func (x *truths) checkPairs(t *testing.T, c, d []lit) {
	t.Helper()
	p, q := madeOf(c), madeOf(d)
	eachWay(c, d, lastIn(d), 0, func(w impl.Way) {
		got, code, ok := impl.Superpose(x.s, p, q, w)
		if !ok {
			t.Fatalf("Superpose(%v, %s, %s, %v) fails", x.s, textOfLits(c), textOfLits(d), w)
		}
		x.check(t, "Superpose", w, code, got, c, d)
	})
}

// checkSingles checks all inferences from one clause.
func (x *truths) checkSingles(t *testing.T, c []lit) {
	t.Helper()
	p := madeOf(c)
	for i := range c {
		got, code, ok := impl.Resolve(x.s, p, i)
		if !ok {
			t.Fatalf("Resolve(%v, %s, %d) fails", x.s, textOfLits(c), i)
		}
		x.check(t, "Resolve", i, code, got, c)
	}
	eachWay(c, c, 0, 0, func(w impl.Way) {
		got, code, ok := impl.Factor(x.s, p, w)
		if !ok {
			t.Fatalf("Factor(%v, %s, %v) fails", x.s, textOfLits(c), w)
		}
		x.check(t, "Factor", w, code, got, c)
	})
}

// enough expects that many informative conclusions of each kind.
func (x *truths) enough(t *testing.T, many int, names ...string) {
	t.Helper()
	for _, name := range names {
		for _, kind := range []string{name + ", done", name + ", in order"} {
			if x.seen[kind] < many {
				t.Errorf("too few cases of %s: %v", kind, x.seen)
			}
		}
	}
}

// TestPromise6Units: all inferences from one literal into another one, over all worlds of at most 3 elements.
func TestPromise6Units(t *testing.T) {
	x := truthsOf(impl.Sign{Arity: []int{0, 0, 1}}, 3)
	var units [][]lit
	for _, row := range smallClauses(x.s) {
		if len(row) == 1 {
			units = append(units, row)
		}
	}
	for _, c := range units {
		for _, d := range units {
			x.checkPairs(t, c, d)
		}
	}
	if len(x.all) != 1+16+243 {
		t.Error("not all worlds", len(x.all))
	}
	x.enough(t, 400, "Superpose")
}

// TestPromise6Singles: all inferences from one clause of two literals.
func TestPromise6Singles(t *testing.T) {
	x := truthsOf(impl.Sign{Arity: []int{0, 0, 1}}, 2)
	for _, row := range smallClauses(x.s) {
		x.checkSingles(t, row)
	}
	x.enough(t, 400, "Resolve", "Factor")
}

// TestPromise6Pairs: inferences from or into clauses of two literals. Only some of the clauses are taken, because there are
// too many pairs.
func TestPromise6Pairs(t *testing.T) {
	x := truthsOf(impl.Sign{Arity: []int{0, 1}}, 3)
	all := smallClauses(x.s)
	d := &dice{state: 63}
	for range 6000 {
		x.checkPairs(t, all[d.below(len(all))], all[d.below(len(all))])
	}
	x.enough(t, 1000, "Superpose")
}

// soundSigns are signatures with few enough worlds, and with the greatest size for that.
func soundSigns() []*truths {
	return []*truths{
		truthsOf(impl.Sign{Arity: []int{0, 0, 1}}, 3),
		truthsOf(impl.Sign{Arity: []int{0, 2}}, 2),
		truthsOf(impl.Sign{Arity: []int{0, 1, 1}}, 2),
		truthsOf(impl.Sign{Arity: []int{0, 0, 0}}, 3),
		truthsOf(impl.Sign{Arity: []int{0, 0, 0, 1, 1}}, 2),
		truthsOf(impl.Sign{Arity: []int{0, 0, 2}}, 2),
		truthsOf(impl.Sign{Arity: []int{0, 3}}, 2),
	}
}

// TestPromise6Large: clauses of several literals and larger terms.
func TestPromise6Large(t *testing.T) {
	d := &dice{state: 64}
	total := &truths{seen: map[string]int{}}
	for _, x := range soundSigns() {
		for range 120 {
			c, e, _ := d.premises(x.s, 5)
			c, e = threeVars(c), threeVars(e)
			if len(c) > 3 {
				c = c[:3]
			}
			x.checkPairs(t, c, e)
			x.checkPairs(t, e, e)
			single, _ := d.single(x.s, 5)
			x.checkSingles(t, threeVars(single))
			clear(x.known)
		}
		for kind, n := range x.seen {
			total.seen[kind] += n
		}
	}
	total.enough(t, 50, "Superpose", "Resolve", "Factor")
}

// TestPromise6Ways: the ways that WaysInto and SingleWays return yield conclusions that hold where the premises do.
func TestPromise6Ways(t *testing.T) {
	d := &dice{state: 65}
	x := truthsOf(impl.Sign{Arity: []int{0, 0, 1}}, 3)
	for range 300 {
		c, e, _ := d.premises(x.s, 4)
		c, e = threeVars(c), threeVars(e)
		ways, ok := impl.WaysInto(x.s, madeOf(c), madeOf(e))
		if !ok {
			t.Fatalf("WaysInto(%s, %s) fails", textOfLits(c), textOfLits(e))
		}
		for _, w := range ways {
			got, code, _ := impl.Superpose(x.s, madeOf(c), madeOf(e), w)
			if code != impl.InDone {
				t.Fatalf("Superpose(%s, %s, %v): %d", textOfLits(c), textOfLits(e), w, code)
			}
			x.check(t, "Superpose", w, code, got, c, e)
		}
		at, ways, ok := impl.SingleWays(x.s, madeOf(e))
		if !ok {
			t.Fatalf("SingleWays(%s) fails", textOfLits(e))
		}
		for _, i := range at {
			got, code, _ := impl.Resolve(x.s, madeOf(e), i)
			x.check(t, "Resolve", i, code, got, e)
		}
		for _, w := range ways {
			got, code, _ := impl.Factor(x.s, madeOf(e), w)
			x.check(t, "Factor", w, code, got, e)
		}
		clear(x.known)
	}
	if x.seen["Superpose, done"] < 100 || x.seen["Resolve, done"] < 5 || x.seen["Factor, done"] < 10 {
		t.Error("too few cases of a kind", x.seen)
	}
}

// TestPromise6Apart: a clause that was made apart holds where it did before, and has no variable of the other one.
func TestPromise6Apart(t *testing.T) {
	d := &dice{state: 66}
	x := truthsOf(impl.Sign{Arity: []int{0, 0, 1}}, 2)
	for range 500 {
		c, e := d.lits(x.s, 3, 4), threeVars(d.lits(x.s, 3, 4))
		c = someVars(c, d.order(9)[:3])
		got, ok := impl.ApartClauses(x.s, madeOf(c), madeOf(e))
		row, good := goodLits(x.s, got)
		if !ok || !good {
			t.Fatalf("ApartClauses(%s, %s): %v, %v", textOfLits(c), textOfLits(e), got, ok)
		}
		if !slices.Equal(x.of(row), x.of(e)) {
			t.Fatalf("ApartClauses(%s, %s) has other models: %s", textOfLits(c), textOfLits(e), textOfLits(row))
		}
		for _, v := range varsOfLits(row) {
			if slices.Contains(varsOfLits(c), v) {
				t.Fatalf("ApartClauses(%s, %s) has a common variable: %s", textOfLits(c), textOfLits(e), textOfLits(row))
			}
		}
		clear(x.known)
	}
}

// TestInferLarge compares the conclusions with the second implementation, for many signatures and larger terms.
func TestInferLarge(t *testing.T) {
	d := &dice{state: 67}
	seen, resolved, paired := map[int]int{}, map[int]int{}, map[int]int{}
	for range 30000 {
		s := d.sign()
		c, e, w := d.premises(s, 1+d.below(20))
		want, code := superposedLits(c, e, w)
		got, n, ok := impl.Superpose(s, madeOf(c), madeOf(e), w)
		if !sameClauses(got, want) || n != code || !ok {
			t.Fatalf("Superpose(%v, %s, %s, %v): %v, %d, %v", s, textOfLits(c), textOfLits(e), w, got, n, ok)
		}
		seen[code]++
		c, w = d.single(s, 1+d.below(20))
		want, code = factoredLits(c, w)
		got, n, ok = impl.Factor(s, madeOf(c), w)
		if !sameClauses(got, want) || n != code || !ok {
			t.Fatalf("Factor(%v, %s, %v): %v, %d, %v", s, textOfLits(c), w, got, n, ok)
		}
		paired[code]++
		for i := range c {
			want, code = resolvedLits(c, i)
			got, n, ok = impl.Resolve(s, madeOf(c), i)
			if !sameClauses(got, want) || n != code || !ok {
				t.Fatalf("Resolve(%v, %s, %d): %v, %d, %v", s, textOfLits(c), i, got, n, ok)
			}
			resolved[code]++
		}
	}
	for code := range 6 {
		if seen[code] < 200 || code != impl.InVars && (resolved[code] < 30 || paired[code] < 30) {
			t.Error("too few cases of a code", code, seen, resolved, paired)
		}
	}
}
