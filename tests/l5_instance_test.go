package tests

import (
	"slices"
	"testing"

	"loop.example/g00682/impl"
)

func (m model) world() impl.World { return impl.World{Size: m.size, Tables: m.tables} }

// evaluated is the assignment of the values of a substitution's terms.
func (m model) evaluated(b [][]*tree, env []int) []int {
	out := slices.Clone(env)
	for v, x := range b {
		if len(x) > 0 {
			out[v] = m.value(x[0], env)
		}
	}
	return out
}

// checkInstanceOf: the value of an instance is that of the term under the evaluated substitution; so it is for the
// assignment that is computed with EvalIn, and for the one that is computed without the program.
func checkInstanceOf(t *testing.T, s impl.Sign, m model, b [][]*tree, x *tree, env []int) int {
	t.Helper()
	w := m.world()
	var values []int
	for v, y := range b {
		y = append(y, leaf(-1-v))
		n, ok := impl.EvalIn(s, w, y[0].list(), env)
		if !ok {
			t.Fatalf("EvalIn(%v, %v, %s, %v) fails", s, w, y[0].text(), env)
		}
		values = append(values, n)
	}
	if want := m.evaluated(b, env); !slices.Equal(values, want) {
		t.Fatalf("%v evaluates to %v, not %v", listsOf(b), values, want)
	}
	under, ok := impl.EvalIn(s, w, x.list(), values)
	if want := m.value(x, values); under != want || !ok {
		t.Fatalf("EvalIn(%v, %v, %s, %v): %d, %v", s, w, x.text(), values, under, ok)
	}
	u, fits := impl.Apply(s, listsOf(b), x.list())
	if !fits {
		return -1
	}
	if got, ok := impl.EvalIn(s, w, u, env); got != under || !ok {
		t.Fatalf("EvalIn(%v, %v, %v, %v): %d, %v, but %s has the value %d for %v", s, w, u, env, got, ok, x.text(), under, values)
	}
	return under
}

// TestPromise5Small: all worlds of at most two elements (of three for unary symbols), all small terms, all substitutions of
// small terms for A and B, and all assignments.
func TestPromise5Small(t *testing.T) {
	for _, c := range []struct {
		arity []int
		size  int
		most  int
	}{{[]int{0, 1}, 1, 3}, {[]int{0, 1}, 2, 3}, {[]int{0, 1}, 3, 2}, {[]int{0, 2}, 2, 3}, {[]int{0, 3}, 2, 4}} {
		s := impl.Sign{Arity: c.arity}
		all, values := smallTrees(s, []int{0, 1}, c.most), smallTrees(s, []int{0, 1}, 2)
		b := make([][]*tree, 12)
		for _, m := range modelsOf(s, c.size) {
			for _, x := range values {
				for _, y := range values {
					b[0], b[1] = []*tree{x}, []*tree{y}
					env := make([]int, 12)
					for more := true; more; more = countUp(env[:2], c.size) {
						for _, z := range all {
							checkInstanceOf(t, s, m, b, z, env)
						}
					}
				}
			}
		}
	}
}

func (d *dice) model(s impl.Sign, size int) model {
	m := model{size: size}
	for _, arity := range s.Arity {
		m.tables = append(m.tables, d.elements(power(size, arity), size))
	}
	return m
}

func (d *dice) elements(many, size int) []int {
	l := make([]int, many)
	for i := range l {
		l[i] = d.below(size)
	}
	return l
}

// TestPromise5Large: terms, substitutions and worlds of many signatures.
func TestPromise5Large(t *testing.T) {
	d := &dice{state: 51}
	seen := map[int]int{}
	for range 4000 {
		s := d.sign()
		m := d.model(s, 1+d.below(3))
		b := d.values(s)
		x := d.large(s)
		for range 5 {
			seen[checkInstanceOf(t, s, m, b, x, d.elements(12, m.size))]++
			x = d.changed(s, x)
		}
	}
	if seen[-1] < 500 || seen[0] < 1000 || seen[1] < 1000 || seen[2] < 1000 {
		t.Error("too few cases of a kind", seen)
	}
}

// TestPromise5Clauses: an instance of a clause holds exactly if the clause does under the evaluated substitution.
func TestPromise5Clauses(t *testing.T) {
	d := &dice{state: 52}
	seen := map[bool]int{}
	for range 6000 {
		s := d.sign()
		m := d.model(s, 1+d.below(3))
		b, row, env := d.values(s), d.lits(s, 3, 8), d.elements(12, m.size)
		values := m.evaluated(b, env)
		is, ok := impl.HoldsAt(s, m.world(), madeOf(row), values)
		if is != m.holdsAt(row, values) || !ok {
			t.Fatalf("HoldsAt(%v, %v, %s, %v): %v, %v", s, m, textOfLits(row), values, is, ok)
		}
		c, fits := impl.ApplyClause(s, listsOf(b), madeOf(row))
		if !fits {
			continue
		}
		if got, ok := impl.HoldsAt(s, m.world(), c, env); got != is || !ok {
			t.Fatalf("HoldsAt(%v, %v, %v, %v): %v, %v, but %s: %v", s, m, c, env, got, ok, textOfLits(row), is)
		}
		// What holds for all assignments holds for those of an instance.
		if all, ok := impl.HoldsIn(s, m.world(), madeOf(row)); ok && all && !is {
			t.Fatalf("%s holds in %v, but not for %v", textOfLits(row), m, values)
		}
		seen[is]++
	}
	if seen[true] < 1000 || seen[false] < 1000 {
		t.Error("too few cases of a kind", seen)
	}
}

// falseEnvs are all assignments under which the clause does not hold, with 0 for the variables that do not occur.
func (m model) falseEnvs(row []lit) [][]int {
	vars := varsOfLits(row)
	digits := make([]int, len(vars))
	var all [][]int
	for more := true; more; more = countUp(digits, m.size) {
		env := make([]int, 12)
		for i, v := range vars {
			env[v] = digits[i]
		}
		if !m.holdsAt(row, env) {
			all = append(all, env)
		}
	}
	return all
}

// checkAgree compares FalseAt, HoldsIn and AllHold with all assignments of a clause's variables, which may be at most 6. It
// returns the least assignment under which the clause does not hold, or nil.
func checkAgree(t *testing.T, s impl.Sign, m model, row []lit) []int {
	t.Helper()
	c, w := madeOf(row), m.world()
	var least []int
	if all := m.falseEnvs(row); len(all) > 0 {
		least = slices.MinFunc(all, slices.Compare[[]int])
	}
	env, found := impl.FalseAt(s, w, c)
	if !slices.Equal(env, least) || found != (least != nil) {
		t.Fatalf("FalseAt(%v, %v, %s): %v, %v", s, w, textOfLits(row), env, found)
	}
	if is, ok := impl.HoldsIn(s, w, c); is == found || !ok {
		t.Fatalf("HoldsIn(%v, %v, %s): %v, %v", s, w, textOfLits(row), is, ok)
	}
	if is, ok := impl.AllHold(s, w, [][]impl.Lit{c}); is == found || !ok {
		t.Fatalf("AllHold(%v, %v, %s): %v, %v", s, w, textOfLits(row), is, ok)
	}
	if is, ok := impl.HoldsAt(s, w, c, env); found && (is || !ok) {
		t.Fatalf("HoldsAt(%v, %v, %s, %v): %v, %v", s, w, textOfLits(row), env, is, ok)
	}
	return least
}

// kindOf tells whether the least assignment is the first one, of 0 only.
func kindOf(least []int) string {
	switch {
	case least == nil:
		return "none"
	case slices.Max(least) == 0:
		return "first"
	}
	return "later"
}

// TestAgreeSmall: for all small clauses, all worlds and all assignments, HoldsAt agrees with FalseAt and HoldsIn.
func TestAgreeSmall(t *testing.T) {
	s := impl.Sign{Arity: []int{0, 1}}
	all := slices.Concat(modelsOf(s, 1), modelsOf(s, 2))
	for no, m := range modelsOf(s, 3) {
		if no%7 == 5 {
			all = append(all, m)
		}
	}
	seen := map[string]int{}
	for _, row := range smallClauses(s) {
		for _, m := range all {
			least := checkAgree(t, s, m, row)
			env := make([]int, 12)
			for more := true; more; more = countUp(env[:2], m.size) {
				is, ok := impl.HoldsAt(s, m.world(), madeOf(row), env)
				if is != m.holdsAt(row, env) || !ok || !is && least == nil {
					t.Fatalf("HoldsAt(%v, %v, %s, %v): %v, %v", s, m, textOfLits(row), env, is, ok)
				}
			}
			seen[kindOf(least)]++
		}
	}
	if seen["none"] < 10000 || seen["first"] < 10000 || seen["later"] < 10000 {
		t.Error("too few cases of a kind", seen)
	}
}

// TestAgreeLarge: clauses of up to 8 literals and up to 6 of the 12 variables.
func TestAgreeLarge(t *testing.T) {
	d := &dice{state: 53}
	seen := map[string]int{}
	six := 0
	for range 8000 {
		s := d.sign()
		m := d.model(s, 1+d.below(3))
		row := d.lits(s, 8, 10)
		if d.below(2) == 0 {
			row = d.looseLits(s)
		}
		row = someVars(row, d.order(12)[:1+max(d.below(6), d.below(6))])
		least := checkAgree(t, s, m, row)
		if len(varsOfLits(row)) == 6 {
			six++
		}
		seen[kindOf(least)]++
	}
	if seen["none"] < 500 || seen["first"] < 500 || seen["later"] < 500 || six < 200 {
		t.Error("too few cases of a kind", seen, six)
	}
}

// looseLits returns a clause of unrelated literals, many of whose terms are variables.
func (d *dice) looseLits(s impl.Sign) []lit {
	var row []lit
	for range 2 + d.below(7) {
		x := lit{d.below(3) > 0, d.tree(s, 6), leaf(-1 - d.below(12))}
		if d.below(2) == 0 {
			x.l = leaf(-1 - d.below(12))
		}
		row = append(row, x)
	}
	return row
}

// order is a list of the numbers below n.
func (d *dice) order(n int) []int {
	var l []int
	for i := range n {
		l = slices.Insert(l, d.below(i+1), i)
	}
	return l
}

// TestAllHoldLarge: lists of clauses hold exactly if each of them does, and FindWorld finds only such worlds.
func TestAllHoldLarge(t *testing.T) {
	d := &dice{state: 54}
	seen := map[bool]int{}
	found, none := 0, 0
	for range 1500 {
		s := impl.Sign{Arity: [][]int{{0, 0, 1}, {0, 2}, {0, 1, 1}, {0, 0, 0, 1}}[d.below(4)]}
		size := 1 + d.below(3)
		var l [][]impl.Lit
		var rows [][]lit
		for range d.below(4) {
			row := threeVars(d.lits(s, 3, 4))
			l, rows = append(l, madeOf(row)), append(rows, row)
		}
		m := d.model(s, size)
		fails := func(row []lit) bool { return !m.holds(row, 3) }
		is, ok := impl.AllHold(s, m.world(), l)
		if is == slices.ContainsFunc(rows, fails) || !ok {
			t.Fatalf("AllHold(%v, %v, %v): %v, %v", s, m, l, is, ok)
		}
		seen[is]++
		many, _ := wantedCount(s, size)
		if many > 3000 {
			continue
		}
		want := impl.World{}
		all := modelsOf(s, size)
		at := slices.IndexFunc(all, func(n model) bool {
			m = n
			return !slices.ContainsFunc(rows, fails)
		})
		if at >= 0 {
			want = all[at].world()
			found++
		} else {
			none++
		}
		if got, ok := impl.FindWorld(s, l, size); !sameWorlds(got, want) || ok != (at >= 0) {
			t.Fatalf("FindWorld(%v, %v, %d): %v, %v", s, l, size, got, ok)
		}
	}
	if seen[true] < 200 || seen[false] < 200 || found < 200 || none < 100 {
		t.Error("too few cases of a kind", seen, found, none)
	}
}
