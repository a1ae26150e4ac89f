package tests

import (
	"slices"
	"testing"

	"loop.example/g00682/impl"
)

// tidyOf checks TidyClause against the second implementation and returns its result.
func tidyOf(t *testing.T, s impl.Sign, row []lit) []lit {
	t.Helper()
	c := madeOf(row)
	got, ok := impl.TidyClause(s, c)
	if !sameClauses(got, madeOf(tidyLits(row))) || !ok {
		t.Fatalf("TidyClause(%v, %s): %v, %v", s, textOfLits(row), got, ok)
	}
	after, good := goodLits(s, got)
	if !good {
		t.Fatalf("TidyClause(%v, %s) is not valid: %v", s, textOfLits(row), got)
	}
	return after
}

// checkModels reports how many models a clause has. TidyClause must not change them, and each of them is one if the
// clause is a tautology.
func checkModels(t *testing.T, s impl.Sign, all []model, row []lit, vars int) int {
	t.Helper()
	after := tidyOf(t, s, row)
	always, ok := impl.IsTautology(s, madeOf(row))
	if always != isTautology(row) || !ok {
		t.Fatalf("IsTautology(%v, %s): %v, %v", s, textOfLits(row), always, ok)
	}
	many := 0
	for _, m := range all {
		holds := m.holds(row, vars)
		if m.holds(after, vars) != holds {
			t.Fatalf("%s holds: %v, but not %s, with %d elements and the tables %v", textOfLits(row), holds, textOfLits(after), m.size, m.tables)
		}
		if always && !holds {
			t.Fatalf("%s does not hold with %d elements and the tables %v", textOfLits(row), m.size, m.tables)
		}
		if holds {
			many++
		}
	}
	return many
}

// TestPromise4Small: literals omitted by TidyClause do not change the models of a clause, for all small clauses.
func TestPromise4Small(t *testing.T) {
	s := impl.Sign{Arity: []int{0, 0, 1}}
	all := slices.Concat(modelsOf(s, 1), modelsOf(s, 2))
	never, always, some := 0, 0, 0
	for _, row := range smallClauses(s) {
		switch checkModels(t, s, all, row, 2) {
		case 0:
			never++
		case len(all):
			always++
		default:
			some++
		}
	}
	if len(all) != 17 || never < 10 || always < 100 || some < 1000 {
		t.Error("too few cases of a kind", len(all), never, always, some)
	}
}

// TestPromise4Large: the same for clauses of up to 8 literals, many of them equivalent to others or negations of them.
func TestPromise4Large(t *testing.T) {
	d := &dice{state: 43}
	omitted, tautologies := 0, 0
	for _, arity := range [][]int{{0, 0, 1}, {0, 2}, {0, 0, 0}, {0, 1, 1}} {
		s := impl.Sign{Arity: arity}
		all := slices.Concat(modelsOf(s, 1), modelsOf(s, 2))
		if arity[len(arity)-1] < 2 {
			all = append(all, modelsOf(s, 3)...)
		}
		for range 300 {
			row := threeVars(d.lits(s, 8, 5))
			checkModels(t, s, all, row, 3)
			if len(tidyLits(row)) < len(row) {
				omitted++
			}
			if isTautology(row) {
				tautologies++
			}
		}
	}
	if omitted < 300 || tautologies < 200 {
		t.Error("too few cases of a kind", omitted, tautologies)
	}
}

// threeVars puts A, B and C for all variables, so that few assignments have to be tried.
func threeVars(row []lit) []lit { return someVars(row, []int{0, 1, 2}) }

// someVars puts variables from that list for all variables.
func someVars(row []lit, vars []int) []lit {
	values := make([][]*tree, 12)
	for v := range values {
		values[v] = []*tree{leaf(-1 - vars[v%len(vars)])}
	}
	out, _ := putAll(values, row)
	return out
}

// TestTidyAgain: the result of TidyClause has nothing to omit, and its literals are literals of the clause, in their order.
func TestTidyAgain(t *testing.T) {
	d := &dice{state: 44}
	omitted := 0
	for range 5000 {
		s := d.sign()
		row := d.lits(s, 8, 20)
		after := tidyOf(t, s, row)
		if again := tidyOf(t, s, after); textOfLits(again) != textOfLits(after) {
			t.Fatalf("TidyClause of %s, which is tidy: %s", textOfLits(after), textOfLits(again))
		}
		rest := row
		for _, x := range after {
			at := slices.IndexFunc(rest, func(y lit) bool { return x.text() == y.text() })
			if at < 0 {
				t.Fatalf("TidyClause(%v, %s): %s", s, textOfLits(row), textOfLits(after))
			}
			rest = rest[at+1:]
		}
		omitted += len(row) - len(after)
	}
	if omitted < 3000 {
		t.Error("too few literals were omitted", omitted)
	}
}

// TestClauseTrees compares the functions with clauses of trees.
func TestClauseTrees(t *testing.T) {
	d := &dice{state: 45}
	for range 5000 {
		s := d.sign()
		row := d.lits(s, 8, 20)
		c := madeOf(row)
		if !impl.GoodClause(s, c) {
			t.Fatalf("GoodClause(%v, %s)", s, textOfLits(row))
		}
		if got, ok := impl.VarsIn(s, c); !slices.Equal(got, varsOfLits(row)) || !ok {
			t.Fatalf("VarsIn(%v, %s): %v, %v", s, textOfLits(row), got, ok)
		}
		if got, ok := impl.WeightOf(s, c); got != weightOfLits(row) || !ok {
			t.Fatalf("WeightOf(%v, %s): %v, %v", s, textOfLits(row), got, ok)
		}
		if got, ok := impl.IsTautology(s, c); got != isTautology(row) || !ok {
			t.Fatalf("IsTautology(%v, %s): %v, %v", s, textOfLits(row), got, ok)
		}
		if got, ok := impl.MaximalIn(s, c); !slices.Equal(got, maximalLits(row)) || !ok {
			t.Fatalf("MaximalIn(%v, %s): %v, %v", s, textOfLits(row), got, ok)
		}
	}
}

// putAll is the second implementation of ApplyClause; the instance may be too long.
func putAll(values [][]*tree, row []lit) (out []lit, fits bool) {
	fits = true
	for _, x := range row {
		y := lit{x.pos, put(values, x.l), put(values, x.r)}
		out = append(out, y)
		fits = fits && y.l.size() <= 40 && y.r.size() <= 40
	}
	return out, fits
}

func TestApplyClauseLarge(t *testing.T) {
	d := &dice{state: 46}
	applied, tooLong := 0, 0
	for range 5000 {
		s := d.sign()
		row, values := d.lits(s, 8, 12), d.values(s)
		want, fits := putAll(values, row)
		got, ok := impl.ApplyClause(s, listsOf(values), madeOf(row))
		if ok != fits || fits && !sameClauses(got, madeOf(want)) || !fits && len(got) > 0 {
			t.Fatalf("ApplyClause(%v, %v, %s): %v, %v", s, listsOf(values), textOfLits(row), got, ok)
		}
		if fits {
			applied++
		} else {
			tooLong++
		}
	}
	if applied < 1000 || tooLong < 100 {
		t.Error("too few cases of a kind", applied, tooLong)
	}
}

// TestRenameClauseLarge: the result is an instance of the clause, in which the variables occur in the order 0, 1 and so on;
// and it does not depend on the names of the variables.
func TestRenameClauseLarge(t *testing.T) {
	var allVars []*tree
	for v := range 12 {
		allVars = append(allVars, leaf(-1-v))
	}
	d := &dice{state: 47}
	for range 5000 {
		s := d.sign()
		c := madeOf(d.lits(s, 8, 12))
		want := wantedRenameClause(c)
		got, ok := impl.RenameClause(s, c)
		if !sameClauses(got, want) || !ok {
			t.Fatalf("RenameClause(%v, %v): %v, %v", s, c, got, ok)
		}
		if again, ok := impl.RenameClause(s, got); !sameClauses(again, got) || !ok {
			t.Fatalf("RenameClause(%v, %v), which is renamed: %v, %v", s, got, again, ok)
		}
		other, _ := impl.ApplyClause(s, prefixLists(d.shuffled(allVars)), c)
		if got, ok := impl.RenameClause(s, other); !sameClauses(got, want) || !ok {
			t.Fatalf("RenameClause(%v, %v): %v, %v", s, other, got, ok)
		}
	}
}

// wantedRenameClause counts the variables that occur before each one.
func wantedRenameClause(c []impl.Lit) []impl.Lit {
	var order []int
	for _, n := range slices.Concat(listsIn(c)...) {
		if n < 0 && !slices.Contains(order, n) {
			order = append(order, n)
		}
	}
	out := copied(c)
	for _, l := range listsIn(out) {
		for i, n := range l {
			if n < 0 {
				l[i] = -1 - slices.Index(order, n)
			}
		}
	}
	return out
}

// checkPair compares CompareLits with trees, in both directions, and reports its result.
func checkPair(t *testing.T, s impl.Sign, x, y lit) int {
	t.Helper()
	n, ok := impl.CompareLits(s, x.made(), y.made())
	if n != comparedLits(x, y) || !ok {
		t.Fatalf("CompareLits(%v, %s, %s): %d, %v", s, x.text(), y.text(), n, ok)
	}
	m, ok := impl.CompareLits(s, y.made(), x.made())
	if m != converse(n) || !ok {
		t.Fatalf("CompareLits(%v, %s, %s): %d, and conversely %d", s, x.text(), y.text(), n, m)
	}
	return n
}

// TestCompareLitsSmall compares all pairs of small literals. The result is 0 exactly for equivalent ones.
func TestCompareLitsSmall(t *testing.T) {
	s := impl.Sign{Arity: []int{0, 0, 1}}
	var all []lit
	for _, row := range smallClauses(s) {
		if len(row) == 1 {
			all = append(all, row[0])
		}
	}
	for i, x := range all {
		for _, y := range all[i:] {
			if n := checkPair(t, s, x, y); (n == 0) != x.equivalent(y) {
				t.Fatalf("CompareLits(%s, %s): %d", x.text(), y.text(), n)
			}
		}
	}
}

// TestCompareLitsGround: of two literals without variables that are not equivalent, one is greater.
func TestCompareLitsGround(t *testing.T) {
	s := impl.Sign{Arity: []int{0, 0, 1, 2}}
	all := smallTrees(s, nil, 3)
	var lits []lit
	for _, x := range all {
		for _, y := range all {
			lits = append(lits, lit{true, x, y}, lit{false, x, y})
		}
	}
	for i, x := range lits {
		for _, y := range lits[i:] {
			if n := checkPair(t, s, x, y); n == 2 || (n == 0) != x.equivalent(y) {
				t.Fatalf("CompareLits(%s, %s): %d", x.text(), y.text(), n)
			}
		}
	}
}

func TestCompareLitsLarge(t *testing.T) {
	d := &dice{state: 48}
	seen := map[int]int{}
	for range 5000 {
		s := d.sign()
		row := d.lits(s, 8, 20)
		for i, x := range row {
			seen[checkPair(t, s, x, row[d.below(i+1)])]++
			y := lit{d.below(2) == 0, d.changed(s, x.l), x.r}
			seen[checkPair(t, s, x, y)]++
			seen[checkPair(t, s, y, x)]++
		}
	}
	if seen[0] < 500 || seen[1] < 500 || seen[-1] < 500 || seen[2] < 500 {
		t.Error("too few cases of a kind", seen)
	}
}
