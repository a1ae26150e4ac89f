package tests

import (
	"slices"
	"strings"
	"testing"

	"loop.example/g00682/impl"
)

func TestNormalClause(t *testing.T) {
	tests := []struct {
		c, units, want string
		steps          int
	}{
		{"d(c)#b|e(B)=c", twoUnits, "e(A)=b", 3},
		// The empty clause, clauses of one literal, and clauses without steps.
		{"-", twoUnits, "-", 0},
		{"-", "", "-", 0},
		{"d(c)=c", twoUnits, "b=b", 3},
		{"c#d(a)", twoUnits, "b#a", 2},
		{"e(b)=b|a#b", twoUnits, "e(b)=b|a#b", 0},
		{"d(c)=b|c#a", "", "d(c)=b|c#a", 0},
		// TidyClause and RenameClause also apply without steps.
		{"d(A)=b|c#c|b=d(A)", "", "d(A)=b", 0},
		{"C#C|e(D)=B", twoUnits, "e(A)=B", 0},
		{"L=K", twoUnits, "A=B", 0},
		{"B#B", "", "-", 0},
		// All terms on both sides of all literals; their steps are added.
		{"c=d(c)|d(d(c))#a|e(A)=f(c,d(A))", twoUnits, "b=b|b#a|e(A)=f(b,A)", 8},
		{"c=a|c#a|a=c|a#c", "c=b", "b=a|b#a", 4},
		{"a=b|b=c", "b=a|c=b", "a=a", 4},
		// Literals that become equal, also with their sides exchanged: the first one remains.
		{"d(b)=a|b=a", twoUnits, "b=a", 1},
		{"b=a|d(b)=a", twoUnits, "b=a", 1},
		{"a=c|b=a", twoUnits, "a=b", 1},
		{"a#c|d(b)#a|a=b", twoUnits, "a#b|a=b", 2},
		{"d(A)=e(B)|A=e(B)|e(B)=d(A)", twoUnits, "A=e(B)", 2},
		{"c=a|c=a|c=a", twoUnits, "b=a", 3},
		// Literals that become trivial, and clauses that become empty.
		{"c#b", twoUnits, "-", 1},
		{"d(A)#A", twoUnits, "-", 1},
		{"c#c", twoUnits, "-", 2},
		{"c#b|d(B)#B|d(c)#c", twoUnits, "-", 5},
		{"c=b", twoUnits, "b=b", 1},
		{"d(A)=A|c#b", twoUnits, "A=A", 2},
		{"c=b|a#d(a)|c=b", twoUnits, "b=b", 3},
		{"c=a|b#a", twoUnits, "b=a|b#a", 1},
		// The variables are renumbered when literals and variables have gone.
		{"d(C)=B", twoUnits, "A=B", 1},
		{"d(C)#C|e(D)=B", twoUnits, "e(A)=B", 1},
		{"f(C,B)=B|C=b", "f(A,B)=B", "A=A|B=b", 1},
		{"f(L,K)=e(J)|b=K", "f(A,B)=a", "a=e(A)|b=B", 1},
		{"f(B,A)=c", "f(A,B)=B", "A=c", 1},
		{"f(A,B)=e(f(C,A))", "f(C,B)=B", "A=e(B)", 2},
		// A variable of a unit that has become one of the clause.
		{"d(C)=e(B)", "d(A)=B", "d(A)=e(B)", 0},
		{"d(B)=e(C)", "d(A)=B", "A=e(B)", 1},
	}
	for _, c := range tests {
		got, steps, ok := impl.NormalClause(sampleSign(), clause(c.c), unitsOf(c.units))
		if !sameClauses(got, clause(c.want)) || steps != c.steps || !ok {
			t.Errorf("NormalClause(%s, %s): %v, %d, %v", c.c, c.units, got, steps, ok)
		}
	}
}

// TestNormalClauseLong: the greatest clauses and terms.
func TestNormalClauseLong(t *testing.T) {
	s := sampleSign()
	long := impl.Lit{Pos: false, L: chain(39, 2), R: chain(39, -12)}
	ten := append(slices.Repeat(clause("e(A)=e(A)|e(A)=A|f(A,A)=A"), 3)[:8], unitsOf(twoUnits)...)
	for n := range 9 {
		want := clause("b#A")
		if n == 0 {
			want = nil
		}
		got, steps, ok := impl.NormalClause(s, slices.Repeat([]impl.Lit{long}, n), ten)
		if !sameClauses(got, want) || steps != n*(40+39) || !ok {
			t.Error("NormalClause of long literals", n, got, steps, ok)
		}
	}
	if got, steps, ok := impl.NormalClause(s, clause(eightLits), ten); !sameClauses(got, clause("A=b|B#b|C=b|D#b|f(E,F)#G")) || steps != 6 || !ok {
		t.Error("NormalClause of eight literals", got, steps, ok)
	}
	var alike []impl.Lit
	for n := range 8 {
		alike = append(alike, impl.Lit{Pos: true, L: chain(39-n, 2), R: []int{0}})
	}
	if got, steps, ok := impl.NormalClause(s, alike, ten); !sameClauses(got, clause("b=a")) || steps != 8*40-28 || !ok {
		t.Error("NormalClause of literals that become the same", got, steps, ok)
	}
}

func TestSameClause(t *testing.T) {
	tests := []struct {
		c, d string
		want bool
	}{
		{"d(A)=B", "d(C)=A", true},
		{"-", "-", true},
		{"-", "b=c", false},
		{"-", "A#A", false},
		{"b=c", "b=c", true},
		{"b#c", "b#c", true},
		{"b=c", "b#c", false},
		{"b=c", "b=a", false},
		{"b=c", "a=c", false},
		{"A#B", "L#K", true},
		{"A=B", "B=A", true},
		{"A=A", "L=L", true},
		{"A=A", "A=B", false},
		{"A=b", "A=B", false},
		{"f(A,B)=A", "f(B,A)=B", true},
		{"f(A,B)=A", "f(A,B)=B", false},
		{"f(A,B)=A", "f(A,A)=A", false},
		{"d(A)=b", "e(A)=b", false},
		{"d(A)=b", "d(b)=b", false},
		// The order of the sides, and of the literals, counts.
		{"b=c", "c=b", false},
		{"d(A)=B", "A=d(B)", false},
		{"A=B", "B=C", true},
		{"b=c|c=a", "c=a|b=c", false},
		{"A=b|B=c", "A=c|B=b", false},
		{"A=b|c#A", "c#A|A=b", false},
		// Variables are renumbered throughout the clause.
		{"A=b|B=c", "C=b|A=c", true},
		{"A=b|B=c", "A=b|A=c", false},
		{"A=b|A=c", "B=b|A=c", false},
		{"A=b|d(B)#A", "B=b|d(A)#B", true},
		{"A=b|d(B)#A", "B=b|d(A)#A", false},
		{"b=c|A=d(B)|f(B,C)#a", "b=c|L=d(A)|f(A,B)#a", true},
		// Clauses of which one begins with the other, or that TidyClause would make the same.
		{"b=c", "b=c|c=a", false},
		{"A=b", "A=b|B=b", false},
		{"b=c", "b=c|b=c", false},
		{"b=c", "b=c|a#a", false},
		{"A#A", "A#A|A#A", false},
		{"A=b|A=b", "B=b|B=b", true},
		// All variables, and eight literals.
		{"A=B|C=D|E=F|G#H|I#J|K#L|A=L", "L=K|J=I|H=G|F#E|D#C|B#A|L=A", true},
		{"A=B|C=D|E=F|G#H|I#J|K#L|A=L", "L=K|J=I|H=G|F#E|D#C|B#A|L=B", false},
		{eightLits, eightLits, true},
		{eightLits, strings.ReplaceAll(strings.ReplaceAll(eightLits, "L", "K"), "A", "L"), true},
		{eightLits, strings.ReplaceAll(eightLits, "L", "A"), false},
		{many(39) + "A=" + many(39) + "B", many(39) + "F=" + many(39) + "E", true},
		{many(39) + "A=" + many(39) + "B", many(39) + "F=" + many(39) + "F", false},
	}
	for _, c := range tests {
		for _, pair := range [][2]string{{c.c, c.d}, {c.d, c.c}} {
			if got, ok := impl.SameClause(sampleSign(), clause(pair[0]), clause(pair[1])); got != c.want || !ok {
				t.Errorf("SameClause(%s, %s): %v, %v", pair[0], pair[1], got, ok)
			}
		}
	}
}

// TestSameClauseLarge: clauses are the same as those with other names for the variables, and otherwise compared literal by
// literal.
func TestSameClauseLarge(t *testing.T) {
	d := &dice{state: 74}
	seen := map[bool]int{}
	for range 4000 {
		s := d.sign()
		row := d.lits(s, 8, 10)
		other := someVars(row, d.order(12))
		if is, ok := impl.SameClause(s, madeOf(row), madeOf(other)); !is || !ok {
			t.Fatalf("SameClause(%s, %s): %v, %v", textOfLits(row), textOfLits(other), is, ok)
		}
		for i, x := range other {
			switch d.below(6) {
			case 0:
				other[i] = x.swapped()
			case 1:
				other[i] = x.negated()
			case 2:
				other[i] = lit{x.pos, x.l, d.changed(s, x.r)}
			}
		}
		want := sameClauses(wantedRenameClause(madeOf(row)), wantedRenameClause(madeOf(other)))
		if is, ok := impl.SameClause(s, madeOf(row), madeOf(other)); is != want || !ok {
			t.Fatalf("SameClause(%s, %s): %v, %v", textOfLits(row), textOfLits(other), is, ok)
		}
		seen[want]++
	}
	if seen[true] < 300 || seen[false] < 1000 {
		t.Error("too few cases of a kind", seen)
	}
}

// badUnits are lists of more than 10 literals, or with one that is an inequation or no valid literal.
func badUnits() [][]impl.Lit {
	bad := [][]impl.Lit{
		slices.Repeat(clause("c=b"), 11),
		slices.Repeat(clause("c=b"), 500),
		slices.Repeat(clause("c#b"), 11),
		clause("c#b"),
		clause("A#A"),
		clause("d(A)=A|c#b"),
		clause("b#b|d(A)=A|c=b"),
		append(slices.Repeat(clause("c=b"), 9), clause("c#b")...),
		append(slices.Repeat(clause("c=b"), 9), impl.Lit{Pos: true, L: []int{-13}, R: []int{0}}),
		append(slices.Repeat(clause("c=b"), 9), impl.Lit{Pos: true, L: []int{0}, R: chain(40, 0)}),
	}
	for _, c := range badClauses() {
		if len(c) > 10 || slices.ContainsFunc(c, func(x impl.Lit) bool { return !x.Pos || !impl.GoodClause(sampleSign(), []impl.Lit{x}) }) {
			bad = append(bad, c)
		}
	}
	return bad
}

// simpleCall is a function of chapter 7 with a term or a clause, and units or another clause. It reports whether it succeeds
// and whether its other results are zero values. A function that rewrites takes units.
type simpleCall struct {
	name    string
	rewrite bool
	call    func(s impl.Sign, x []int, c, d []impl.Lit) (ok, zero bool)
}

func simpleCalls() []simpleCall {
	return []simpleCall{
		{"StepTerm", true, func(s impl.Sign, x []int, _, d []impl.Lit) (bool, bool) {
			y, at, unit, ok := impl.StepTerm(s, x, d)
			return ok, y == nil && at == 0 && unit == 0
		}},
		{"NormalTerm", true, func(s impl.Sign, x []int, _, d []impl.Lit) (bool, bool) {
			y, steps, ok := impl.NormalTerm(s, x, d)
			return ok, y == nil && steps == 0
		}},
		{"IsNormal", true, func(s impl.Sign, x []int, _, d []impl.Lit) (bool, bool) {
			is, ok := impl.IsNormal(s, x, d)
			return ok, !is
		}},
		{"NormalClause", true, func(s impl.Sign, _ []int, c, d []impl.Lit) (bool, bool) {
			e, steps, ok := impl.NormalClause(s, c, d)
			return ok, e == nil && steps == 0
		}},
		{"Subsumes", false, func(s impl.Sign, _ []int, c, d []impl.Lit) (bool, bool) {
			b, ok := impl.Subsumes(s, c, d)
			return ok, b == nil
		}},
		{"SameClause", false, func(s impl.Sign, _ []int, c, d []impl.Lit) (bool, bool) {
			is, ok := impl.SameClause(s, c, d)
			return ok, !is
		}},
		{"IsUnit", false, func(s impl.Sign, _ []int, c, _ []impl.Lit) (bool, bool) {
			is, ok := impl.IsUnit(s, c)
			return ok, !is
		}},
	}
}

// checkRefused expects a failing call without results.
func (c simpleCall) checkRefused(t *testing.T, s impl.Sign, x []int, d, e []impl.Lit) {
	t.Helper()
	if ok, zero := c.call(s, x, d, e); ok || !zero {
		t.Errorf("%s of %v, %v, %v with %d symbols: succeeds %v, zero values %v", c.name, x[:min(len(x), 50)], d[:min(len(d), 9)], e[:min(len(e), 11)], len(s.Arity), ok, zero)
	}
}

func TestSimpleInvalid(t *testing.T) {
	s, x, good, unit := sampleSign(), term("d(c)"), clause("c=b|d(A)#B"), clause("c=b")
	badTerms := [][]int{nil, {}, {-13}, {6}, {0, 0}, {3}, {5, -1}, {leastInt}, {greatestInt}, {3, leastInt}, {5, greatestInt, 0}, chain(40, -1), chain(300, 0)}
	for _, c := range simpleCalls() {
		if ok, zero := c.call(s, x, unit, unit); !ok || zero != (c.name == "IsNormal") {
			t.Errorf("%s of valid arguments: succeeds %v, zero values %v", c.name, ok, zero)
		}
		for _, bad := range badSigns() {
			c.checkRefused(t, bad, []int{0}, clause("a=a"), clause("a=a"))
			c.checkRefused(t, bad, []int{-1}, nil, nil)
			c.checkRefused(t, bad, x, good, unit)
		}
		for _, bad := range badClauses() {
			if c.name == "NormalClause" || !c.rewrite {
				c.checkRefused(t, s, x, bad, unit)
				c.checkRefused(t, s, x, bad, nil)
			}
			if !c.rewrite && c.name != "IsUnit" {
				c.checkRefused(t, s, x, unit, bad)
				c.checkRefused(t, s, x, nil, bad)
				c.checkRefused(t, s, x, bad, bad)
			}
		}
		for _, bad := range badUnits() {
			if c.rewrite {
				c.checkRefused(t, s, x, good, bad)
				c.checkRefused(t, s, []int{-1}, nil, bad)
			}
		}
		for _, bad := range badTerms {
			if c.rewrite && c.name != "NormalClause" {
				c.checkRefused(t, s, bad, good, unit)
				c.checkRefused(t, s, bad, good, nil)
			}
		}
	}
}

// TestSimpleLimit: ten units are accepted, and only equations.
func TestSimpleLimit(t *testing.T) {
	for n := range 13 {
		units := slices.Repeat(clause("c=b"), n)
		for _, c := range simpleCalls() {
			if !c.rewrite {
				continue
			}
			want := n <= 10 && (n > 0 || c.name != "StepTerm")
			if ok, _ := c.call(sampleSign(), term("c"), clause("c=a"), units); ok != want {
				t.Errorf("%s with %d units: %v", c.name, n, ok)
			}
			for k := range n {
				changed := slices.Clone(units)
				changed[k].Pos = false
				c.checkRefused(t, sampleSign(), term("c"), clause("c=a"), changed)
			}
		}
	}
}
