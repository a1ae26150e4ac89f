package tests

import (
	"slices"
	"strings"
	"testing"

	"loop.example/g00682/impl"
)

func TestSimpleLimits(t *testing.T) {
	if impl.MaxUnits != 10 {
		t.Error("a limit differs from the document")
	}
}

func TestIsUnit(t *testing.T) {
	tests := []struct {
		c    []impl.Lit
		want bool
	}{
		{clause("d(A)=A"), true},
		{clause("c=b"), true},
		{clause("d(A)#B"), false},
		// The empty clause, and clauses of one literal.
		{nil, false},
		{[]impl.Lit{}, false},
		{clause("A=B"), true},
		{clause("A=A"), true},
		{clause("b=b"), true},
		{clause("b#c"), false},
		{clause("A#A"), false},
		{[]impl.Lit{longLit()}, true},
		// Clauses of more literals, also if TidyClause would leave one equation.
		{clause("b=c|c=a"), false},
		{clause("b=c|b=c"), false},
		{clause("b=c|c=b"), false},
		{clause("b=c|c#c"), false},
		{clause("c#c|b=c"), false},
		{clause("b#c|c#a"), false},
		{clause(eightLits), false},
	}
	for _, c := range tests {
		if got, ok := impl.IsUnit(sampleSign(), c.c); got != c.want || !ok {
			t.Errorf("IsUnit(%v): %v, %v", c.c, got, ok)
		}
	}
}

// stepTest is a call of StepTerm; where there is no step, want is empty. The units are written as a clause.
type stepTest struct {
	t, units, want string
	at, unit       int
}

// unitsOf are the units with that text; there may be none.
func unitsOf(text string) []impl.Lit {
	if text == "" {
		return nil
	}
	return clause(text)
}

// checkSteps also compares IsNormal.
func checkSteps(t *testing.T, tests []stepTest) {
	t.Helper()
	for _, c := range tests {
		got, at, unit, ok := impl.StepTerm(sampleSign(), lettersOf(c.t), unitsOf(c.units))
		more := c.want != ""
		if !slices.Equal(got, lettersOf(c.want)) || at != c.at || unit != c.unit || ok != more {
			t.Errorf("StepTerm(%s, %s): %v, %d, %d, %v", c.t, c.units, got, at, unit, ok)
		}
		if is, ok := impl.IsNormal(sampleSign(), lettersOf(c.t), unitsOf(c.units)); is == more || !ok {
			t.Errorf("IsNormal(%s, %s): %v, %v", c.t, c.units, is, ok)
		}
	}
}

const twoUnits = "d(A)=A|c=b"

func TestStepTerm(t *testing.T) {
	checkSteps(t, []stepTest{
		{"f(d(c),b)", twoUnits, "f(d(b),b)", 2, 1},
		{"f(d(b),b)", twoUnits, "f(b,b)", 1, 0},
		{"f(b,b)", twoUnits, "", 0, 0},
		// No units.
		{"f(d(c),b)", "", "", 0, 0},
		{"c", "", "", 0, 0},
		{"A", "", "", 0, 0},
		// The last index that can be rewritten, when an earlier one can be too.
		{"f(c,c)", "c=b", "f(c,b)", 2, 0},
		{"f(c,b)", "c=b", "f(b,b)", 1, 0},
		{"f(c,d(c))", "c=b", "f(c,d(b))", 3, 0},
		{"d(d(c))", "d(A)=A", "d(c)", 1, 0},
		{"d(d(d(A)))", "d(A)=A", "d(d(A))", 2, 0},
		{"f(d(a),f(d(b),d(c)))", "d(A)=A", "f(d(a),f(d(b),c))", 6, 0},
		{"f(d(a),f(d(b),c))", "d(A)=A", "f(d(a),f(b,c))", 4, 0},
		{"f(d(a),f(b,A))", "d(A)=A", "f(a,f(b,A))", 1, 0},
		{"d(c)", "d(A)=a", "a", 0, 0},
		{"e(d(c))", "e(d(A))=a|d(c)=b|d(A)=c", "e(b)", 1, 1},
		{"e(d(b))", "e(d(A))=a|d(c)=b", "a", 0, 0},
		// The last index counts before the first unit.
		{"f(d(b),e(c))", "d(A)=A|e(A)=A", "f(d(b),c)", 3, 1},
		{"f(e(b),d(c))", "d(A)=A|e(A)=A", "f(e(b),c)", 3, 0},
		{"f(d(A),c)", "d(A)=A|e(A)=A|b=a|c=a", "f(d(A),a)", 3, 3},
		// Two units that rewrite the same subterm.
		{"d(c)", "d(A)=b|d(c)=a", "b", 0, 0},
		{"d(c)", "d(c)=a|d(A)=b", "a", 0, 0},
		{"d(b)", "d(c)=a|d(A)=b", "b", 0, 1},
		{"e(c)", "b=a|c=b|c=a", "e(b)", 1, 1},
		{"e(c)", "b=a|c=a|c=b", "e(a)", 1, 1},
		{"d(e(A))", "b=b|d(e(A))=b|d(A)=c", "b", 0, 1},
		// The last one of ten units.
		{"c", "a=a|b=b|A=A|d(a)=a|e(a)=a|d(b)=a|e(b)=a|d(d(A))=A|e(e(A))=A|c=a", "a", 0, 9},
		{"e(e(B))", "a=a|b=b|A=A|d(a)=a|e(a)=a|d(b)=a|e(b)=a|d(d(A))=A|e(e(A))=A|c=a", "B", 0, 8},
		// Other terms than the instances of a side.
		{"d(c)", "c=d(b)|d(e(A))=b|f(A,A)=b|e(A)=a", "", 0, 0},
		{"f(b,c)", "f(A,A)=b", "", 0, 0},
		{"f(d(A),d(B))", "f(A,A)=b", "", 0, 0},
		{"f(d(B),d(B))", "f(A,A)=b", "b", 0, 0},
		{"f(b,f(c,c))", "f(A,f(B,A))=b", "", 0, 0},
		{"f(c,f(b,c))", "f(A,f(B,A))=b", "b", 0, 0},
		{"d(A)", "d(b)=b|d(d(A))=a", "", 0, 0},
		{"B", "d(b)=b|b=a", "", 0, 0},
	})
}

func TestStepTermSides(t *testing.T) {
	checkSteps(t, []stepTest{
		// The second side may be the one that matches.
		{"c", "b=c", "b", 0, 0},
		{"e(d(c))", "A=d(A)", "e(c)", 1, 0},
		{"e(c)", "d(A)=e(A)", "d(c)", 0, 0},
		{"d(c)", "d(A)=e(A)", "", 0, 0},
		// Both sides match; the first one counts if both instances are less.
		{"f(c,f(b,a))", "f(A,f(B,C))=f(B,f(C,A))", "f(b,f(a,c))", 0, 0},
		{"f(c,f(b,a))", "f(B,f(C,A))=f(A,f(B,C))", "f(a,f(c,b))", 0, 0},
		{"f(b,f(c,a))", "f(A,f(B,C))=f(B,f(C,A))", "f(a,f(b,c))", 0, 0},
		{"f(a,f(c,b))", "f(A,f(B,C))=f(B,f(C,A))", "", 0, 0},
		{"f(c,b)", "f(A,B)=f(B,A)", "f(b,c)", 0, 0},
		{"f(c,b)", "f(B,A)=f(A,B)", "f(b,c)", 0, 0},
		{"f(b,c)", "f(A,B)=f(B,A)", "", 0, 0},
		{"f(c,c)", "f(A,B)=f(B,A)", "", 0, 0},
		// A unit counts with both sides before the next one.
		{"e(c)", "d(A)=e(A)|e(A)=a", "d(c)", 0, 0},
		{"e(c)", "e(A)=a|d(A)=e(A)", "a", 0, 0},
		{"c", "a=c|c=b", "a", 0, 0},
		// A first side that matches, but whose instance is not less, does not count.
		{"d(d(c))", "d(A)=d(d(A))", "d(c)", 0, 0},
		{"d(d(c))", "d(A)=e(A)|d(A)=A", "d(c)", 1, 1},
		{"d(c)", "d(A)=d(A)|d(c)=e(c)|d(A)=A", "c", 0, 2},
	})
}

func TestStepTermVariables(t *testing.T) {
	checkSteps(t, []stepTest{
		// Variables of the other side that do not occur in the subterm: on one side, and on both.
		{"d(c)", "d(A)=B", "", 0, 0},
		{"d(c)", "B=d(A)", "", 0, 0},
		{"f(b,c)", "f(A,c)=e(B)", "", 0, 0},
		{"e(b)", "f(A,c)=e(B)", "", 0, 0},
		{"f(d(A),b)", "f(d(A),b)=d(B)", "", 0, 0},
		{"f(A,A)", "f(A,A)=B", "", 0, 0},
		{"c", "A=B", "", 0, 0},
		{"d(C)", "A=B", "", 0, 0},
		{"f(d(c),b)", "d(A)=B|d(A)=b", "f(b,b)", 1, 1},
		// They may occur in the subterm, and then remain; but not more often than there.
		{"f(B,B)", "f(A,A)=B", "B", 0, 0},
		{"d(B)", "A=B", "B", 0, 0},
		{"d(A)", "A=B", "A", 0, 0},
		{"f(C,C)", "f(A,A)=B", "", 0, 0},
		{"d(B)", "d(A)=B", "B", 0, 0},
		{"d(d(B))", "d(A)=B", "d(B)", 1, 0},
		{"d(A)", "d(A)=B", "", 0, 0},
		{"f(C,b)", "f(A,B)=d(C)", "d(C)", 0, 0},
		{"f(b,d(C))", "f(A,B)=d(C)", "d(C)", 0, 0},
		{"f(e(B),e(c))", "f(A,e(c))=f(B,B)", "", 0, 0},
		{"f(e(B),e(B))", "f(A,A)=f(B,B)", "f(B,B)", 0, 0},
		{"f(e(B),e(B))", "f(B,B)=f(A,A)", "f(B,B)", 0, 0},
		{"f(e(C),e(C))", "f(B,B)=f(A,A)", "", 0, 0},
		// The variables of a unit have nothing to do with those of the term, and are replaced simultaneously.
		{"f(d(B),A)", "f(d(A),B)=f(A,B)", "f(B,A)", 0, 0},
		{"f(e(B),d(A))", "f(e(A),d(B))=f(d(B),e(A))", "f(d(A),e(B))", 0, 0},
		{"f(B,d(A))", "f(A,d(B))=f(B,A)", "f(A,B)", 0, 0},
		{"f(L,d(d(B)))", "f(B,d(L))=d(L)", "d(d(B))", 0, 0},
		{"f(A,f(B,A))", "f(B,f(A,B))=f(B,A)", "f(A,B)", 0, 0},
		{"d(f(B,A))", "f(A,B)=A", "d(B)", 1, 0},
		// A subterm that is a variable, and a side that is one.
		{"B", "A=b", "", 0, 0},
		{"B", "A=A", "", 0, 0},
		{"B", "B=a", "", 0, 0},
		{"d(B)", "A=b", "b", 0, 0},
		{"f(c,B)", "A=b", "f(b,B)", 1, 0},
		{"c", "A=b", "b", 0, 0},
		{"b", "A=b", "", 0, 0},
		{"a", "A=b", "", 0, 0},
		{"f(b,c)", "A=a", "f(b,a)", 2, 0},
		{"f(b,c)", "b=A", "f(b,b)", 2, 0},
		{"d(a)", "b=A", "b", 0, 0},
	})
}

func TestStepTermOrder(t *testing.T) {
	checkSteps(t, []stepTest{
		// Equal weights.
		{"c", "c=b", "b", 0, 0},
		{"b", "c=b", "", 0, 0},
		{"b", "b=c", "", 0, 0},
		{"e(A)", "e(A)=d(A)", "d(A)", 0, 0},
		{"d(A)", "e(A)=d(A)", "", 0, 0},
		{"f(c,d(b))", "f(A,d(B))=f(B,d(A))", "f(b,d(c))", 0, 0},
		{"f(b,d(c))", "f(A,d(B))=f(B,d(A))", "", 0, 0},
		{"d(d(c))", "d(d(A))=f(A,a)", "", 0, 0},
		{"f(c,a)", "d(d(A))=f(A,a)", "d(d(c))", 0, 0},
		{"f(a,c)", "d(d(A))=f(A,a)", "", 0, 0},
		// Sides that are incomparable, and instances that are not.
		{"f(B,A)", "f(A,B)=f(B,A)", "", 0, 0},
		{"f(d(A),A)", "f(A,B)=f(B,A)", "", 0, 0},
		{"f(d(b),c)", "f(A,B)=f(B,A)", "f(c,d(b))", 0, 0},
		{"f(e(A),d(B))", "f(A,B)=f(B,A)", "f(d(B),e(A))", 0, 0},
		{"f(d(B),e(A))", "f(A,B)=f(B,A)", "", 0, 0},
		{"f(c,b)", "f(A,b)=f(c,A)", "f(b,b)", 0, 0},
		{"f(c,a)", "f(A,b)=f(c,A)", "f(a,b)", 0, 0},
		{"f(c,A)", "f(A,b)=f(c,A)", "", 0, 0},
		{"f(d(a),b)", "f(A,b)=f(c,A)", "f(c,d(a))", 0, 0},
		{"f(d(a),c)", "f(A,A)=d(A)|f(A,c)=d(d(A))", "d(d(d(a)))", 0, 1},
		{"f(d(d(B)),B)", "f(A,B)=f(B,f(B,B))", "", 0, 0},
		{"f(d(d(b)),a)", "f(A,B)=f(B,f(B,B))", "f(a,f(a,a))", 0, 0},
		// Results that are equal to the subterm, greater, or incomparable with it.
		{"c", "c=c", "", 0, 0},
		{"f(d(c),A)", "A=A|d(A)=d(A)|f(A,B)=f(A,B)", "", 0, 0},
		{"b", "b=d(b)", "", 0, 0},
		{"d(b)", "b=d(b)", "b", 0, 0},
		{"f(A,b)", "f(A,b)=f(b,A)", "", 0, 0},
		{"f(A,d(B))", "f(A,d(B))=f(B,d(A))", "", 0, 0},
		{"f(c,A)", "f(c,A)=f(A,A)", "", 0, 0},
		{"f(d(A),B)", "f(d(A),B)=f(B,B)", "", 0, 0},
	})
}

// TestStepTermLong: terms and sides of 40 integers, and instances that would have more.
func TestStepTermLong(t *testing.T) {
	checkSteps(t, []stepTest{
		{many(39) + "c", "c=b", many(39) + "b", 39, 0},
		{many(39) + "b", "c=b", "", 0, 0},
		{many(39) + "b", "d(A)=A", many(38) + "b", 38, 0},
		{many(39) + "A", "c=b|d(A)=A", many(38) + "A", 38, 1},
		{many(39) + "A", "A=" + many(39) + "A", "A", 0, 0},
		{many(39) + "A", many(39) + "A=A", "A", 0, 0},
		{many(39) + "b", many(39) + "A=" + many(39) + "b", "", 0, 0},
		{many(39) + "c", many(39) + "A=" + many(39) + "b", many(39) + "b", 0, 0},
		{many(20) + "c", "A=" + many(39) + "A", "", 0, 0},
		{many(20) + "c", "d(A)=" + many(39) + "A", "", 0, 0},
		{many(20) + "c", "f(A,A)=a|" + many(20) + "A=" + many(21) + "A|e(A)=a", "", 0, 0},
		{"e" + many(38) + "c", "e(A)=f(A,A)", "", 0, 0},
		{"e" + many(38) + "c", "e(A)=f(A,A)|e(A)=A", many(38) + "c", 0, 1},
		{"e" + many(38) + "c", "e(A)=d(A)", many(39) + "c", 0, 0},
		{"e" + many(38) + "c", many(38) + "A=A", "e(c)", 1, 0},
	})
	// All ten units, and all their sides, have 40 integers.
	units := slices.Repeat([]impl.Lit{{Pos: true, L: chain(39, 0), R: chain(39, 1)}}, 9)
	units = append(units, impl.Lit{Pos: true, L: chain(39, -1), R: chain(39, 0)})
	got, at, unit, ok := impl.StepTerm(sampleSign(), chain(39, 2), units)
	if !slices.Equal(got, chain(39, 0)) || at != 0 || unit != 9 || !ok {
		t.Error("StepTerm with long units", got, at, unit, ok)
	}
	got, at, unit, ok = impl.StepTerm(sampleSign(), chain(39, 1), units)
	if !slices.Equal(got, chain(39, 0)) || at != 0 || unit != 0 || !ok {
		t.Error("StepTerm with long units", got, at, unit, ok)
	}
}

func TestNormalTerm(t *testing.T) {
	ten := "d(c)=a|d(b)=c|e(c)=a|e(b)=c|f(A,A)=A|e(e(A))=d(A)|d(d(A))=e(A)|e(a)=a|d(a)=b|e(d(A))=A"
	tests := []struct {
		t, units, want string
		steps          int
	}{
		{"f(d(c),b)", twoUnits, "f(b,b)", 2},
		// No step is possible, or there are no units.
		{"f(b,b)", twoUnits, "f(b,b)", 0},
		{"f(d(c),b)", "", "f(d(c),b)", 0},
		{"A", twoUnits, "A", 0},
		{"f(A,B)", "f(A,B)=f(B,A)", "f(A,B)", 0},
		// Steps at the root, inside, and at the root after those inside.
		{"c", "c=b", "b", 1},
		{"c", "c=b|b=a", "a", 2},
		{"c", "b=a|c=b", "a", 2},
		{"d(d(A))", "d(A)=A", "A", 2},
		{"f(d(c),c)", "d(A)=A|c=b|f(A,A)=A|b=a", "a", 6},
		{"f(c,e(b))", "e(b)=c|f(A,A)=A", "c", 2},
		{"f(d(c),d(e(b)))", "e(b)=c|f(A,A)=A", "d(c)", 2},
		// A step that makes others possible, also inside of its result.
		{"f(c,d(a))", "f(A,d(B))=d(f(B,A))|f(a,A)=A", "d(c)", 2},
		{"e(c)", "e(A)=d(A)|d(c)=a", "a", 2},
		{"f(e(b),d(c))", "f(A,B)=f(B,A)|e(b)=c|d(c)=b", "f(b,c)", 3},
		{"e(e(e(e(b))))", ten, "a", 4},
		// The first of two units decides, and with it the number of steps.
		{"d(c)", "d(A)=c|d(c)=a|c=b", "b", 3},
		{"c", "c=b|c=a|b=a", "a", 2},
		{"c", "c=a|c=b|b=a", "a", 1},
		// Sorting by exchanging neighbours.
		{"f(c,f(b,a))", "f(A,B)=f(B,A)|f(A,f(B,C))=f(B,f(A,C))", "f(a,f(b,c))", 3},
		// Each symbol of a long term.
		{many(39) + "c", twoUnits, "b", 40},
		{many(39) + "B", twoUnits, "B", 39},
		{many(39) + "B", "d(A)=e(A)|e(A)=d(A)", many(39) + "B", 0},
		{strings.Repeat("e", 39) + "c", "d(A)=e(A)|c=b|b=a", many(39) + "a", 41},
	}
	for _, c := range tests {
		got, steps, ok := impl.NormalTerm(sampleSign(), lettersOf(c.t), unitsOf(c.units))
		if !slices.Equal(got, lettersOf(c.want)) || steps != c.steps || !ok {
			t.Errorf("NormalTerm(%s, %s): %v, %d, %v", c.t, c.units, got, steps, ok)
		}
	}
}
