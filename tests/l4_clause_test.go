package tests

import (
	"slices"
	"strings"
	"testing"

	"loop.example/g00682/impl"
)

func TestClauseLimits(t *testing.T) {
	if impl.MaxLits != 8 {
		t.Error("a limit differs from the document")
	}
}

// eightLits has no two equivalent literals.
const eightLits = "A=b|B#b|C=c|D#c|d(A)=b|d(B)#b|e(C)=c|f(E,F)#L"

// longLit has 40 integers in each term.
func longLit() impl.Lit { return impl.Lit{Pos: true, L: chain(39, -1), R: chain(39, 0)} }

// badClauses are no lists of at most 8 literals with valid terms.
func badClauses() [][]impl.Lit {
	good := clause("b=c|d(A)#B")
	bad := [][]impl.Lit{
		clause(eightLits + "|a=a"),
		clause(eightLits + "|A=b"),
		slices.Repeat(clause("b=c"), 9),
		slices.Repeat(clause("b#b"), 9),
		slices.Repeat([]impl.Lit{{}}, 500),
		{{}},
		{{Pos: true}},
		append(clause(eightLits)[:7], impl.Lit{}),
	}
	for _, w := range [][]int{nil, {}, {-13}, {6}, {0, 0}, {3}, {5, -1}, {leastInt}, {greatestInt}, {3, leastInt}, {5, greatestInt, 0}, chain(40, -1), chain(300, 0)} {
		bad = append(bad,
			[]impl.Lit{{Pos: true, L: w, R: []int{0}}},
			[]impl.Lit{{Pos: false, L: []int{0}, R: w}},
			[]impl.Lit{{Pos: false, L: w, R: w}},
			append(slices.Clone(good), impl.Lit{Pos: true, L: []int{1}, R: w}),
			append(slices.Clone(good), impl.Lit{Pos: true, L: w, R: []int{1}}),
			append([]impl.Lit{{Pos: false, L: []int{-1}, R: w}}, good...),
			append(clause(eightLits)[:7], impl.Lit{Pos: true, L: w, R: []int{1}}),
		)
	}
	return bad
}

func badSigns() []impl.Sign {
	return []impl.Sign{
		{}, {Arity: []int{}}, {Arity: []int{1}}, {Arity: []int{0, 0, 0, 1, 1, 4}}, {Arity: []int{0, 0, 0, 1, 1, -1}},
		{Arity: []int{leastInt, 0}}, {Arity: []int{0, greatestInt}}, {Arity: make([]int, 11)}, {Arity: make([]int, 1<<20)},
	}
}

func TestGoodClause(t *testing.T) {
	good := [][]impl.Lit{
		nil,
		{},
		clause("b=c"),
		clause("d(A)=b|c#c|b=d(A)"),
		clause("a#a"),
		clause("L=K"),
		clause(eightLits),
		slices.Repeat(clause("b#b"), 8),
		{longLit()},
		slices.Repeat([]impl.Lit{longLit()}, 8),
	}
	for _, c := range good {
		if !impl.GoodClause(sampleSign(), c) {
			t.Errorf("GoodClause(%v): false", c)
		}
		for _, s := range badSigns() {
			if impl.GoodClause(s, c) {
				t.Errorf("GoodClause(%v) with %d symbols: true", c, len(s.Arity))
			}
		}
	}
	for _, c := range badClauses() {
		if impl.GoodClause(sampleSign(), c) {
			t.Errorf("GoodClause(%v): true", c[:min(len(c), 9)])
		}
	}
	if impl.GoodClause(impl.Sign{Arity: []int{0}}, clause("b=b")) || !impl.GoodClause(impl.Sign{Arity: []int{0}}, clause("a=L")) {
		t.Error("GoodClause with one symbol")
	}
}

func TestVarsIn(t *testing.T) {
	tests := []struct {
		text string
		want []int
	}{
		{"-", nil},
		{"b=c", nil},
		{"d(b)#c|a=a", nil},
		{"A=b", []int{0}},
		{"L#b", []int{11}},
		{"d(C)=B", []int{1, 2}},
		{"B=d(C)", []int{1, 2}},
		// The first variable stands in the second term or in a later literal.
		{"b=A", []int{0}},
		{"b=d(L)", []int{11}},
		{"b=c|b=c|b#e(D)", []int{3}},
		{"b=c|D=c|A=B", []int{0, 1, 3}},
		{"f(L,A)=b|A=L|c#f(K,A)", []int{0, 10, 11}},
		// Variables of literals that TidyClause omits count.
		{"A#A|B=b|b=B", []int{0, 1}},
		{"f(L,f(K,J))=f(I,f(H,G))|f(F,E)#D|C=f(B,A)", []int{0, 1, 2, 3, 4, 5, 6, 7, 8, 9, 10, 11}},
		{eightLits, []int{0, 1, 2, 3, 4, 5, 11}},
	}
	for _, c := range tests {
		if got, ok := impl.VarsIn(sampleSign(), clause(c.text)); !slices.Equal(got, c.want) || !ok {
			t.Errorf("VarsIn(%s): %v, %v", c.text, got, ok)
		}
	}
}

func TestWeightOf(t *testing.T) {
	tests := []struct {
		c    []impl.Lit
		want int
	}{
		{clause("d(A)=b|c#c|b=d(A)"), 8},
		{nil, 0},
		{clause("A=b"), 2},
		// An inequation weighs as much as an equation.
		{clause("A#b"), 2},
		{clause("d(A)#b|c#c"), 5},
		{clause("b=f(A,d(B))"), 5},
		{clause("f(A,d(B))=b"), 5},
		{clause("b=b|b=b"), 4},
		{clause(eightLits), 21},
		{[]impl.Lit{longLit()}, 80},
		{slices.Repeat([]impl.Lit{longLit()}, 8), 640},
	}
	for _, c := range tests {
		if got, ok := impl.WeightOf(sampleSign(), c.c); got != c.want || !ok {
			t.Errorf("WeightOf(%v): %d, %v", c.c, got, ok)
		}
	}
}

func TestApplyClause(t *testing.T) {
	tests := []struct{ text, by, want string }{
		{"d(A)=b", "A=c", "d(c)=b"},
		{"-", "A=c", "-"},
		{"-", "", "-"},
		{"b#c|a=d(b)", everyVar, "b#c|a=d(b)"},
		{"A=B", "", "A=B"},
		{"A#B", "", "A#B"},
		{"L=d(L)", everyVar, "b=d(b)"},
		{"b=A|c#A|A=A", "A=d(B)", "b=d(B)|c#d(B)|d(B)=d(B)"},
		{"C=b|b=C", "A=c B=c", "C=b|b=C"},
		// All variables are replaced simultaneously, and only once.
		{"f(A,B)=B|B#A", "A=B B=A", "f(B,A)=A|A#B"},
		{"A=B|B=C", "A=B B=C C=A", "B=C|C=A"},
		{"A=d(A)", "A=d(A)", "d(A)=d(d(A))"},
		{"A=b", "A=A", "A=b"},
		// Literals that become equivalent or trivial, and tautologies, remain.
		{"A#B|A=B|B=A", "A=b B=b", "b#b|b=b|b=b"},
		{"A=b|B=b", "A=B", "B=b|B=b"},
		{"A=c|b#c", "A=b", "b=c|b#c"},
		{eightLits, "A=K L=a", "K=b|B#b|C=c|D#c|d(K)=b|d(B)#b|e(C)=c|f(E,F)#a"},
	}
	for _, c := range tests {
		if got, ok := impl.ApplyClause(sampleSign(), subst(c.by), clause(c.text)); !sameClauses(got, clause(c.want)) || !ok {
			t.Errorf("ApplyClause(%s, %s): %v, %v", c.by, c.text, got, ok)
		}
	}
}

// TestApplyClauseLong: an instance may have terms of 40 integers, but none of 41.
func TestApplyClauseLong(t *testing.T) {
	by := subst("A=d(A) B=d(d(B))")
	literal := func(l, r []int) impl.Lit { return impl.Lit{Pos: true, L: l, R: r} }
	tests := []struct {
		c, want []impl.Lit
	}{
		{[]impl.Lit{literal(chain(38, -1), []int{1})}, []impl.Lit{literal(chain(39, -1), []int{1})}},
		{[]impl.Lit{literal([]int{1}, chain(37, -2))}, []impl.Lit{literal([]int{1}, chain(39, -2))}},
		{[]impl.Lit{literal(chain(39, -1), []int{1})}, nil},
		{[]impl.Lit{literal([]int{1}, chain(39, -1))}, nil},
		{[]impl.Lit{literal([]int{1}, chain(38, -2))}, nil},
		{[]impl.Lit{literal(chain(39, 1), chain(39, -3))}, []impl.Lit{literal(chain(39, 1), chain(39, -3))}},
		{append(clause("b=c|A=A|A#B"), literal([]int{1}, chain(39, -1))), nil},
		{append([]impl.Lit{literal(chain(38, -2), []int{1})}, clause("b=c")...), nil},
		// A literal that is trivial, or equivalent to another one, counts too.
		{[]impl.Lit{{Pos: false, L: chain(39, -1), R: chain(39, -1)}}, nil},
		{append(clause(eightLits)[:7], literal(chain(39, -1), chain(39, -1))), nil},
	}
	for i, c := range tests {
		got, ok := impl.ApplyClause(sampleSign(), by, c.c)
		if !sameClauses(got, c.want) || ok != (c.want != nil) {
			t.Errorf("ApplyClause, line %d: %v, %v", i, got, ok)
		}
	}
}

func TestRenameClause(t *testing.T) {
	tests := []struct{ text, want string }{
		{"d(C)=B", "d(A)=B"},
		{"-", "-"},
		{"b=c", "b=c"},
		{"A=B", "A=B"},
		{"B=A", "A=B"},
		{"B#A", "A#B"},
		{"L=L", "A=A"},
		// The first variable stands in the second term or in a later literal.
		{"b=C", "b=A"},
		{"b=f(C,B)|B#C", "b=f(A,B)|B#A"},
		{"b=c|c#b|a=d(L)|K=L", "b=c|c#b|a=d(A)|B=A"},
		{"b=B|A=b", "b=A|B=b"},
		// Nothing is omitted, and no literal is turned round.
		{"C#C|B=A|A=B", "A#A|B=C|C=B"},
		{"D=d(C)|d(C)=D|C#D", "A=d(B)|d(B)=A|B#A"},
		{"L=K|J=I|H=G|F#E|D#C|B#A", "A=B|C=D|E=F|G#H|I#J|K#L"},
		{"A=B|C=D|E=F|G#H|I#J|K#L|A=L", "A=B|C=D|E=F|G#H|I#J|K#L|A=L"},
		{eightLits, "A=b|B#b|C=c|D#c|d(A)=b|d(B)#b|e(C)=c|f(E,F)#G"},
	}
	for _, c := range tests {
		if got, ok := impl.RenameClause(sampleSign(), clause(c.text)); !sameClauses(got, clause(c.want)) || !ok {
			t.Errorf("RenameClause(%s): %v, %v", c.text, got, ok)
		}
	}
}

func TestTidyClause(t *testing.T) {
	tests := []struct{ text, want string }{
		{"d(A)=b|c#c|b=d(A)", "d(A)=b"},
		{"-", "-"},
		{"b=c", "b=c"},
		{"A#B", "A#B"},
		// Equal literals, and literals that are equal when their terms are exchanged: the first one remains as it is.
		{"b=c|b=c", "b=c"},
		{"b=c|c=b", "b=c"},
		{"c=b|b=c", "c=b"},
		{"b#c|c#b|b#c", "b#c"},
		{"f(A,B)=d(A)|d(A)=f(A,B)|B=A|A=B", "f(A,B)=d(A)|B=A"},
		// Literals that differ in their sign remain, also if the terms are exchanged.
		{"b=c|b#c", "b=c|b#c"},
		{"b#c|b=c", "b#c|b=c"},
		{"b=c|c#b", "b=c|c#b"},
		{"b#c|c=b|b=c|c#b", "b#c|c=b"},
		// Inequations whose terms are equal; equations whose terms are equal remain.
		{"b#b", "-"},
		{"A#A|d(A)#d(A)|b#b", "-"},
		{"A#A|A#A|A#A|A#A|A#A|A#A|A#A|A#A", "-"},
		{"b=b", "b=b"},
		{"b=b|b#b|b=b", "b=b"},
		{"A=A|b=b|A=A", "A=A|b=b"},
		{"d(A)#d(B)|d(A)#d(A)", "d(A)#d(B)"},
		// Other literals keep their order, and are not equal up to the names of their variables only.
		{"c=b|A=b|b=a|a#c|b=A|c#a|b=c", "c=b|A=b|b=a|a#c"},
		{"A=b|B=b", "A=b|B=b"},
		{"d(A)=B|d(B)=A", "d(A)=B|d(B)=A"},
		{"d(A)=e(A)|d(A)=d(A)|e(A)=e(A)", "d(A)=e(A)|d(A)=d(A)|e(A)=e(A)"},
		{"f(b,c)=a|f(c,b)=a", "f(b,c)=a|f(c,b)=a"},
		// Terms that are alike when they are written one behind the other.
		{"f(b,c)=b|f(b,b)=c|b=f(c,b)", "f(b,c)=b|f(b,b)=c|b=f(c,b)"},
		{"d(d(b))=b|d(b)=d(b)", "d(d(b))=b|d(b)=d(b)"},
		{eightLits, eightLits},
		{"b=c|b=c|b=c|b=c|c=b|c=b|c=b|c=b", "b=c"},
		{"a=b|A#A|b=a|c=b|c#c|a=c|b=c|c=a", "a=b|c=b|a=c"},
	}
	for _, c := range tests {
		if got, ok := impl.TidyClause(sampleSign(), clause(c.text)); !sameClauses(got, clause(c.want)) || !ok {
			t.Errorf("TidyClause(%s): %v, %v", c.text, got, ok)
		}
	}
	long := longLit()
	turned := impl.Lit{Pos: true, L: long.R, R: long.L}
	same := impl.Lit{Pos: false, L: long.L, R: long.L}
	other := impl.Lit{Pos: true, L: long.L, R: chain(39, 1)}
	if got, ok := impl.TidyClause(sampleSign(), []impl.Lit{same, turned, long, other}); !sameClauses(got, []impl.Lit{turned, other}) || !ok {
		t.Errorf("TidyClause with long terms: %v, %v", got, ok)
	}
}

func TestIsTautology(t *testing.T) {
	tests := []struct {
		text string
		want bool
	}{
		{"b=c|c#b", true},
		{"-", false},
		{"b=c", false},
		{"b#c", false},
		// An equation whose terms are equal.
		{"b=b", true},
		{"A=A", true},
		{"b=c|d(A)=d(A)", true},
		{"b#c|A#B|f(A,B)=f(A,B)", true},
		{"b#b", false},
		{"A#A|b=c", false},
		{"A=B", false},
		{"d(A)=d(B)", false},
		{"f(b,c)=f(c,b)", false},
		// An equation and an inequation of the same terms.
		{"b=c|b#c", true},
		{"b#c|b=c", true},
		{"b#c|c=b", true},
		{"b#b|b=b", true},
		{"A=b|b=c|c=a|a#b|b#A", true},
		{"b#A|c=b|c=a|A=b", true},
		{"b=c|c=b", false},
		{"b#c|c#b", false},
		{"A=b|B#b", false},
		{"A=B|A#C", false},
		{"b=c|b#a", false},
		{"b=c|a#c", false},
		{"b=c|b#b|c#c", false},
		{"d(A)=b|e(A)#b", false},
		{"f(b,c)=b|f(b,b)#c", false},
		// Clauses that hold in every world, but are no tautologies in this sense.
		{"A#B|B#C|A=C", false},
		{"A#B|d(A)=d(B)", false},
		{eightLits, false},
		{"A=b|B#b|C=c|D#c|d(A)=b|d(B)#b|e(C)=c|c#C", true},
	}
	for _, c := range tests {
		if got, ok := impl.IsTautology(sampleSign(), clause(c.text)); got != c.want || !ok {
			t.Errorf("IsTautology(%s): %v, %v", c.text, got, ok)
		}
	}
	long := longLit()
	if got, ok := impl.IsTautology(sampleSign(), []impl.Lit{long, {Pos: false, L: long.R, R: long.L}}); !got || !ok {
		t.Errorf("IsTautology with long terms: %v, %v", got, ok)
	}
	if got, ok := impl.IsTautology(sampleSign(), []impl.Lit{long, {Pos: false, L: long.L, R: chain(39, 1)}}); got || !ok {
		t.Errorf("IsTautology with long terms: %v, %v", got, ok)
	}
}

func TestCompareLits(t *testing.T) {
	tests := []struct {
		a, b string
		want int
	}{
		{"b#c", "b=c", 1},
		// Literals that are equivalent.
		{"b=c", "b=c", 0},
		{"b=c", "c=b", 0},
		{"b#c", "c#b", 0},
		{"A=B", "B=A", 0},
		{"A#d(B)", "d(B)#A", 0},
		{"b=b", "b=b", 0},
		{"A#A", "A#A", 0},
		// Literals that differ in their sign only.
		{"c#b", "b=c", 1},
		{"b#b", "b=b", 1},
		{"A#B", "A=B", 1},
		{"A#B", "B=A", 1},
		{"f(A,B)#A", "f(A,B)=A", 1},
		// An inequation counts its terms twice.
		{"c#a", "c=b", 1},
		{"c#a", "c=c", 1},
		{"c#c", "c=b", 1},
		{"b#a", "c=a", -1},
		{"b#b", "c=a", -1},
		{"b#b", "c=c", -1},
		{"A#A", "d(A)=A", -1},
		{"A#A", "A=A", 1},
		{"A#b", "A=c", 2},
		{"A#b", "A=b", 1},
		{"A#c", "A=b", 1},
		{"d(A)#b", "d(A)=A", 1},
		{"b#c", "b=A", 2},
		{"d(A)#A", "d(A)=b", 1},
		{"d(A)#A", "e(A)=A", -1},
		{"A#B", "A=A", 1},
		{"A#B", "A=C", 2},
		{"b#c", "b#a", 1},
		{"b#a", "c#a", -1},
		{"c#b", "c#c", -1},
		// Equations.
		{"c=b", "b=b", 1},
		{"c=a", "b=b", 1},
		{"c=a", "c=b", -1},
		{"d(A)=b", "A=c", 1},
		{"d(A)=A", "d(B)=B", 2},
		{"f(A,B)=A", "d(A)=A", 1},
		{"f(A,B)=b", "A=B", 1},
		{"f(A,B)=A", "d(C)=b", 2},
		{"A=b", "B=b", 2},
		{"A=b", "b=b", 2},
		{"d(A)=b", "A=d(b)", 2},
		{"d(A)=d(b)", "A=b", 1},
		{"d(A)=d(B)", "A=B", 1},
		{"d(d(b))=b", "d(d(c))=a", -1},
		{"A=c", "b=A", 1},
		{"e(A)=B", "B=d(A)", 1},
	}
	for _, c := range tests {
		a, b := clause(c.a)[0], clause(c.b)[0]
		if got, ok := impl.CompareLits(sampleSign(), a, b); got != c.want || !ok {
			t.Errorf("CompareLits(%s, %s): %d, %v", c.a, c.b, got, ok)
		}
		if got, ok := impl.CompareLits(sampleSign(), b, a); got != converse(c.want) || !ok {
			t.Errorf("CompareLits(%s, %s): %d, %v", c.b, c.a, got, ok)
		}
	}
	other := impl.Lit{Pos: true, L: chain(38, 2), R: chain(39, -1)}
	if got, ok := impl.CompareLits(sampleSign(), longLit(), other); got != 1 || !ok {
		t.Errorf("CompareLits with long terms: %d, %v", got, ok)
	}
}

func TestMaximalIn(t *testing.T) {
	tests := []struct {
		text string
		want []int
	}{
		{"b=a|d(b)=a|c=a", []int{1}},
		{"-", nil},
		{"b=c", []int{0}},
		{"A#A", []int{0}},
		{"b=a|c=a", []int{1}},
		{"c=a|b=a", []int{0}},
		// Several maximal literals: equivalent ones and incomparable ones.
		{"b=c|b=c", []int{0, 1}},
		{"b=c|c=b", []int{0, 1}},
		{"a=a|b=c|c=b|b=c", []int{1, 2, 3}},
		{"b#b|b#b|b#b|b#b|b#b|b#b|b#b|b#b", []int{0, 1, 2, 3, 4, 5, 6, 7}},
		{"A=b|B=b", []int{0, 1}},
		{"A=b|B=b|d(A)=b", []int{1, 2}},
		{"f(A,B)=A|d(C)=b|d(A)=b", []int{0, 1}},
		{"d(A)=B|d(B)=A", []int{0, 1}},
		{"A=a|B=a|C=a|D=a|E=a|F=a|G=a|H=a", []int{0, 1, 2, 3, 4, 5, 6, 7}},
		{"A=a|f(A,f(B,C))=a|B=a|D=a|C=a", []int{1, 3}},
		// Literals that differ in their sign only.
		{"b=c|b#c", []int{1}},
		{"c#b|b=c", []int{0}},
		{"A=B|B#A|A=B", []int{1}},
		{"c#a|c=b", []int{0}},
		{"b#b|c=a", []int{1}},
		{"d(A)#b|d(A)=A", []int{0}},
		{"b#c|b=A", []int{0, 1}},
		{"a=b|b#c|A=c|d(A)=b|d(b)=c|b#c", []int{3, 4}},
		{eightLits, []int{3, 4, 5, 6, 7}},
	}
	for _, c := range tests {
		if got, ok := impl.MaximalIn(sampleSign(), clause(c.text)); !slices.Equal(got, c.want) || !ok {
			t.Errorf("MaximalIn(%s): %v, %v", c.text, got, ok)
		}
	}
}

func TestClauseText(t *testing.T) {
	texts := []string{
		"d(A)=b|c#c|b=d(A)", "-", "a=a", "A#L", "f(d(A),b)=c", "c#f(d(A),b)", "b=c|b=c", "b#c|c#b", "L=e(f(K,a))|a#a|d(J)=J", eightLits,
	}
	for _, text := range texts {
		if got, ok := impl.ClauseText(sampleSign(), clause(text)); got != text || !ok {
			t.Errorf("ClauseText(%s): %q, %v", text, got, ok)
		}
	}
	if got, ok := impl.ClauseText(sampleSign(), []impl.Lit{}); got != "-" || !ok {
		t.Errorf("ClauseText of an empty clause: %q, %v", got, ok)
	}
	// The text may be longer than one that ReadClause parses.
	long := strings.Repeat("d(", 39)
	closed := strings.Repeat(")", 39)
	want := strings.Repeat("|"+long+"A"+closed+"="+long+"a"+closed, 8)[1:]
	if got, ok := impl.ClauseText(sampleSign(), slices.Repeat([]impl.Lit{longLit()}, 8)); got != want || len(got) != 1903 || !ok {
		t.Errorf("ClauseText of a long clause: %q, %v", got, ok)
	}
}

// clauseCalls are the functions of chapter 4 with one clause; each reports whether it succeeds and whether its other
// result is a zero value.
func clauseCalls() map[string]func(s impl.Sign, c []impl.Lit) (ok, zero bool) {
	return map[string]func(s impl.Sign, c []impl.Lit) (ok, zero bool){
		"VarsIn": func(s impl.Sign, c []impl.Lit) (bool, bool) { l, ok := impl.VarsIn(s, c); return ok, len(l) == 0 },
		"ApplyClause": func(s impl.Sign, c []impl.Lit) (bool, bool) {
			d, ok := impl.ApplyClause(s, make([][]int, 12), c)
			return ok, len(d) == 0
		},
		"RenameClause": func(s impl.Sign, c []impl.Lit) (bool, bool) { d, ok := impl.RenameClause(s, c); return ok, len(d) == 0 },
		"TidyClause":   func(s impl.Sign, c []impl.Lit) (bool, bool) { d, ok := impl.TidyClause(s, c); return ok, len(d) == 0 },
		"IsTautology":  func(s impl.Sign, c []impl.Lit) (bool, bool) { is, ok := impl.IsTautology(s, c); return ok, !is },
		"WeightOf":     func(s impl.Sign, c []impl.Lit) (bool, bool) { n, ok := impl.WeightOf(s, c); return ok, n == 0 },
		"MaximalIn":    func(s impl.Sign, c []impl.Lit) (bool, bool) { l, ok := impl.MaximalIn(s, c); return ok, len(l) == 0 },
		"ClauseText":   func(s impl.Sign, c []impl.Lit) (bool, bool) { text, ok := impl.ClauseText(s, c); return ok, text == "" },
	}
}

func TestClauseInvalid(t *testing.T) {
	for name, call := range clauseCalls() {
		for _, c := range badClauses() {
			if ok, zero := call(sampleSign(), c); ok || !zero {
				t.Errorf("%s of %v: succeeds %v, zero value %v", name, c[:min(len(c), 9)], ok, zero)
			}
		}
		for _, s := range badSigns() {
			for _, text := range []string{"-", "A=A", "A#B", "a=a|b=c", eightLits} {
				if ok, zero := call(s, clause(text)); ok || !zero {
					t.Errorf("%s of %s with %d symbols: succeeds %v, zero value %v", name, text, len(s.Arity), ok, zero)
				}
			}
		}
		for _, text := range []string{"-", "a=a", "A#B", eightLits} {
			if ok, _ := call(sampleSign(), clause(text)); !ok {
				t.Errorf("%s of %s fails", name, text)
			}
		}
	}
}

func TestCompareLitsInvalid(t *testing.T) {
	good := clause("d(A)#b")[0]
	for _, c := range badClauses() {
		for _, bad := range c {
			if impl.GoodClause(sampleSign(), []impl.Lit{bad}) {
				continue
			}
			for _, pair := range [][]impl.Lit{{bad, good}, {good, bad}, {bad, bad}} {
				if got, ok := impl.CompareLits(sampleSign(), pair[0], pair[1]); got != 0 || ok {
					t.Errorf("CompareLits(%v, %v): %d, %v", pair[0], pair[1], got, ok)
				}
			}
		}
	}
	for _, s := range badSigns() {
		for _, text := range []string{"A=B|A#B", "a=a|a=a", "d(b)=c|b=c"} {
			if got, ok := impl.CompareLits(s, clause(text)[0], clause(text)[1]); got != 0 || ok {
				t.Errorf("CompareLits(%s) with %d symbols: %d, %v", text, len(s.Arity), got, ok)
			}
		}
	}
}

func TestApplyClauseInvalid(t *testing.T) {
	row := func(v int, w []int) [][]int {
		b := make([][]int, 12)
		b[v] = w
		return b
	}
	bad := [][][]int{
		nil, {}, make([][]int, 11), make([][]int, 13), make([][]int, 1<<20), subst(everyVar)[:11], append(subst(everyVar), nil),
		row(0, []int{-13}), row(11, []int{6}), row(11, []int{0, 0}), row(5, []int{3}), row(0, []int{5, -1}), row(0, []int{leastInt}),
		row(0, []int{greatestInt}), row(0, chain(40, -1)), row(11, chain(300, 0)),
	}
	for _, b := range bad {
		for _, text := range []string{"-", "b=c", "A=B", "d(L)#c|B=b"} {
			if got, ok := impl.ApplyClause(sampleSign(), b, clause(text)); len(got) != 0 || ok {
				t.Errorf("ApplyClause(%v, %s): %v, %v", b[:min(len(b), 13)], text, got, ok)
			}
		}
	}
	if got, ok := impl.ApplyClause(impl.Sign{Arity: []int{0}}, subst("A=b"), nil); len(got) != 0 || ok {
		t.Errorf("ApplyClause with a term of another signature: %v, %v", got, ok)
	}
}
