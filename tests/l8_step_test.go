package tests

import (
	"slices"
	"testing"

	"loop.example/g00682/impl"
)

// exampleInputs are those of the document's examples for chapter 8.
func exampleInputs() [][]impl.Lit { return clauses("d(A)=b d(c)#b") }

// stepInputs and stepClauses are the inputs and the clauses of the steps for most tests of MakeStep.
func stepInputs() [][]impl.Lit {
	return clauses("d(A)=b d(c)#b C#C|e(D)=B|B=e(D)|L#a - b=b L=K " + eightLits)
}

func stepClauses() [][]impl.Lit {
	return clauses(`
		d(A)=b
		d(c)#b
		d(A)#d(b)|A=c
		d(A)=b|d(c)=a
		c=b
		e(d(c))=c
		-
		A#b|a=c|b#b
		c=b|c=b|d(A)=a
		d(L)=b
		d(e(C))#b|L=e(c)
		A#a|f(B,B)=c|f(d(A),C)=b
	` + many(39) + "A=b A=b|f(A,A)=c")
}

// makeTest is a call of MakeStep that succeeds, with the clause, or fails, with "no".
type makeTest struct {
	rule         int
	parents, way []int
	want         string
}

func checkMakeStep(t *testing.T, inputs [][]impl.Lit, steps []impl.Step, tests []makeTest) {
	t.Helper()
	for _, c := range tests {
		var want impl.Step
		if c.want != "no" {
			want = impl.Step{Rule: c.rule, Parents: c.parents, Way: c.way, Clause: clause(c.want)}
		}
		got, ok := impl.MakeStep(sampleSign(), inputs, steps, c.rule, c.parents, c.way)
		if !sameStep(got, want) || ok != (c.want != "no") {
			t.Errorf("MakeStep(%d, %v, %v): %v, %v", c.rule, c.parents, c.way, got, ok)
		}
	}
}

func TestMakeStepExamples(t *testing.T) {
	steps := stepsOf(exampleInputs())
	checkMakeStep(t, exampleInputs(), steps, []makeTest{
		{impl.StInput, nil, []int{0}, "d(A)=b"},
		{impl.StInput, nil, []int{1}, "d(c)#b"},
		{impl.StNormal, []int{1, 0}, nil, "-"},
		{impl.StNormal, []int{1}, nil, "d(c)#b"},
		{impl.StNormal, []int{1, 1}, nil, "no"},
		{impl.StResolve, []int{0}, []int{0}, "no"},
	})
}

func TestMakeStepInput(t *testing.T) {
	checkMakeStep(t, stepInputs(), stepsOf(stepClauses()), []makeTest{
		{1, nil, []int{0}, "d(A)=b"},
		{1, nil, []int{1}, "d(c)#b"},
		{1, []int{}, []int{2}, "e(A)=B|C#a"},
		{1, nil, []int{3}, "-"},
		{1, nil, []int{4}, "b=b"},
		{1, nil, []int{5}, "A=B"},
		{1, nil, []int{6}, "A=b|B#b|C=c|D#c|d(A)=b|d(B)#b|e(C)=c|f(E,F)#G"},
		// Inputs that do not exist.
		{1, nil, []int{7}, "no"},
		{1, nil, []int{12}, "no"},
		{1, nil, []int{-1}, "no"},
		{1, nil, []int{1 << 32}, "no"},
		{1, nil, []int{greatestInt}, "no"},
		{1, nil, []int{leastInt}, "no"},
		// Too many parents, and ways that are too short or too long.
		{1, []int{0}, []int{0}, "no"},
		{1, []int{0, 1}, []int{0}, "no"},
		{1, nil, nil, "no"},
		{1, nil, []int{0, 0}, "no"},
		{1, nil, []int{0, 0, 0, 0, 0}, "no"},
	})
	checkMakeStep(t, nil, stepsOf(stepClauses()), []makeTest{{1, nil, []int{0}, "no"}, {5, []int{0}, nil, "d(A)=b"}})
	checkMakeStep(t, stepInputs(), nil, []makeTest{{1, nil, []int{0}, "d(A)=b"}, {5, []int{0}, nil, "no"}, {3, []int{0}, []int{0}, "no"}})
}

func TestMakeStepSuper(t *testing.T) {
	checkMakeStep(t, stepInputs(), stepsOf(stepClauses()), []makeTest{
		{2, []int{0, 5}, []int{0, 0, 0, 0, 1}, "e(b)=c"},
		{2, []int{4, 5}, []int{0, 0, 0, 0, 2}, "e(d(b))=c"},
		{2, []int{0, 1}, []int{0, 0, 0, 0, 0}, "-"},
		{2, []int{3, 1}, []int{0, 0, 0, 0, 0}, "d(c)=a"},
		{2, []int{3, 1}, []int{1, 0, 0, 0, 0}, "d(A)=b|a#b"},
		{2, []int{0, 2}, []int{0, 0, 0, 1, 0}, "d(A)#b|A=c"},
		// A clause with itself.
		{2, []int{0, 0}, []int{0, 0, 0, 0, 0}, "b=b"},
		{2, []int{4, 4}, []int{0, 0, 0, 0, 0}, "b=b"},
		// Against the ordering restrictions.
		{2, []int{4, 5}, []int{0, 0, 0, 1, 0}, "e(d(c))=b"},
		{2, []int{4, 4}, []int{0, 1, 0, 1, 0}, "c=c"},
		{2, []int{4, 0}, []int{0, 1, 0, 1, 0}, "d(A)=c"},
		{2, []int{5, 4}, []int{0, 1, 0, 0, 0}, "e(d(c))=b"},
		// No conclusion: InNone, InVars, InApart and InBig.
		{2, []int{5, 0}, []int{0, 0, 0, 0, 1}, "no"},
		{2, []int{1, 5}, []int{0, 0, 0, 0, 1}, "no"},
		{2, []int{6, 5}, []int{0, 0, 0, 0, 1}, "no"},
		{2, []int{0, 6}, []int{0, 0, 0, 0, 0}, "no"},
		{2, []int{0, 5}, []int{1, 0, 0, 0, 1}, "no"},
		{2, []int{0, 5}, []int{-1, 0, 0, 0, 1}, "no"},
		{2, []int{0, 5}, []int{0, 2, 0, 0, 1}, "no"},
		{2, []int{0, 5}, []int{0, 0, 1, 0, 1}, "no"},
		{2, []int{0, 5}, []int{0, 0, 0, 2, 1}, "no"},
		{2, []int{0, 5}, []int{0, 0, 0, 0, 3}, "no"},
		{2, []int{0, 5}, []int{0, 0, 0, 0, -1}, "no"},
		{2, []int{0, 5}, []int{0, 0, 0, 0, greatestInt}, "no"},
		{2, []int{0, 5}, []int{leastInt, leastInt, leastInt, leastInt, leastInt}, "no"},
		{2, []int{9, 0}, []int{0, 0, 0, 0, 0}, "no"},
		{2, []int{0, 10}, []int{0, 0, 0, 0, 0}, "no"},
		{2, []int{0, 5}, []int{0, 0, 0, 0, 0}, "no"},
		{2, []int{4, 12}, []int{0, 0, 0, 0, 39}, "no"},
		{2, []int{13, 12}, []int{0, 0, 0, 0, 0}, "no"},
		// Too few and too many parents, and parents that are no steps.
		{2, nil, []int{0, 0, 0, 0, 1}, "no"},
		{2, []int{0}, []int{0, 0, 0, 0, 1}, "no"},
		{2, []int{0, 5, 5}, []int{0, 0, 0, 0, 1}, "no"},
		{2, []int{0, 5, 4, 0}, []int{0, 0, 0, 0, 1}, "no"},
		{2, []int{0, 14}, []int{0, 0, 0, 0, 1}, "no"},
		{2, []int{14, 5}, []int{0, 0, 0, 0, 1}, "no"},
		{2, []int{-1, 5}, []int{0, 0, 0, 0, 1}, "no"},
		{2, []int{0, greatestInt}, []int{0, 0, 0, 0, 1}, "no"},
		{2, []int{leastInt, 5}, []int{0, 0, 0, 0, 1}, "no"},
		// Ways that are too short or too long.
		{2, []int{0, 1}, nil, "no"},
		{2, []int{0, 1}, []int{0}, "no"},
		{2, []int{0, 1}, []int{0, 0, 0, 0}, "no"},
		{2, []int{0, 1}, []int{0, 0, 0, 0, 0, 0}, "no"},
	})
}

func TestMakeStepResolve(t *testing.T) {
	checkMakeStep(t, stepInputs(), stepsOf(stepClauses()), []makeTest{
		{3, []int{2}, []int{0}, "b=c"},
		{3, []int{11}, []int{0}, "f(A,A)=c|f(d(a),B)=b"},
		{3, []int{7}, []int{0}, "a=c"},
		{3, []int{7}, []int{2}, "A#b|a=c"},
		// No conclusion: InNone and InApart.
		{3, []int{0}, []int{0}, "no"},
		{3, []int{1}, []int{0}, "no"},
		{3, []int{6}, []int{0}, "no"},
		{3, []int{7}, []int{1}, "no"},
		{3, []int{2}, []int{2}, "no"},
		{3, []int{2}, []int{-1}, "no"},
		{3, []int{2}, []int{greatestInt}, "no"},
		{3, []int{2}, []int{leastInt}, "no"},
		// Parents and ways that do not fit.
		{3, nil, []int{0}, "no"},
		{3, []int{2, 2}, []int{0}, "no"},
		{3, []int{2, 0}, []int{0}, "no"},
		{3, []int{14}, []int{0}, "no"},
		{3, []int{-1}, []int{0}, "no"},
		{3, []int{greatestInt}, []int{0}, "no"},
		{3, []int{leastInt}, []int{0}, "no"},
		{3, []int{2}, nil, "no"},
		{3, []int{2}, []int{0, 0}, "no"},
		{3, []int{2}, []int{0, 0, 0, 0}, "no"},
	})
	// InBig: the other literal is too long.
	big := stepsOf(clauses("A#" + many(39) + "b|d(A)=b"))
	checkMakeStep(t, nil, big, []makeTest{{3, []int{0}, []int{0}, "no"}})
}

func TestMakeStepFactor(t *testing.T) {
	checkMakeStep(t, stepInputs(), stepsOf(stepClauses()), []makeTest{
		{4, []int{3}, []int{0, 0, 1, 0}, "b#a|d(c)=a"},
		{4, []int{3}, []int{1, 0, 0, 0}, "d(c)=b|a#b"},
		// Against the ordering restrictions.
		{4, []int{8}, []int{0, 0, 1, 0}, "c=b|d(A)=a"},
		{4, []int{8}, []int{0, 1, 1, 1}, "c=b|d(A)=a"},
		// No conclusion: InNone and InApart.
		{4, []int{0}, []int{0, 0, 0, 1}, "no"},
		{4, []int{3}, []int{0, 0, 0, 0}, "no"},
		{4, []int{3}, []int{0, 0, 2, 0}, "no"},
		{4, []int{3}, []int{-1, 0, 1, 0}, "no"},
		{4, []int{3}, []int{0, 2, 1, 0}, "no"},
		{4, []int{3}, []int{0, 0, 1, -1}, "no"},
		{4, []int{3}, []int{greatestInt, 0, 1, 0}, "no"},
		{4, []int{3}, []int{0, 0, leastInt, 0}, "no"},
		{4, []int{3}, []int{0, 1, 1, 1}, "no"},
		{4, []int{7}, []int{1, 0, 2, 0}, "no"},
		{4, []int{6}, []int{0, 0, 1, 0}, "no"},
		// Parents and ways that do not fit: At is never a part of the way, whatever it is.
		{4, nil, []int{0, 0, 1, 0}, "no"},
		{4, []int{3, 3}, []int{0, 0, 1, 0}, "no"},
		{4, []int{14}, []int{0, 0, 1, 0}, "no"},
		{4, []int{-1}, []int{0, 0, 1, 0}, "no"},
		{4, []int{greatestInt}, []int{0, 0, 1, 0}, "no"},
		{4, []int{leastInt}, []int{0, 0, 1, 0}, "no"},
		{4, []int{3}, nil, "no"},
		{4, []int{3}, []int{0, 0, 1}, "no"},
		{4, []int{3}, []int{0, 0, 1, 0, 0}, "no"},
		{4, []int{3}, []int{0, 0, 1, 0, 1}, "no"},
		{4, []int{3}, []int{0, 0, 1, 0, 0, 0}, "no"},
	})
	// InBig: the other literal is too long.
	big := stepsOf(clauses("A=a|" + many(39) + "b=c|f(A,A)#a"))
	checkMakeStep(t, nil, big, []makeTest{{4, []int{0}, []int{0, 0, 1, 0}, "no"}})
}

func TestMakeStepNormal(t *testing.T) {
	checkMakeStep(t, stepInputs(), stepsOf(stepClauses()), []makeTest{
		// One parent: RenameClause of TidyClause.
		{5, []int{0}, nil, "d(A)=b"},
		{5, []int{6}, nil, "-"},
		{5, []int{7}, nil, "A#b|a=c"},
		{5, []int{8}, nil, "c=b|d(A)=a"},
		{5, []int{10}, nil, "d(e(A))#b|B=e(c)"},
		// Others that rewrite the first one, or do not.
		{5, []int{1, 0}, nil, "-"},
		{5, []int{5, 0}, nil, "e(b)=c"},
		{5, []int{5, 4}, nil, "e(d(b))=b"},
		{5, []int{5, 0, 4}, nil, "e(b)=b"},
		{5, []int{5, 4, 0}, nil, "e(b)=b"},
		{5, []int{2, 0}, []int{}, "A=c"},
		{5, []int{3, 0}, nil, "b=b|b=a"},
		{5, []int{6, 0}, nil, "-"},
		{5, []int{1, 5}, nil, "d(c)#b"},
		{5, []int{10, 9}, nil, "A=e(c)"},
		// The first parent, or another one, several times.
		{5, []int{0, 0}, nil, "b=b"},
		{5, []int{4, 4}, nil, "b=b"},
		{5, []int{4, 0, 4, 4}, nil, "b=b"},
		{5, []int{5, 4, 4, 4}, nil, "e(d(b))=b"},
		// Others that are no single equation: an inequation, several literals, and none.
		{5, []int{1, 1}, nil, "no"},
		{5, []int{5, 1}, nil, "no"},
		{5, []int{5, 3}, nil, "no"},
		{5, []int{5, 8}, nil, "no"},
		{5, []int{5, 6}, nil, "no"},
		{5, []int{6, 6}, nil, "no"},
		{5, []int{5, 0, 4, 2}, nil, "no"},
		{5, []int{5, 2, 0, 4}, nil, "no"},
		// Ten others, and eleven.
		{5, []int{5, 4, 4, 4, 4, 4, 4, 4, 4, 4, 0}, nil, "e(b)=b"},
		{5, []int{5, 4, 4, 4, 4, 4, 4, 4, 4, 4, 1}, nil, "no"},
		{5, []int{5, 4, 4, 4, 4, 4, 4, 4, 4, 4, 4, 0}, nil, "no"},
		{5, []int{5, 4, 4, 4, 4, 4, 4, 4, 4, 4, 4, 0, 0}, nil, "no"},
		// No parent, parents that are no steps, and a way.
		{5, nil, nil, "no"},
		{5, []int{14}, nil, "no"},
		{5, []int{-1}, nil, "no"},
		{5, []int{5, 14}, nil, "no"},
		{5, []int{5, 0, -1}, nil, "no"},
		{5, []int{5, greatestInt}, nil, "no"},
		{5, []int{leastInt, 0}, nil, "no"},
		{5, []int{5}, []int{0}, "no"},
		{5, []int{5, 0}, []int{0, 0, 0, 0, 0}, "no"},
	})
}

// TestMakeStepMost: more steps of rewriting than an int can count are as possible as fewer.
func TestMakeStepMost(t *testing.T) {
	s, units := counter(5)
	l := [][]impl.Lit{{{Pos: true, L: digits(39, 4), R: digits(2, 3)}}}
	parents := []int{0}
	for k, u := range units {
		l = append(l, []impl.Lit{u})
		parents = append(parents, k+1)
	}
	want := []impl.Lit{{Pos: true, L: digits(39, 0), R: digits(2, 0)}}
	if got, ok := impl.MakeStep(s, nil, stepsOf(l), impl.StNormal, parents, nil); !sameStep(got, impl.Step{Rule: impl.StNormal, Parents: parents, Clause: want}) || !ok {
		t.Error("MakeStep", got, ok)
	}
}

// TestMakeStepShapes: all rules with all small numbers of parents and lengths of ways. The step of each rule would be possible
// if these fitted.
func TestMakeStepShapes(t *testing.T) {
	inputs, steps := clauses("b=c"), stepsOf(clauses("A=a|B=b|C#c d(b)=a"))
	for rule := -2; rule < 9; rule++ {
		for parents := range 15 {
			for way := range 9 {
				want := ""
				switch [3]int{rule, parents, way} {
				case [3]int{1, 0, 1}:
					want = "b=c"
				case [3]int{2, 2, 5}:
					want = "A=b|B#c|a=a"
				case [3]int{3, 1, 1}:
					want = "A=a|B=b"
				case [3]int{4, 1, 4}:
					want = "a#b|A=b|B#c"
				}
				at, l := make([]int, parents), make([]int, way)
				switch {
				case rule == 2 && parents > 1:
					at[1] = 1
				case rule == 3 && way > 0:
					l[0] = 2
				case rule == 4 && way > 2:
					l[2] = 1
				case rule == 5 && parents > 0 && parents < 12 && way == 0:
					want = "A=a|B=b|C#c"
					for i := 1; i < parents; i++ {
						at[i] = 1
					}
				}
				got, ok := impl.MakeStep(sampleSign(), inputs, steps, rule, at, l)
				if ok != (want != "") || ok && !sameClauses(got.Clause, clause(want)) {
					t.Errorf("MakeStep(%d, %v, %v): %v, %v", rule, at, l, got, ok)
				}
			}
		}
	}
}

// TestMakeStepRules: only the rules 1 to 5 exist.
func TestMakeStepRules(t *testing.T) {
	for _, rule := range []int{0, 6, 7, -1, -5, 1 << 32, 1<<32 + 1, greatestInt, leastInt} {
		for _, parents := range [][]int{nil, {0}, {0, 0}, {0, 0, 0}} {
			for _, way := range [][]int{nil, {0}, {0, 0, 1, 0}, {0, 0, 0, 0, 0}} {
				checkMakeStep(t, exampleInputs(), stepsOf(exampleInputs()), []makeTest{{rule, parents, way, "no"}})
			}
		}
	}
}

// badInputs are lists of too many clauses, or with one that is not valid.
func badInputs(most int) [][][]impl.Lit {
	bad := [][][]impl.Lit{slices.Repeat(clauses("b=c"), most+1), slices.Repeat(clauses("-"), 500)}
	for i, c := range badClauses() {
		bad = append(bad, [][]impl.Lit{c})
		if i%3 == 0 {
			bad = append(bad, append(clauses("b=c -"), c), append([][]impl.Lit{c}, clauses("b=c")...))
		}
	}
	return bad
}

func TestMakeStepInvalid(t *testing.T) {
	s, inputs, steps := sampleSign(), exampleInputs(), stepsOf(exampleInputs())
	refused := func(s impl.Sign, inputs [][]impl.Lit, steps []impl.Step) {
		t.Helper()
		for _, c := range []makeTest{{1, nil, []int{0}, ""}, {2, []int{0, 1}, []int{0, 0, 0, 0, 0}, ""}, {5, []int{0}, nil, ""}} {
			if got, ok := impl.MakeStep(s, inputs, steps, c.rule, c.parents, c.way); !sameStep(got, impl.Step{}) || ok {
				t.Errorf("MakeStep(%d) with %d inputs and %d steps: %v, %v", c.rule, len(inputs), len(steps), got, ok)
			}
		}
	}
	for _, bad := range badSigns() {
		refused(bad, inputs, steps)
		refused(bad, clauses("a=a"), stepsOf(clauses("a=a a=a")))
		refused(bad, nil, nil)
	}
	for _, bad := range badInputs(12) {
		refused(s, append(slices.Clone(inputs), bad...), steps)
		refused(s, bad, steps)
	}
	for _, bad := range badInputs(200) {
		refused(s, inputs, append(slices.Clone(steps), stepsOf(bad)...))
		refused(s, inputs, stepsOf(bad))
	}
}

// TestMakeStepLimits: as many inputs and steps as possible.
func TestMakeStepLimits(t *testing.T) {
	for n := 10; n < 15; n++ {
		inputs := append(slices.Repeat(clauses("a=b"), n-1), clause("c=b"))
		got, ok := impl.MakeStep(sampleSign(), inputs, nil, impl.StInput, nil, []int{n - 1})
		if ok != (n <= 12) || ok && !sameClauses(got.Clause, clause("c=b")) {
			t.Error("MakeStep with inputs", n, got, ok)
		}
	}
	for n := 198; n < 203; n++ {
		steps := stepsOf(append(slices.Repeat(clauses("d(A)=A"), n-1), clause("d(c)#b")))
		got, ok := impl.MakeStep(sampleSign(), nil, steps, impl.StNormal, []int{n - 1, n - 2, 0}, nil)
		if ok != (n <= 200) || ok && !sameClauses(got.Clause, clause("c#b")) {
			t.Error("MakeStep with steps", n, got, ok)
		}
	}
}
