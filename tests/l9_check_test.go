package tests

import (
	"slices"
	"testing"

	"loop.example/g00682/impl"
)

// checkedInputs and checkedSteps are those of the document's example for chapter 9.
func checkedInputs() [][]impl.Lit { return clauses("d(A)=b c=b d(c)#b") }

const threeSteps = "input : 0 : d(A)=b; input : 1 : c=b; input : 2 : d(c)#b; "

func checkedSteps() []impl.Step { return derivation(threeSteps + "normal 2 0 : : -") }

// checkTest is a call of CheckSteps with the inputs of the document's example.
type checkTest struct {
	steps    string
	code, at int
}

func checkCodes(t *testing.T, inputs [][]impl.Lit, tests []checkTest) {
	t.Helper()
	for _, c := range tests {
		expectFault(t, c.steps, inputs, derivation(c.steps), c.code, c.at)
	}
}

// expectFault calls CheckSteps, and IsRefuted with the same arguments.
func expectFault(t *testing.T, what any, inputs [][]impl.Lit, steps []impl.Step, code, at int) {
	t.Helper()
	s := sampleSign()
	if n, k, ok := impl.CheckSteps(s, inputs, steps); n != code || k != at || !ok {
		t.Errorf("CheckSteps(%v): %d, %d, %v instead of %d, %d", what, n, k, ok, code, at)
	}
	want := code == impl.ChNone && slices.ContainsFunc(steps, isEmptyStep)
	if is, ok := impl.IsRefuted(s, inputs, steps); is != want || ok != goodLinks(s, steps) {
		t.Errorf("IsRefuted(%v): %v, %v instead of %v", what, is, ok, want)
	}
}

func TestCheckExamples(t *testing.T) {
	checkCodes(t, checkedInputs(), []checkTest{
		{threeSteps + "normal 2 0 : : -", impl.ChNone, 0},
		{"input : 0 : d(A)=b; input : 2 : d(c)#b; normal 1 0 : : -", impl.ChNone, 0},
		{"input : 0 : d(A)=b; input : 2 : d(c)#b; normal 1 2 : : -", impl.ChParent, 2},
		{"input : 0 : d(A)=b; input : 2 : d(c)#b; normal 1 : : -", impl.ChClause, 2},
		{"input : 0 : d(A)=b; input : 2 : d(c)#b; normal 1 1 : : -", impl.ChMade, 2},
	})
}

func TestCheckFew(t *testing.T) {
	checkCodes(t, checkedInputs(), []checkTest{
		{"", impl.ChNone, 0},
		{"input : 0 : d(A)=b", impl.ChNone, 0},
		{"input : 2 : d(c)#b", impl.ChNone, 0},
		{"input 0 : 0 : d(A)=b", impl.ChParent, 0},
		{"input : 3 : d(A)=b", impl.ChMade, 0},
		{"input : 0 : c=b", impl.ChClause, 0},
		{"normal : : -", impl.ChMade, 0},
		{"normal 0 : : -", impl.ChParent, 0},
		// An input may be introduced several times, or never.
		{"input : 1 : c=b; input : 1 : c=b; input : 1 : c=b", impl.ChNone, 0},
		{"input : 1 : c=b; normal 0 0 0 : : b=b", impl.ChNone, 0},
	})
	checkCodes(t, nil, []checkTest{{"", impl.ChNone, 0}, {"input : 0 : -", impl.ChMade, 0}, {"normal : : -", impl.ChMade, 0}})
	checkCodes(t, clauses("-"), []checkTest{{"", impl.ChNone, 0}, {"input : 0 : -", impl.ChNone, 0}, {"input : 0 : a=a", impl.ChClause, 0}})
}

// TestCheckRules: steps of all rules, with the ordering restrictions and against them.
func TestCheckRules(t *testing.T) {
	inputs := clauses("d(A)=b e(d(c))=c d(A)#d(b)|A=c d(A)=b|d(c)=a c=b|c=b|d(A)=a C#C|e(D)=B|B=e(D)|L#a A#b|a=c|b#b")
	all := "input : 0 : d(A)=b; input : 1 : e(d(c))=c; input : 2 : d(A)#d(b)|A=c; input : 3 : d(A)=b|d(c)=a; input : 4 : c=b|d(A)=a; "
	checkCodes(t, inputs, []checkTest{
		{all, impl.ChNone, 0},
		{all + "super 0 1 : 0 0 0 0 1 : e(b)=c", impl.ChNone, 0},
		{all + "super 0 0 : 0 0 0 0 0 : b=b", impl.ChNone, 0},
		{all + "resolve 2 : 0 : b=c", impl.ChNone, 0},
		{all + "factor 3 : 0 0 1 0 : b#a|d(c)=a", impl.ChNone, 0},
		{all + "normal 1 0 : : e(b)=c", impl.ChNone, 0},
		{all + "normal 2 0 : : A=c", impl.ChNone, 0},
		{all + "normal 2 : : d(A)#d(b)|A=c", impl.ChNone, 0},
		{all + "normal 1 0 0 0 0 0 0 0 0 0 0 : : e(b)=c", impl.ChNone, 0},
		// Against the ordering restrictions, and conclusions that are tautologies or repeat earlier steps.
		{all + "super 1 0 : 0 1 0 1 0 : d(A)=b", impl.ChMade, 5},
		{all + "super 4 1 : 0 0 0 1 0 : d(A)=a|e(d(c))=b", impl.ChNone, 0},
		{all + "factor 3 : 1 0 0 0 : d(c)=b|a#b", impl.ChNone, 0},
		{all + "super 0 0 : 0 0 0 0 0 : b=b; normal 5 : : b=b; input : 0 : d(A)=b", impl.ChNone, 0},
		// Tidied and renamed inputs.
		{"input : 5 : e(A)=B|C#a", impl.ChNone, 0},
		{"input : 5 : C#C|e(D)=B|B=e(D)|L#a", impl.ChClause, 0},
		{"input : 5 : e(D)=B|L#a", impl.ChClause, 0},
		{"input : 5 : e(A)=B|B=e(A)|C#a", impl.ChClause, 0},
		{"input : 6 : A#b|a=c", impl.ChNone, 0},
		{"input : 6 : A#b|a=c|b#b", impl.ChClause, 0},
		{"input : 6 : A#b|a=c; resolve 0 : 0 : a=c; normal 0 1 : : A#b|a=a", impl.ChNone, 0},
		{"input : 6 : A#b|a=c; resolve 0 : 2 : a=c", impl.ChMade, 1},
	})
}

// TestCheckParent: a parent that is the step itself, a later step, no step, or negative.
func TestCheckParent(t *testing.T) {
	checkCodes(t, checkedInputs(), []checkTest{
		{threeSteps + "normal 3 : : -", impl.ChParent, 3},
		{threeSteps + "normal 3 0 : : -", impl.ChParent, 3},
		{threeSteps + "normal 2 3 : : -", impl.ChParent, 3},
		{threeSteps + "normal 2 4 : : -; input : 0 : d(A)=b", impl.ChParent, 3},
		{threeSteps + "normal 4 0 : : -; input : 2 : d(c)#b", impl.ChParent, 3},
		{threeSteps + "super 0 5 : 0 0 0 0 0 : -", impl.ChParent, 3},
		{threeSteps + "super 0 2 : 0 0 0 0 0 : -", impl.ChNone, 0},
		{threeSteps + "resolve 3 : 0 : -", impl.ChParent, 3},
		{threeSteps + "factor 3 : 0 0 0 0 : -", impl.ChParent, 3},
		{threeSteps + "input 3 : 0 : d(A)=b", impl.ChParent, 3},
		{threeSteps + "input 2 : 0 : d(A)=b", impl.ChMade, 3},
		{"normal 1 : : d(A)=b; input : 0 : d(A)=b", impl.ChParent, 0},
		{"normal 0 : : d(A)=b; normal 0 : : d(A)=b", impl.ChParent, 0},
		{"input : 0 : d(A)=b; normal 2 : : d(A)=b; normal 1 : : d(A)=b", impl.ChParent, 1},
		// The last of many parents, too many of which there are.
		{threeSteps + "normal 2 0 0 0 0 0 0 0 0 0 0 0 0 3 : : -", impl.ChParent, 3},
		{threeSteps + "normal 2 0 0 0 0 0 0 0 0 0 0 0 0 2 : : -", impl.ChMade, 3},
	})
	for _, p := range []int{3, 4, 5, 199, 200, -1, -2, 1 << 32, 1<<32 + 2, leastInt, leastInt + 2, greatestInt} {
		for _, parents := range [][]int{{p}, {p, 0}, {2, p}, {2, 0, p}, {p, p, p}} {
			steps := append(checkedSteps(), derivation("input : 1 : c=b; normal 2 1 : : d(b)#b")...)
			steps[3].Parents = parents
			expectFault(t, parents, checkedInputs(), steps, impl.ChParent, 3)
		}
	}
}

// madeStart are steps to which one of each rule can be added.
const madeStart = threeSteps + "input : 3 : A=b|A=c; input : 4 : -; input : 5 : A#b|a=c; "

func madeInputs() [][]impl.Lit { return clauses("d(A)=b c=b d(c)#b A=b|A=c - A#b|a=c") }

// unfit are changes with which a step behind madeStart is not possible.
func unfit(x impl.Step) []func(x *impl.Step) {
	changes := []func(x *impl.Step){
		func(x *impl.Step) { x.Way = append(x.Way, 0) },
		func(x *impl.Step) { x.Way = append(x.Way, -1) },
		func(x *impl.Step) { x.Way = slices.Repeat([]int{0}, 100) },
		func(x *impl.Step) { x.Parents = slices.Repeat([]int{0}, 12) },
		func(x *impl.Step) { x.Parents = append(x.Parents, 2) },
		func(x *impl.Step) { x.Parents, x.Way = nil, nil },
	}
	for k := range x.Way {
		changes = append(changes, func(x *impl.Step) { x.Way = x.Way[:k] })
		for _, n := range []int{-1, 6, 100, 1 << 32, leastInt, greatestInt} {
			changes = append(changes, func(x *impl.Step) { x.Way[k] = n })
		}
	}
	for _, rule := range []int{0, 1, 2, 3, 4, 5, 6, 7, -1, -5, 1<<32 + x.Rule, leastInt, greatestInt} {
		if rule != x.Rule {
			changes = append(changes, func(x *impl.Step) { x.Rule = rule })
		}
	}
	return changes
}

// TestCheckUnfit: rules that do not exist, and parents and ways that do not fit.
func TestCheckUnfit(t *testing.T) {
	for _, text := range []string{
		"input : 1 : c=b", "super 1 2 : 0 0 0 0 1 : d(b)#b", "resolve 5 : 0 : a=c", "factor 3 : 0 0 1 0 : b#c|A=c", "normal 2 1 0 : : -",
	} {
		checkCodes(t, madeInputs(), []checkTest{{madeStart + text, impl.ChNone, 0}})
		for i, change := range unfit(stepOfText(text)) {
			x := stepOfText(text)
			change(&x)
			// The clause does not matter then.
			for _, c := range [][]impl.Lit{x.Clause, nil} {
				x.Clause = c
				steps := append(derivation(madeStart), x)
				expectFault(t, []any{text, i}, madeInputs(), steps, impl.ChMade, 6)
				expectFault(t, []any{text, i}, madeInputs(), append(steps, stepOfText("normal 6 : : -")), impl.ChMade, 6)
			}
		}
	}
}

// TestCheckMade: inputs that do not exist, others that are no single equation, and inferences that are not possible.
func TestCheckMade(t *testing.T) {
	checkCodes(t, madeInputs(), []checkTest{
		{madeStart + "none : : -", impl.ChMade, 6},
		{madeStart + "none : 0 : d(A)=b", impl.ChMade, 6},
		{madeStart + "6 2 0 : : -", impl.ChMade, 6},
		{madeStart + "input : 6 : -", impl.ChMade, 6},
		{madeStart + "input : -1 : -", impl.ChMade, 6},
		{madeStart + "normal 2 0 2 : : -", impl.ChMade, 6},
		{madeStart + "normal 2 0 3 : : -", impl.ChMade, 6},
		{madeStart + "normal 2 0 4 : : -", impl.ChMade, 6},
		{madeStart + "normal 2 0 1 0 1 0 1 0 1 0 1 0 : : -", impl.ChMade, 6},
		{madeStart + "normal 2 0 1 0 1 0 1 0 1 0 1 : : -", impl.ChNone, 0},
		{madeStart + "super 2 1 : 0 0 0 0 0 : -", impl.ChMade, 6},
		{madeStart + "super 1 2 : 0 0 0 0 0 : -", impl.ChMade, 6},
		{madeStart + "super 4 4 : 0 0 0 0 0 : -", impl.ChMade, 6},
		{madeStart + "resolve 4 : 0 : -", impl.ChMade, 6},
		{madeStart + "factor 3 : 0 0 0 0 : -", impl.ChMade, 6},
	})
}

// TestCheckClause: a clause with other literals, in another order, with exchanged sides or with other names of variables.
func TestCheckClause(t *testing.T) {
	inputs := clauses("d(A)=B|e(B)#b|A=c -")
	right := "d(A)=B|e(B)#b|A=c"
	wrong := []string{
		"-", "d(A)=B|e(B)#b", "d(A)=B", "d(A)=B|e(B)#b|A=c|A=c", "d(A)=B|e(B)#b|A=c|b#b", "d(A)=B|d(A)=B|e(B)#b|A=c",
		"d(A)=B|e(B)#b|A=b", "d(A)=B|e(B)#b|A#c", "d(A)#B|e(B)#b|A=c", "d(A)=B|e(B)=b|A=c", "d(A)=c|e(B)#b|A=c", "d(d(A))=B|e(B)#b|A=c",
		"e(B)#b|d(A)=B|A=c", "d(A)=B|A=c|e(B)#b", "A=c|d(A)=B|e(B)#b",
		"B=d(A)|e(B)#b|A=c", "d(A)=B|b#e(B)|A=c", "d(A)=B|e(B)#b|c=A",
		"d(B)=A|e(A)#b|B=c", "d(C)=D|e(D)#b|C=c", "d(A)=C|e(C)#b|A=c", "d(A)=A|e(A)#b|A=c", "d(L)=K|e(K)#b|L=c", "d(A)=B|e(B)#b|B=c",
	}
	checkCodes(t, inputs, []checkTest{{"input : 0 : " + right, impl.ChNone, 0}, {"input : 1 : -; input : 0 : " + right, impl.ChNone, 0}})
	for _, text := range wrong {
		checkCodes(t, inputs, []checkTest{
			{"input : 0 : " + text, impl.ChClause, 0},
			{"input : 0 : " + right + "; normal 0 : : " + text, impl.ChClause, 1},
			{"input : 1 : -; input : 0 : " + text + "; normal 0 : : -", impl.ChClause, 1},
			{"input : 0 : " + text + "; normal 0 : : " + text, impl.ChClause, 0},
		})
		if text != "-" {
			checkCodes(t, inputs, []checkTest{{"input : 1 : " + text, impl.ChClause, 0}})
		}
	}
	// The conclusions of the other rules.
	checkCodes(t, clauses("d(A)=b e(d(c))=c d(A)#d(b)|A=c d(A)=b|d(c)=a"), []checkTest{
		{"input : 0 : d(A)=b; input : 1 : e(d(c))=c; super 0 1 : 0 0 0 0 1 : c=e(b)", impl.ChClause, 2},
		{"input : 0 : d(A)=b; input : 1 : e(d(c))=c; super 0 1 : 0 0 0 0 1 : e(b)#c", impl.ChClause, 2},
		{"input : 0 : d(A)=b; input : 1 : e(d(c))=c; super 0 1 : 0 0 0 0 1 : e(d(c))=c", impl.ChClause, 2},
		{"input : 0 : d(A)=b; input : 1 : e(d(c))=c; normal 1 0 : : e(d(c))=c", impl.ChClause, 2},
		{"input : 2 : d(A)#d(b)|A=c; resolve 0 : 0 : A=c", impl.ChClause, 1},
		{"input : 2 : d(A)#d(b)|A=c; resolve 0 : 0 : c=b", impl.ChClause, 1},
		{"input : 3 : d(A)=b|d(c)=a; factor 0 : 0 0 1 0 : d(c)=a|b#a", impl.ChClause, 1},
		{"input : 3 : d(A)=b|d(c)=a; factor 0 : 0 0 1 0 : a#b|d(c)=a", impl.ChClause, 1},
		{"input : 3 : d(A)=b|d(c)=a; factor 0 : 0 0 1 0 : -", impl.ChClause, 1},
	})
}

// TestCheckInvalidClause: clauses that are not valid, with valid and invalid ones before them.
func TestCheckInvalidClause(t *testing.T) {
	inputs := checkedInputs()
	for i, bad := range badClauses() {
		for at := range 4 {
			steps := checkedSteps()
			steps[at].Clause = bad
			expectFault(t, bad, inputs, steps, impl.ChClause, at)
			for later := at + 1; later < 4; later++ {
				more := slices.Clone(steps)
				more[later].Clause = badClauses()[(i+later)%len(badClauses())]
				expectFault(t, bad, inputs, more, impl.ChClause, at)
			}
			// The step has another fault, too, or one before it has one.
			steps[at].Way = append(steps[at].Way, 0)
			expectFault(t, bad, inputs, steps, impl.ChMade, at)
			steps[at].Parents = []int{at}
			expectFault(t, bad, inputs, steps, impl.ChParent, at)
			if at > 0 {
				steps[0].Way = []int{1}
				expectFault(t, bad, inputs, steps, impl.ChClause, 0)
				steps[0].Way = nil
				expectFault(t, bad, inputs, steps, impl.ChMade, 0)
			}
		}
	}
}

// TestCheckOrder: a step with several faults has the first code of the table, and of several faulty steps the first one counts.
func TestCheckOrder(t *testing.T) {
	checkCodes(t, checkedInputs(), []checkTest{
		{threeSteps + "normal 3 3 : : d(c)#b", impl.ChParent, 3},
		{threeSteps + "none 3 : : d(c)#b", impl.ChParent, 3},
		{threeSteps + "none -1 : 0 : -", impl.ChParent, 3},
		{threeSteps + "super 7 : 0 : -", impl.ChParent, 3},
		{threeSteps + "input 0 -1 : 9 9 : b=c", impl.ChParent, 3},
		{threeSteps + "resolve 0 : 0 : b=c", impl.ChMade, 3},
		{threeSteps + "none : : b=c", impl.ChMade, 3},
		{threeSteps + "input : 9 : -", impl.ChMade, 3},
	})
	faults := map[int]func(x *impl.Step){
		impl.ChParent: func(x *impl.Step) { x.Parents = []int{4} },
		impl.ChMade:   func(x *impl.Step) { x.Rule = 0 },
		impl.ChClause: func(x *impl.Step) { x.Clause = clause("a#a") },
	}
	for first := range 4 {
		for code := impl.ChParent; code <= impl.ChClause; code++ {
			steps := checkedSteps()
			faults[code](&steps[first])
			expectFault(t, []int{first, code}, checkedInputs(), steps, code, first)
			for other := impl.ChParent; other <= impl.ChClause; other++ {
				both := slices.Clone(steps)
				faults[other](&both[first])
				expectFault(t, []int{first, code, other}, checkedInputs(), both, min(code, other), first)
				for second := first + 1; second < 4; second++ {
					two := slices.Clone(steps)
					faults[other](&two[second])
					expectFault(t, []int{first, code, second, other}, checkedInputs(), two, code, first)
				}
			}
		}
	}
}

// TestCheckMany: 200 steps and 201, also with a fault among them.
func TestCheckMany(t *testing.T) {
	inputs := checkedInputs()
	for _, many := range []int{1, 2, 199, 200, 201, 202, 1000} {
		steps := slices.Repeat(derivation("input : 0 : d(A)=b"), many)
		for k := 2; k < many; k++ {
			steps[k] = impl.Step{Rule: impl.StNormal, Parents: []int{k - 1}, Clause: clause("d(A)=b")}
		}
		code := func(n int) int {
			if many > 200 {
				return impl.ChMany
			}
			return n
		}
		expectFault(t, many, inputs, steps, code(impl.ChNone), 0)
		for _, at := range []int{0, 1, 2, 100, 197, 198, 199, 200, 999} {
			if at >= many {
				continue
			}
			for n, change := range map[int]func(x *impl.Step){
				impl.ChParent: func(x *impl.Step) { x.Parents = []int{at} },
				impl.ChMade:   func(x *impl.Step) { x.Rule = 6 },
				impl.ChClause: func(x *impl.Step) { x.Clause = nil },
			} {
				wrong := slices.Clone(steps)
				change(&wrong[at])
				want := at
				if many > 200 {
					want = 0
				}
				expectFault(t, []int{many, at, n}, inputs, wrong, code(n), want)
			}
		}
		if many >= 199 {
			// The last step depends on others far before it.
			steps[many-2] = stepOfText("input : 2 : d(c)#b")
			steps[many-1] = impl.Step{Rule: impl.StNormal, Parents: []int{many - 2, 0}}
			expectFault(t, many, inputs, steps, code(impl.ChNone), 0)
		}
	}
	expectFault(t, "zero steps", inputs, make([]impl.Step, 201), impl.ChMany, 0)
	expectFault(t, "zero steps", nil, make([]impl.Step, 200), impl.ChMade, 0)
	expectFault(t, "bad clauses", inputs, slices.Repeat([]impl.Step{{Clause: []impl.Lit{{}}}}, 201), impl.ChMany, 0)
}

func TestIsRefuted(t *testing.T) {
	inputs := clauses("d(A)=b c=b d(c)#b - b#b")
	tests := []struct {
		steps  string
		is, ok bool
	}{
		{threeSteps + "normal 2 0 : : -", true, true},
		{"input : 3 : -", true, true},
		{"input : 4 : -", true, true},
		{"input : 4 : -; input : 0 : d(A)=b", true, true},
		{"input : 3 : -; input : 4 : -", true, true},
		// No empty clause.
		{"", false, true},
		{threeSteps, false, true},
		{"input : 0 : d(A)=b", false, true},
		{threeSteps + "normal 2 : : d(c)#b", false, true},
		// An empty clause in a derivation that is not accepted.
		{threeSteps + "normal 2 : : -", false, true},
		{threeSteps + "normal 2 1 : : -", false, true},
		{threeSteps + "resolve 2 : 0 : -", false, true},
		{"none : : -", false, true},
		{"input : 5 : -", false, true},
		{"input : 0 : -", false, true},
		{"input : 3 : -; input : 0 : c=b", false, true},
		{"input : 3 : -; none : : -", false, true},
		{"input : 0 : c=b; input : 3 : -", false, true},
		{"input : 4 : b#b; input : 3 : -", false, true},
		// Steps that are not valid: M is no variable.
		{threeSteps + "normal 3 0 : : -", false, false},
		{threeSteps + "normal 2 -1 : : -", false, false},
		{"input : 3 : -; normal 1 : : -", false, false},
		{"input : 3 : -; input 7 : 3 : -", false, false},
		{"input : 3 : -; input : 0 : M=b", false, false},
	}
	for _, c := range tests {
		if is, ok := impl.IsRefuted(sampleSign(), inputs, derivation(c.steps)); is != c.is || ok != c.ok {
			t.Errorf("IsRefuted(%s): %v, %v", c.steps, is, ok)
		}
	}
	// The inputs count: the same steps are no derivation from others.
	for _, text := range []string{"d(A)=b c=b d(c)#c", "d(A)=b c=b", "", "c=b d(A)=b d(c)#b", "d(B)=b c=b d(c)#b|c#c"} {
		steps := derivation("input : 0 : d(A)=b; input : 2 : d(c)#b; normal 1 0 : : -")
		want := text == "d(B)=b c=b d(c)#b|c#c"
		if is, ok := impl.IsRefuted(sampleSign(), clauses(text), steps); is != want || !ok {
			t.Errorf("IsRefuted for %s: %v, %v", text, is, ok)
		}
	}
	for _, many := range []int{199, 200, 201} {
		steps := slices.Repeat(derivation("input : 3 : -"), many)
		if is, ok := impl.IsRefuted(sampleSign(), inputs, steps); is != (many <= 200) || ok != (many <= 200) {
			t.Errorf("IsRefuted of %d steps: %v, %v", many, is, ok)
		}
	}
}

// TestCheckProved: what Prove returns is accepted, and refutes the inputs if it says so.
func TestCheckProved(t *testing.T) {
	s := sampleSign()
	check := func(inputs [][]impl.Lit, fuel int) impl.Result {
		t.Helper()
		r, ok := impl.Prove(s, inputs, fuel)
		if code, at, ok2 := impl.CheckSteps(s, inputs, r.Steps); code != impl.ChNone || at != 0 || !ok || !ok2 {
			t.Fatalf("CheckSteps of Prove(%v, %d): %d, %d", inputs, fuel, code, at)
		}
		empty := slices.ContainsFunc(r.Steps, isEmptyStep)
		if is, ok := impl.IsRefuted(s, inputs, r.Steps); is != empty || r.Code == impl.PvNo && !is || !ok {
			t.Fatalf("IsRefuted of Prove(%v, %d): %v, %v", inputs, fuel, is, ok)
		}
		return r
	}
	for _, text := range []string{
		"", "-", "d(A)=b", "d(A)=b d(c)#b", "b=b b=b d(A)=b", "A=B b#c",
		"d(A)#b|A=c d(c)#b d(b)=b",
		"d(A)=e(B) c=b d(c)=c e(a)#c",
		"C=b|c=b b#c",
		"f(A,B)=f(B,A) f(a,A)=A f(b,a)#b",
		"f(A,A)=a f(a,A)=A f(A,a)=A f(f(A,B),C)=f(A,f(B,C)) f(b,c)#f(c,b)",
		"f(a,A)=A f(d(A),A)=a f(f(A,B),C)=f(A,f(B,C)) f(b,d(b))#a",
	} {
		for fuel := 0; fuel <= 40; fuel += 8 {
			check(clauses(text), fuel)
		}
	}
	// Exactly 200 steps, with the empty clause as the last one and without it.
	for many, code := range map[int]int{196: impl.PvNo, 197: impl.PvOut} {
		r := check(append(clauses("c=b|b=a"), crowd(many), twins()), 40)
		if r.Code != code || len(r.Steps) != 200 {
			t.Errorf("Prove: %d with %d steps", r.Code, len(r.Steps))
		}
	}
}

// TestCheckCounter: a step with more rewriting than an int can count is as good as any.
func TestCheckCounter(t *testing.T) {
	s, units := counter(5)
	goal := []impl.Lit{{Pos: false, L: digits(39, 4), R: digits(39, 0)}}
	inputs, parents := [][]impl.Lit{goal}, []int{0}
	for k, u := range units {
		inputs, parents = append(inputs, []impl.Lit{u}), append(parents, k+1)
	}
	var steps []impl.Step
	for k, c := range inputs {
		steps = append(steps, impl.Step{Rule: impl.StInput, Way: []int{k}, Clause: wantedRenameClause(c)})
	}
	steps = append(steps, impl.Step{Rule: impl.StNormal, Parents: parents})
	if code, at, ok := impl.CheckSteps(s, inputs, steps); code != impl.ChNone || at != 0 || !ok {
		t.Error("CheckSteps", code, at, ok)
	}
	if is, ok := impl.IsRefuted(s, inputs, steps); !is || !ok {
		t.Error("IsRefuted", is, ok)
	}
}

func TestCheckInvalid(t *testing.T) {
	refused := func(s impl.Sign, inputs [][]impl.Lit) {
		t.Helper()
		for _, steps := range [][]impl.Step{nil, checkedSteps(), derivation("input : 0 : -"), make([]impl.Step, 201), linked([]int{5})} {
			if code, at, ok := impl.CheckSteps(s, inputs, steps); code != 0 || at != 0 || ok {
				t.Errorf("CheckSteps of %d inputs, %d steps and %d symbols: %d, %d, %v", len(inputs), len(steps), len(s.Arity), code, at, ok)
			}
			if is, ok := impl.IsRefuted(s, inputs, steps); is || ok {
				t.Errorf("IsRefuted of %d inputs, %d steps and %d symbols: %v, %v", len(inputs), len(steps), len(s.Arity), is, ok)
			}
		}
	}
	for _, bad := range badSigns() {
		refused(bad, nil)
		refused(bad, clauses("a=a -"))
		refused(bad, checkedInputs())
	}
	for _, bad := range badInputs(12) {
		refused(sampleSign(), bad)
		refused(sampleSign(), append(clauses("-"), bad...))
		refused(sampleSign(), append(slices.Clone(bad), checkedInputs()...))
	}
	// As many inputs as possible.
	for n := 10; n < 15; n++ {
		inputs := append(slices.Repeat(clauses("a=b"), n-1), nil)
		steps := derivation("input : 0 : a=b; input : 9 : -")
		steps[1].Way = []int{n - 1}
		code, at, ok := impl.CheckSteps(sampleSign(), inputs, steps)
		is, ok2 := impl.IsRefuted(sampleSign(), inputs, steps)
		if code != 0 || at != 0 || ok != (n <= 12) || ok2 != ok || is != ok {
			t.Errorf("CheckSteps of %d inputs: %d, %d, %v, and IsRefuted: %v, %v", n, code, at, ok, is, ok2)
		}
	}
}
