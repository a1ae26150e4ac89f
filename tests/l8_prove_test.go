package tests

import (
	"slices"
	"strings"
	"testing"

	"loop.example/g00682/impl"
)

// proveTest is a call of Prove. Its steps are those of the inputs, and then the ones that are written here.
type proveTest struct {
	inputs string
	fuel   int
	code   int
	steps  []string
	active []int
}

func checkProve(t *testing.T, tests []proveTest) {
	t.Helper()
	for _, c := range tests {
		s, inputs := sampleSign(), clauses(c.inputs)
		r, ok := impl.Prove(s, inputs, c.fuel)
		var steps []string
		for k, x := range r.Steps {
			if k >= len(inputs) {
				steps = append(steps, textOfStep(s, x))
			}
		}
		if r.Code != c.code || !slices.Equal(steps, c.steps) || !slices.Equal(r.Active, c.active) || !ok {
			t.Errorf("Prove(%s, %d): %d, %s, %v, %v", c.inputs, c.fuel, r.Code, strings.Join(steps, ", "), r.Active, ok)
		}
		checkDerivation(t, s, inputs, r)
	}
}

func TestProveExamples(t *testing.T) {
	checkProve(t, []proveTest{
		{"d(A)=b d(c)#b", 10, impl.PvNo, []string{"normal 1 0 : : -"}, []int{0}},
		{"d(A)=b", 10, impl.PvSat, nil, []int{0}},
		{"d(A)=b d(c)#b", 0, impl.PvOut, nil, nil},
	})
}

// TestProveFuel: what the fuel allows. A loop that has no passive step is not out of fuel.
func TestProveFuel(t *testing.T) {
	checkProve(t, []proveTest{
		{"d(A)=b d(c)#b", 1, impl.PvOut, nil, []int{0}},
		{"d(A)=b d(c)#b", 2, impl.PvNo, []string{"normal 1 0 : : -"}, []int{0}},
		{"d(A)=b d(c)#b", 40, impl.PvNo, []string{"normal 1 0 : : -"}, []int{0}},
		{"d(A)=b", 0, impl.PvOut, nil, nil},
		{"d(A)=b", 1, impl.PvSat, nil, []int{0}},
		{"d(A)=b", 40, impl.PvSat, nil, []int{0}},
		{"", 0, impl.PvSat, nil, nil},
		{"", 1, impl.PvSat, nil, nil},
		{"", 40, impl.PvSat, nil, nil},
		{"-", 0, impl.PvOut, nil, nil},
		{"-", 1, impl.PvNo, nil, nil},
		{"b=b", 0, impl.PvOut, nil, nil},
		{"b=b", 1, impl.PvSat, nil, nil},
		// Rounds that end with a redundant step count, too.
		{"b=b b=b d(A)=b", 2, impl.PvOut, nil, nil},
		{"b=b b=b d(A)=b", 3, impl.PvSat, nil, []int{2}},
		{"d(A)#b d(B)#b c#b", 2, impl.PvOut, nil, []int{2, 0}},
		{"d(A)#b d(B)#b c#b", 3, impl.PvSat, nil, []int{2, 0}},
	})
	for _, fuel := range []int{-1, 41, 42, -40, 1 << 32, 1<<32 + 10, greatestInt, leastInt} {
		for _, inputs := range [][][]impl.Lit{nil, exampleInputs(), clauses("-")} {
			if r, ok := impl.Prove(sampleSign(), inputs, fuel); !sameResults(r, impl.Result{}) || ok {
				t.Errorf("Prove with fuel %d: %v, %v", fuel, r, ok)
			}
		}
	}
	for fuel := range 41 {
		for n, inputs := range [][][]impl.Lit{nil, exampleInputs()[:1], exampleInputs()} {
			want := impl.Result{Code: impl.PvSat}
			if fuel < n {
				want.Code = impl.PvOut
			} else if n == 2 {
				want.Code = impl.PvNo
			}
			if r, ok := impl.Prove(sampleSign(), inputs, fuel); r.Code != want.Code || !ok {
				t.Errorf("Prove of %d clauses with fuel %d: %v, %v", n, fuel, r, ok)
			}
		}
	}
}

// TestProveEmpty: the empty clause as an input's step, as a generated step and as a simplified given step.
func TestProveEmpty(t *testing.T) {
	checkProve(t, []proveTest{
		// It is the lightest step, so it is taken in the first round, and then the result is known.
		{"- -", 10, impl.PvNo, nil, nil},
		{"b=c d(A)=b -", 1, impl.PvNo, nil, nil},
		{"b=c d(A)=b d(c)#b -", 0, impl.PvOut, nil, nil},
		// An input that TidyClause makes empty.
		{"A#A", 1, impl.PvNo, nil, nil},
		{"b=c b#b|d(A)#d(A)", 1, impl.PvNo, nil, nil},
		// Generated: the given step is active only from its second clause on.
		{"A#b", 1, impl.PvNo, []string{"resolve 0 : 0 : -"}, nil},
		{"A#b b=c", 1, impl.PvNo, []string{"resolve 0 : 0 : -"}, nil},
		{"c#b c=b", 2, impl.PvNo, []string{"super 1 0 : 0 0 0 0 0 : -"}, []int{0, 1}},
		{"d(A)#b b=c|c=c d(c)=b", 40, impl.PvNo, []string{"super 2 0 : 0 0 0 0 0 : -"}, []int{0, 2}},
		{"A=B b#c", 2, impl.PvOut, []string{"super 0 1 : 0 0 0 1 0 : b#A"}, []int{0, 1}},
		{"A=B b#c", 3, impl.PvNo, []string{"super 0 1 : 0 0 0 1 0 : b#A", "resolve 2 : 0 : -"}, []int{0, 1}},
		// A simplified given step: the equations are active before it.
		{"c=b c#b", 2, impl.PvNo, []string{"normal 1 0 : : -"}, []int{0}},
		{"d(A)=A e(B)=B f(C,D)=c d(e(f(b,b)))#c", 4, impl.PvNo, []string{"normal 3 0 1 2 : : -"}, []int{0, 1, 2}},
		{"f(A,B)=f(B,A) f(b,c)#f(c,b)", 2, impl.PvNo, []string{"normal 1 0 : : -"}, []int{0}},
	})
}

// TestProveSame: tautologies, and clauses that equal others up to the names of variables.
func TestProveSame(t *testing.T) {
	checkProve(t, []proveTest{
		{"b=b c=c|a=b d(A)=A|b#b", 10, impl.PvSat, nil, []int{2}},
		{"b=c|c#b d(A)=B|C#a|B=d(A)|a#C|a=C", 10, impl.PvSat, nil, nil},
		// A unit rewrites itself to a tautology; another clause is subsumed.
		{"d(A)=b d(C)=b", 10, impl.PvSat, []string{"normal 1 0 : : b=b"}, []int{0}},
		{"c=b c=b c=b", 10, impl.PvSat, []string{"normal 1 0 : : b=b", "normal 2 0 : : b=b"}, []int{0}},
		{"d(A)#b d(C)#b", 10, impl.PvSat, nil, []int{0}},
		{"d(A)=b|c=a d(B)=b|c=a", 10, impl.PvSat, nil, []int{0}},
		// Clauses of five literals subsume nothing, and both become active; what they generate is known already.
		{"d(A)#a|d(A)#b|d(A)#c|e(A)#a|e(A)#b d(L)#a|d(L)#b|d(L)#c|e(L)#a|e(L)#b", 10, impl.PvSat, nil, []int{0, 1}},
		// A generated step that is the same as an input, an earlier generated one, or a simplified one.
		{"e(A)=B", 10, impl.PvSat, []string{"super 0 0 : 0 0 0 0 0 : A=B"}, []int{0, 1}},
		{"a=A", 10, impl.PvSat, []string{"super 0 0 : 0 0 0 0 0 : A=B"}, []int{0, 1}},
		{"d(a)=A", 10, impl.PvSat, []string{
			"super 0 0 : 0 0 0 0 0 : A=B", "super 1 0 : 0 0 0 0 1 : d(A)=B", "normal 2 0 1 : : A=B",
		}, []int{0, 1}},
		{"C=b|c=b b#c", 10, impl.PvNo, []string{
			"factor 0 : 0 0 1 0 : c=b", "factor 0 : 0 1 1 1 : A#c|c=b", "super 0 1 : 1 0 0 1 0 : A=b", "super 0 0 : 0 1 0 1 0 : c=b|A=B", "super 2 1 : 0 0 0 1 0 : -",
		}, []int{1, 0, 2}},
		{"b#B|B=A b=c|b=c", 10, impl.PvSat, []string{
			"resolve 0 : 0 : b=A", "super 0 1 : 1 0 0 1 0 : b#c|b=A", "super 0 0 : 1 0 0 0 0 : A#B|B=C", "super 0 2 : 1 0 0 0 0 : A=B", "normal 3 1 2 : : b=A",
		}, []int{1, 0, 2, 5}},
		// Literals in another order, or with their sides exchanged, are not the same.
		{"c=b|c=a c#a", 10, impl.PvSat, []string{
			"factor 0 : 0 0 1 0 : b#a|c=a", "super 0 1 : 0 0 0 0 0 : c=a|b#a", "super 2 1 : 1 0 0 0 0 : b#a",
		}, []int{1, 0, 2, 4}},
		// A generated tautology.
		{"d(d(A))=A d(b)=c", 10, impl.PvSat, []string{"super 1 0 : 0 0 0 0 1 : d(c)=b"}, []int{1, 0, 2}},
		{"c=a|b=a c#a", 10, impl.PvSat, []string{"super 0 1 : 0 0 0 0 0 : b=a"}, []int{1, 0, 2}},
	})
}

// TestProveSteps: derivations of all rules.
func TestProveSteps(t *testing.T) {
	checkProve(t, []proveTest{
		{"c=b c=a", 10, impl.PvSat, []string{"normal 1 0 : : b=a"}, []int{0, 2}},
		{"c=a c=b", 10, impl.PvSat, []string{"normal 1 0 : : a=b"}, []int{0, 2}},
		{"d(d(A))=A d(b)=c d(c)#b", 10, impl.PvNo, []string{
			"super 1 0 : 0 0 0 0 1 : d(c)=b", "super 3 2 : 0 0 0 0 0 : -",
		}, []int{1, 2, 0, 3}},
		{"d(A)=d(B) d(b)#d(c)", 10, impl.PvNo, []string{"super 0 1 : 0 0 0 1 0 : d(b)#d(A)", "resolve 2 : 0 : -"}, []int{0, 1}},
		{"e(A)=b|d(A)=c e(a)#b d(a)#c", 10, impl.PvNo, []string{
			"super 0 1 : 0 0 0 0 0 : d(a)=c", "super 3 2 : 0 0 0 0 0 : -",
		}, []int{1, 2, 0, 3}},
		{"d(b)=a|d(c)=a d(A)#a", 10, impl.PvNo, []string{
			"super 0 1 : 1 0 0 0 0 : d(b)=a", "super 2 1 : 0 0 0 0 0 : -",
		}, []int{1, 0, 2}},
		{"d(A)#b|A=c d(c)#b d(b)=b", 10, impl.PvNo, []string{
			"super 2 0 : 0 0 0 0 0 : b=c", "super 3 1 : 0 1 0 0 1 : d(b)#b", "normal 4 2 3 : : -",
		}, []int{1, 2, 0, 3}},
		{"f(A,B)=f(B,A) f(a,A)=A f(b,a)#b", 10, impl.PvNo, []string{
			"super 1 0 : 0 0 0 0 0 : A=f(A,a)", "super 1 0 : 0 0 0 1 0 : f(A,a)=A", "super 0 2 : 0 0 0 0 0 : f(a,b)#b", "super 3 2 : 0 1 0 0 0 : -",
		}, []int{1, 2, 0, 3}},
		// Singles before pairs; pairs with each active clause in order, first from it and then into it, last with itself.
		{"A=b|A=c a#b a#c", 3, impl.PvOut, []string{
			"factor 0 : 1 0 0 0 : A=b|c#b", "super 0 2 : 1 1 0 1 0 : A=b|a#A", "super 0 0 : 1 1 1 1 0 : A=b|B=b|B=A",
		}, []int{1, 2, 0}},
		{"d(A)=e(B) c=b d(c)=c e(a)#c", 40, impl.PvNo, []string{
			"normal 2 1 : : d(b)=b", "normal 3 1 4 : : e(a)#b", "super 0 5 : 0 1 0 0 0 : d(A)#b", "super 0 0 : 0 0 0 0 0 : e(A)=e(B)",
			"super 0 0 : 0 1 0 1 0 : d(A)=d(B)", "super 4 6 : 0 0 0 0 0 : -",
		}, []int{1, 4, 5, 0, 6}},
		{"A=B|d(A)#d(B) d(b)=d(c)", 10, impl.PvSat, []string{
			"super 1 0 : 0 1 1 0 0 : c=A|d(b)#d(A)", "super 1 0 : 0 1 1 1 0 : A=c|d(A)#d(b)", "resolve 2 : 1 : c=b",
		}, []int{1, 0, 2, 4}},
		{"d(A)=A|c=a d(b)#b d(A)=A|b=a", 10, impl.PvSat, []string{
			"super 0 1 : 0 0 0 0 0 : c=a", "super 2 1 : 0 0 0 0 0 : b=a", "super 4 1 : 0 0 0 0 1 : d(a)#b", "normal 5 3 4 : : d(a)#a",
		}, []int{1, 0, 3, 2, 4, 6}},
	})
}

// TestProveRounds: each fourth round takes the oldest step, the others the first one of the lightest. These inequations have
// no inferences.
func TestProveRounds(t *testing.T) {
	heavy := "f(f(f(b,b),b),b)#a f(f(b,b),b)#a f(b,b)#a "
	light := "d(a)#b d(a)#c d(b)#a d(b)#c d(c)#a d(c)#b e(a)#b e(a)#c e(b)#a"
	order := []int{3, 4, 5, 0, 6, 7, 8, 1, 9, 10, 11, 2}
	for fuel := range 41 {
		code := impl.PvSat
		if fuel < 12 {
			code = impl.PvOut
		}
		checkProve(t, []proveTest{{heavy + light, fuel, code, nil, order[:min(fuel, 12)]}})
	}
	// In the fourth round, the first input is taken and not the lighter step that has been generated.
	steps := []string{"super 1 2 : 0 0 0 0 1 : b=a|e(d(c))#a", "super 1 3 : 0 0 1 0 1 : b=a|e(c)#a"}
	checkProve(t, []proveTest{
		{"f(f(f(b,b),b),b)#a d(A)=A|b=a e(d(d(c)))#a", 3, impl.PvOut, steps, []int{1, 2, 3}},
		{"f(f(f(b,b),b),b)#a d(A)=A|b=a e(d(d(c)))#a", 4, impl.PvOut, steps, []int{1, 2, 3, 0}},
		{"f(f(f(b,b),b),b)#a d(A)=A|b=a e(d(d(c)))#a", 5, impl.PvSat, steps, []int{1, 2, 3, 0, 4}},
	})
}

// TestProveUnits: only the first ten active equations simplify the given step.
func TestProveUnits(t *testing.T) {
	eleven := "f(a,b)=a f(a,c)=a f(b,a)=a f(b,b)=a f(b,c)=a f(c,a)=a f(c,b)=a f(c,c)=a d(b)=a d(c)=a e(b)=a "
	active := []int{8, 9, 10, 0, 1, 2, 3, 4, 5, 6, 7}
	checkProve(t, []proveTest{
		{eleven, 40, impl.PvSat, nil, active},
		{eleven + "f(c,b)#a", 40, impl.PvNo, []string{"normal 11 8 9 10 0 1 2 3 4 5 6 : : -"}, active},
		{eleven + "f(c,c)#a", 40, impl.PvNo, []string{"super 7 11 : 0 0 0 0 0 : -"}, append(slices.Clone(active), 11)},
		{eleven + "f(c,c)#e(b)", 40, impl.PvNo, []string{"normal 11 8 9 10 0 1 2 3 4 5 6 : : f(c,c)#a", "super 7 12 : 0 0 0 0 0 : -"}, append(slices.Clone(active), 12)},
		{eleven + "f(c,c)=a|e(a)#a", 40, impl.PvSat, nil, active},
	})
}

func TestProveInputs(t *testing.T) {
	many := clauses("f(a,b)=a f(a,c)=a f(b,a)=a f(b,b)=a f(b,c)=a f(c,a)=a f(c,b)=a f(c,c)=a d(b)=a d(c)=a e(b)=a d(b)#a e(c)=a")
	for n := range 14 {
		r, ok := impl.Prove(sampleSign(), many[:n], 40)
		switch {
		case n > 12 && (ok || !sameResults(r, impl.Result{})):
			t.Errorf("Prove of %d inputs: %v, %v", n, r, ok)
		case n < 12 && (!ok || r.Code != impl.PvSat || len(r.Steps) != n || len(r.Active) != n):
			t.Errorf("Prove of %d inputs: %v, %v", n, r, ok)
		case n == 12 && (!ok || r.Code != impl.PvNo || len(r.Steps) != 13):
			t.Errorf("Prove of %d inputs: %v, %v", n, r, ok)
		}
	}
	// The given inputs are tidied and renamed.
	r, ok := impl.Prove(sampleSign(), clauses("d(L)=K|c#c|K=d(L) "+eightLits), 0)
	want := clauses("d(A)=B A=b|B#b|C=c|D#c|d(A)=b|d(B)#b|e(C)=c|f(E,F)#G")
	if !ok || r.Code != impl.PvOut || !slices.EqualFunc(clausesOf(r.Steps), want, sameClauses) {
		t.Error("Prove of clauses that are not tidy", r, ok)
	}
}

func TestProveInvalid(t *testing.T) {
	refused := func(s impl.Sign, inputs [][]impl.Lit) {
		t.Helper()
		for _, fuel := range []int{0, 10} {
			if r, ok := impl.Prove(s, inputs, fuel); !sameResults(r, impl.Result{}) || ok {
				t.Errorf("Prove of %d inputs with %d symbols: %v, %v", len(inputs), len(s.Arity), r, ok)
			}
		}
	}
	for _, bad := range badSigns() {
		refused(bad, nil)
		refused(bad, clauses("a=a"))
		refused(bad, exampleInputs())
	}
	for _, bad := range badInputs(12) {
		refused(sampleSign(), bad)
		refused(sampleSign(), append(clauses("-"), bad...))
		refused(sampleSign(), append(slices.Clone(bad), clauses("b=c")...))
	}
}

// crowd is a clause of seven inequations with exactly that many c, at most 252, into each of which an equation of c can be
// superposed.
func crowd(many int) []impl.Lit {
	comb := func(first, last int) []int {
		t := []int{5, first}
		for range 18 {
			n := 1
			if many > 0 {
				n = 2
				many--
			}
			t = append(t, 5, n)
		}
		return append(t, last)
	}
	var c []impl.Lit
	for k := range 7 {
		c = append(c, impl.Lit{L: comb(-1-k, 0), R: comb(-1-(k+1)%7, 1)})
	}
	return c
}

// twins is a clause of inequations that become trivial together. It weighs as much as a crowd, and a little less than what is
// superposed into one.
func twins() []impl.Lit {
	var c []impl.Lit
	for _, n := range []int{27, 31, 32, 33, 34, 35, 36, 37} {
		c = append(c, impl.Lit{L: chain(n, -1), R: chain(n, -2)})
	}
	return c
}

// fading is a clause of inequations that become trivial without e. It weighs more than a crowd.
func fading() []impl.Lit {
	var c []impl.Lit
	for n := 31; n < 39; n++ {
		c = append(c, impl.Lit{L: slices.Concat([]int{4}, chain(n, -1)), R: chain(n, -1)})
	}
	return c
}

// TestProveMost: at most 200 steps. The equation of c is superposed into each c of a crowd, and then the last input, or what
// it becomes by an equation that removes e, is found to be impossible.
func TestProveMost(t *testing.T) {
	s := sampleSign()
	some, all := clauses("c=b|b=a"), clauses("e(A)=A c=b|b=a")
	withE := twins()
	withE[0].L = slices.Concat([]int{4}, withE[0].L)
	tests := []struct {
		before     [][]impl.Lit
		many       int
		end        []impl.Lit
		code, long int
		// last is the rule of the last step, and rounds is the number of rounds.
		last, rounds int
	}{
		// The empty clause as a generated step. There are at most 200 steps with it, or before it.
		{some, 195, twins(), impl.PvNo, 199, impl.StResolve, 3},
		{some, 196, twins(), impl.PvNo, 200, impl.StResolve, 3},
		{some, 197, twins(), impl.PvOut, 200, impl.StSuper, 3},
		{some, 198, twins(), impl.PvOut, 200, impl.StSuper, 2},
		{some, 252, twins(), impl.PvOut, 200, impl.StSuper, 2},
		// With a simplified given step before it.
		{all, 193, withE, impl.PvNo, 199, impl.StResolve, 4},
		{all, 194, withE, impl.PvNo, 200, impl.StResolve, 4},
		{all, 195, withE, impl.PvOut, 200, impl.StNormal, 4},
		{all, 196, withE, impl.PvOut, 200, impl.StSuper, 4},
		{all, 197, withE, impl.PvOut, 200, impl.StSuper, 3},
		// The empty clause as a simplified given step.
		{all, 194, fading(), impl.PvNo, 199, impl.StNormal, 4},
		{all, 195, fading(), impl.PvNo, 200, impl.StNormal, 4},
		{all, 196, fading(), impl.PvOut, 200, impl.StSuper, 4},
		{all, 197, fading(), impl.PvOut, 200, impl.StSuper, 3},
	}
	for i, c := range tests {
		inputs := append(slices.Clone(c.before), crowd(c.many), c.end)
		active := []int{0, 1, 2}[:len(c.before)+1]
		r, ok := impl.Prove(s, inputs, 40)
		if r.Code != c.code || len(r.Steps) != c.long || !slices.Equal(r.Active, active) || !ok {
			t.Errorf("Prove of problem %d: %d, %d steps, %v, %v", i, r.Code, len(r.Steps), r.Active, ok)
			continue
		}
		if last := r.Steps[c.long-1]; last.Rule != c.last || isEmptyStep(last) != (c.code == impl.PvNo) {
			t.Errorf("Prove of problem %d: %v", i, last)
		}
		checkDerivation(t, s, inputs, r)
		if same, ok := impl.Prove(s, inputs, c.rounds); !sameResults(same, r) || !ok {
			t.Errorf("Prove of problem %d with fuel %d: %d, %d steps", i, c.rounds, same.Code, len(same.Steps))
		}
		if less, ok := impl.Prove(s, inputs, c.rounds-1); less.Code != impl.PvOut || len(less.Steps) > c.long || !ok {
			t.Errorf("Prove of problem %d with fuel %d: %d, %d steps", i, c.rounds-1, less.Code, len(less.Steps))
		}
	}
}

// TestProveCounter: rewriting with more steps than an int can count is as good as any.
func TestProveCounter(t *testing.T) {
	s, units := counter(5)
	var inputs [][]impl.Lit
	for _, u := range units {
		inputs = append(inputs, []impl.Lit{u})
	}
	inputs = append(inputs, []impl.Lit{{Pos: false, L: digits(39, 4), R: digits(39, 0)}})
	r, ok := impl.Prove(s, inputs, 40)
	checkDerivation(t, s, inputs, r)
	last := r.Steps[len(r.Steps)-1]
	if r.Code != impl.PvNo || last.Rule != impl.StNormal || len(last.Parents) != 11 || last.Parents[0] != 10 || !ok {
		t.Fatal("Prove", r, ok)
	}
	var by []impl.Lit
	for _, k := range last.Parents[1:] {
		by = append(by, r.Steps[k].Clause...)
	}
	if c, n, ok := impl.NormalClause(s, inputs[10], by); ok {
		t.Error("an int can count these steps", c, n)
	}
}
