package tests

import (
	"slices"
	"testing"

	"loop.example/g00682/impl"
)

func TestNeededBy(t *testing.T) {
	tests := []struct {
		parents [][]int
		k       int
		want    []int
	}{
		{[][]int{nil}, 0, []int{0}},
		{[][]int{nil, nil, nil}, 0, []int{0}},
		{[][]int{nil, nil, nil}, 1, []int{1}},
		{[][]int{nil, nil, nil}, 2, []int{2}},
		{[][]int{nil, {0}, {1}}, 0, []int{0}},
		{[][]int{nil, {0}, {1}}, 1, []int{0, 1}},
		{[][]int{nil, {0}, {1}}, 2, []int{0, 1, 2}},
		{[][]int{nil, {0}, {0}}, 2, []int{0, 2}},
		{[][]int{nil, {}, {1}}, 2, []int{1, 2}},
		// The same parent twice.
		{[][]int{nil, {0, 0}}, 1, []int{0, 1}},
		{[][]int{nil, nil, {1, 1, 1}}, 2, []int{1, 2}},
		{[][]int{nil, {0}, {1, 0, 1, 0}}, 2, []int{0, 1, 2}},
		// Parents in any order.
		{[][]int{nil, nil, nil, {2, 0}}, 3, []int{0, 2, 3}},
		{[][]int{nil, nil, nil, {0, 2}}, 3, []int{0, 2, 3}},
		{[][]int{nil, nil, nil, {2, 0, 1}}, 3, []int{0, 1, 2, 3}},
		// Parents with common parents.
		{[][]int{nil, {0}, {0}, {1, 2}}, 3, []int{0, 1, 2, 3}},
		{[][]int{nil, {0}, {0}, {2, 1}}, 3, []int{0, 1, 2, 3}},
		{[][]int{nil, nil, {0, 1}, {1, 0}, {2, 3}, {4, 2}}, 5, []int{0, 1, 2, 3, 4, 5}},
		{[][]int{nil, nil, {0, 1}, {1, 0}, {2, 3}, {4, 2}}, 4, []int{0, 1, 2, 3, 4}},
		{[][]int{nil, nil, {0, 1}, {1, 0}, {2, 3}, {4, 2}}, 3, []int{0, 1, 3}},
		// Others between them that are not needed, or that need the step.
		{[][]int{nil, nil, {0}, {1}, {2, 0}}, 4, []int{0, 2, 4}},
		{[][]int{nil, nil, {0}, {1}, {3, 3}}, 4, []int{1, 3, 4}},
		{[][]int{nil, {0}, {1}, nil, {0, 1, 2, 3}}, 3, []int{3}},
		{[][]int{nil, {0}, {0, 1}, {0, 1, 2}, {0, 1, 2, 3}}, 2, []int{0, 1, 2}},
	}
	for _, c := range tests {
		if got, ok := impl.NeededBy(sampleSign(), linked(c.parents...), c.k); !slices.Equal(got, c.want) || !ok {
			t.Errorf("NeededBy(%v, %d): %v, %v", c.parents, c.k, got, ok)
		}
		many := len(c.parents)
		for _, k := range []int{-1, -2, many, many + 1, -many, 200, 1 << 32, leastInt, greatestInt} {
			if got, ok := impl.NeededBy(sampleSign(), linked(c.parents...), k); got != nil || ok {
				t.Errorf("NeededBy(%v, %d): %v, %v", c.parents, k, got, ok)
			}
		}
	}
	for _, k := range []int{0, 1, -1, leastInt, greatestInt} {
		if got, ok := impl.NeededBy(sampleSign(), nil, k); got != nil || ok {
			t.Errorf("NeededBy without steps, %d: %v, %v", k, got, ok)
		}
	}
	// The document's example.
	if got, ok := impl.NeededBy(sampleSign(), checkedSteps(), 3); !slices.Equal(got, []int{0, 2, 3}) || !ok {
		t.Error("NeededBy of the example", got, ok)
	}
}

// TestNeededByMany: up to 200 steps, which need all before them or few.
func TestNeededByMany(t *testing.T) {
	shapes := map[string]func(k int) []int{
		"none":  func(k int) []int { return nil },
		"chain": func(k int) []int { return []int{k - 1} },
		"odd":   func(k int) []int { return []int{max(k-2, 0), max(k-2, 0)} },
		"half":  func(k int) []int { return []int{k / 2, k / 3} },
		"all": func(k int) []int {
			l := make([]int, k)
			for i := range l {
				l[i] = k - 1 - i
			}
			return l
		},
	}
	for name, shape := range shapes {
		parents := [][]int{nil}
		for k := 1; k < 201; k++ {
			parents = append(parents, shape(k))
		}
		for _, many := range []int{1, 2, 199, 200} {
			steps := linked(parents[:many]...)
			for k := range many {
				if got, ok := impl.NeededBy(sampleSign(), steps, k); !slices.Equal(got, neededOf(steps, k)) || !ok {
					t.Fatalf("NeededBy of %s with %d steps, %d: %v, %v", name, many, k, got, ok)
				}
			}
		}
		for _, k := range []int{0, 1, 199, 200} {
			if got, ok := impl.NeededBy(sampleSign(), linked(parents...), k); got != nil || ok {
				t.Fatalf("NeededBy of %s with 201 steps, %d: %v, %v", name, k, got, ok)
			}
		}
	}
}

func TestFirstEmpty(t *testing.T) {
	tests := []struct {
		clauses string
		want    int
		ok      bool
	}{
		{"", 0, false},
		{"b=c", 0, false},
		{"b#b", 0, false},
		{"b=c A#B " + eightLits, 0, false},
		{"-", 0, true},
		{"- b=c", 0, true},
		{"b=c -", 1, true},
		{"b=c - b=c", 1, true},
		{"b=c A#B b#b -", 3, true},
		{"- -", 0, true},
		{"b=c - - b=c -", 1, true},
		{"- b=c -", 0, true},
		{"b=c b=c - b=c -", 2, true},
	}
	for _, c := range tests {
		steps := stepsOf(clauses(c.clauses))
		for k := range steps {
			steps[k].Parents = slices.Repeat([]int{0}, min(k, 3))
		}
		if got, ok := impl.FirstEmpty(sampleSign(), steps); got != c.want || ok != c.ok {
			t.Errorf("FirstEmpty(%s): %d, %v", c.clauses, got, ok)
		}
	}
	for _, many := range []int{1, 2, 199, 200, 201} {
		for _, at := range []int{0, 1, 100, 198, 199, 200} {
			steps := slices.Repeat(linked(nil), many)
			if at < many {
				steps[at].Clause = nil
				steps[many-1].Clause = []impl.Lit{}
			}
			want := at < many && many <= 200
			if got, ok := impl.FirstEmpty(sampleSign(), steps); ok != want || want && got != at || !want && got != 0 {
				t.Errorf("FirstEmpty of %d steps, %d: %d, %v", many, at, got, ok)
			}
		}
	}
	if got, ok := impl.FirstEmpty(sampleSign(), checkedSteps()); got != 3 || !ok {
		t.Error("FirstEmpty of the example", got, ok)
	}
}

// trimTest is a call of TrimSteps that succeeds with these steps, or fails, with "no".
type trimTest struct{ steps, want string }

func checkTrim(t *testing.T, tests []trimTest) {
	t.Helper()
	for _, c := range tests {
		var want []impl.Step
		if c.want != "no" {
			want = derivation(c.want)
		}
		got, ok := impl.TrimSteps(sampleSign(), derivation(c.steps))
		if !sameSteps(got, want) || ok != (c.want != "no") {
			t.Errorf("TrimSteps(%s): %s, %v", c.steps, textOfSteps(sampleSign(), got), ok)
		}
		// Trimming what has been trimmed.
		if again, ok2 := impl.TrimSteps(sampleSign(), got); ok2 != ok || !sameSteps(again, got) {
			t.Errorf("TrimSteps(%s) again: %s, %v", c.want, textOfSteps(sampleSign(), again), ok2)
		}
	}
}

func TestTrimSteps(t *testing.T) {
	checkTrim(t, []trimTest{
		{threeSteps + "normal 2 0 : : -", "input : 0 : d(A)=b; input : 2 : d(c)#b; normal 1 0 : : -"},
		{threeSteps + "normal 0 2 : : -", "input : 0 : d(A)=b; input : 2 : d(c)#b; normal 0 1 : : -"},
		// No empty clause.
		{"", "no"},
		{threeSteps, "no"},
		{"input : 0 : b#b", "no"},
		// Only one step is needed, or all are.
		{"input : 0 : -", "input : 0 : -"},
		{threeSteps + "input : 3 : -", "input : 3 : -"},
		{threeSteps + "normal : : -", "normal : : -"},
		{"input : 3 : -; " + threeSteps, "input : 3 : -"},
		{"input : 0 : b=c; normal 0 : : c=b; normal 1 : : -", "input : 0 : b=c; normal 0 : : c=b; normal 1 : : -"},
		{threeSteps + "normal 0 1 2 : : -", threeSteps + "normal 0 1 2 : : -"},
		{threeSteps + "normal 2 2 1 0 0 : : -", threeSteps + "normal 2 2 1 0 0 : : -"},
		{"input : 0 : b=c; super 0 0 : 1 2 3 4 5 : b=b; factor 1 0 : 9 8 7 6 : a=a; normal 2 : : -", "input : 0 : b=c; super 0 0 : 1 2 3 4 5 : b=b; factor 1 0 : 9 8 7 6 : a=a; normal 2 : : -"},
		// Several are dropped: in the front, between the others and at the end.
		{
			"input : 5 : a=b; input : 6 : a=c; input : 0 : b=c; normal 2 : : c=b; normal 3 : : -",
			"input : 0 : b=c; normal 0 : : c=b; normal 1 : : -",
		},
		{
			"input : 0 : b=c; input : 5 : a=b; normal 0 1 : : a=a; normal 0 : : c=b; resolve 2 : 0 : b=b; normal 3 0 : : -",
			"input : 0 : b=c; normal 0 : : c=b; normal 1 0 : : -",
		},
		{
			"input : 0 : a=a; input : 1 : b=b; input : 2 : c=c; input : 3 : a=b; input : 4 : b=c; normal 1 3 : : a=c; input : 5 : a#a; normal 5 1 3 5 : : -; normal 7 6 : : -; input : 0 : a=a",
			"input : 1 : b=b; input : 3 : a=b; normal 0 1 : : a=c; normal 2 0 1 2 : : -",
		},
		{
			"input : 0 : a=a; normal 0 : : b=b; normal 0 : : c=c; normal 1 2 0 : : -; normal 3 : : -",
			"input : 0 : a=a; normal 0 : : b=b; normal 0 : : c=c; normal 1 2 0 : : -",
		},
		// Of several empty clauses, the first one counts, also if a later one needs less.
		{"input : 0 : b=c; normal 0 : : -; input : 1 : -", "input : 0 : b=c; normal 0 : : -"},
		{"input : 1 : a=a; input : 0 : b=c; normal 1 : : -; normal 2 : : -; normal 0 : : -", "input : 0 : b=c; normal 0 : : -"},
		// All fields are kept, also of steps that are not possible.
		{
			"none : 1 2 3 : L=K; input : 1 : a=a; factor 0 0 0 : -1 -2 : d(C)#B|c=c|B=d(C)|A=b|B#b|C=c; none 2 0 : 7 : -",
			"none : 1 2 3 : L=K; factor 0 0 0 : -1 -2 : d(C)#B|c=c|B=d(C)|A=b|B#b|C=c; none 1 0 : 7 : -",
		},
	})
	for _, rule := range []int{-1, 6, 1 << 32, leastInt, greatestInt} {
		steps := linked(nil, nil, []int{1, 1, 1})
		steps[1].Rule, steps[2].Rule = rule, rule-1
		steps[1].Way, steps[2].Way = []int{leastInt, greatestInt}, slices.Repeat([]int{rule}, 1000)
		steps[2].Clause = nil
		want := copiedSteps(steps[1:])
		want[1].Parents = []int{0, 0, 0}
		if got, ok := impl.TrimSteps(sampleSign(), steps); !sameSteps(got, want) || !ok {
			t.Errorf("TrimSteps with the rule %d: %v, %v", rule, got, ok)
		}
	}
}

// TestTrimMany: 200 steps and 201, of which all are needed, every other one, or only one.
func TestTrimMany(t *testing.T) {
	for _, many := range []int{1, 2, 3, 198, 199, 200, 201} {
		for back, name := range []string{"only one", "all", "every other"} {
			parents := [][]int{nil}
			for k := 1; k < many; k++ {
				parents = append(parents, []int{max(k-back, 0)})
				if back == 0 {
					parents[k] = nil
				}
			}
			steps := linked(parents...)
			steps[many-1].Clause = nil
			got, ok := impl.TrimSteps(sampleSign(), steps)
			if many > 200 {
				if got != nil || ok {
					t.Errorf("TrimSteps of %d steps, %s: %d, %v", many, name, len(got), ok)
				}
				continue
			}
			if want := trimmedOf(steps); !sameSteps(got, want) || !ok {
				t.Errorf("TrimSteps of %d steps, %s: %d steps, %v", many, name, len(got), ok)
			}
			if long := []int{1, many, many/2 + 1}[back]; many > 2 && len(got) != long {
				t.Errorf("TrimSteps of %d steps, %s: %d steps", many, name, len(got))
			}
		}
	}
}

func TestInputsOf(t *testing.T) {
	tests := []struct {
		steps string
		want  []int
	}{
		{threeSteps + "normal 2 0 : : -", []int{0, 1, 2}},
		{"input : 0 : d(A)=b; input : 2 : d(c)#b; normal 1 0 : : -", []int{0, 2}},
		{"", nil},
		{"normal : : -", nil},
		{"input : 0 : -", []int{0}},
		{"input : 7 : a=a", []int{7}},
		// No number, two numbers, and more.
		{"input : : a=a", nil},
		{"input : 0 1 : a=a", nil},
		{"input : 0 0 : a=a", nil},
		{"input : 0 1 2 3 4 : a=a", nil},
		{"input : : a=a; input : 3 : a=a; input : 4 4 : a=a; input : 1 : a=a", []int{1, 3}},
		// Not in order, and several times.
		{"input : 2 : a=a; input : 1 : a=a; input : 0 : a=a", []int{0, 1, 2}},
		{"input : 1 : a=a; input : 2 : a=a; input : 0 : a=a", []int{0, 1, 2}},
		{"input : 1 : a=a; input : 1 : a=a", []int{1}},
		{"input : 3 : a=a; input : 1 : a=a; input : 3 : a=a; input : 1 : b=c; input : 2 : -; input : 3 : a=a", []int{1, 2, 3}},
		// Numbers that are no input, and negative ones.
		{"input : 12 : a=a; input : 100 : a=a; input : 13 : a=a", []int{12, 13, 100}},
		{"input : -1 : a=a; input : 0 : a=a; input : -5 : a=a; input : -1 : a=a; input : 4 : a=a", []int{-5, -1, 0, 4}},
		{"input : 9223372036854775807 : a=a; input : -9223372036854775808 : a=a; input : 0 : a=a", []int{leastInt, 0, greatestInt}},
		// Other rules with one number.
		{"resolve : 0 : a=a", nil},
		{"none : 0 : a=a; super : 1 : a=a; resolve : 2 : a=a; factor : 3 : a=a; normal : 4 : a=a; 6 : 5 : a=a; -1 : 6 : a=a; 4294967297 : 7 : a=a", nil},
		{"input : 5 : a=a; resolve 0 : 3 : a=a; normal 1 : 4 : -", []int{5}},
		// Parents do not matter.
		{"input : 5 : a=a; input 0 : 3 : a=a; input 0 1 0 : 4 : -", []int{3, 4, 5}},
	}
	for _, c := range tests {
		if got, ok := impl.InputsOf(sampleSign(), derivation(c.steps)); !slices.Equal(got, c.want) || !ok {
			t.Errorf("InputsOf(%s): %v, %v", c.steps, got, ok)
		}
	}
	for _, many := range []int{1, 199, 200, 201} {
		var steps []impl.Step
		var want []int
		for k := range many {
			steps = append(steps, impl.Step{Rule: impl.StInput, Way: []int{-3 * k}, Clause: clause("a=a")})
			want = append([]int{-3 * k}, want...)
		}
		if many > 200 {
			want = nil
		}
		if got, ok := impl.InputsOf(sampleSign(), steps); !slices.Equal(got, want) || ok != (many <= 200) {
			t.Errorf("InputsOf of %d steps: %v, %v", many, got, ok)
		}
	}
}

// stepCall is a function of chapter 9 with steps and a number. It reports whether it succeeds and whether its other result is
// the zero value.
type stepCall struct {
	name string
	call func(s impl.Sign, steps []impl.Step, k int) (ok, zero bool)
}

func stepCalls() []stepCall {
	return []stepCall{
		{"NeededBy", func(s impl.Sign, steps []impl.Step, k int) (bool, bool) {
			l, ok := impl.NeededBy(s, steps, k)
			return ok, l == nil
		}},
		{"FirstEmpty", func(s impl.Sign, steps []impl.Step, _ int) (bool, bool) {
			k, ok := impl.FirstEmpty(s, steps)
			return ok, k == 0
		}},
		{"TrimSteps", func(s impl.Sign, steps []impl.Step, _ int) (bool, bool) {
			l, ok := impl.TrimSteps(s, steps)
			return ok, l == nil
		}},
		{"InputsOf", func(s impl.Sign, steps []impl.Step, _ int) (bool, bool) {
			l, ok := impl.InputsOf(s, steps)
			return ok, l == nil
		}},
		{"IsRefuted", func(s impl.Sign, steps []impl.Step, _ int) (bool, bool) {
			is, ok := impl.IsRefuted(s, clauses("a=a a#a"), steps)
			return ok, !is
		}},
	}
}

// refutedSteps are accepted for the inputs a=a and a#a. Each function of chapter 9 finds something in them.
func refutedSteps() []impl.Step {
	return derivation("input : 0 : a=a; input : 1 : -; normal 1 0 : : -")
}

func TestStepsInvalid(t *testing.T) {
	for _, c := range stepCalls() {
		refused := func(s impl.Sign, steps []impl.Step, k int) {
			t.Helper()
			if ok, zero := c.call(s, steps, k); ok || !zero {
				t.Errorf("%s of %d steps with %d symbols: succeeds %v, zero value %v: %v", c.name, len(steps), len(s.Arity), ok, zero, steps[:min(len(steps), 5)])
			}
		}
		s := sampleSign()
		if ok, zero := c.call(s, refutedSteps(), 1); !ok || zero {
			t.Errorf("%s of valid steps: succeeds %v, zero value %v", c.name, ok, zero)
		}
		for _, bad := range badSigns() {
			refused(bad, refutedSteps(), 1)
			refused(bad, nil, 0)
		}
		// Clauses that are not valid, also of steps that do not matter.
		for _, bad := range badClauses() {
			for at := range 3 {
				steps := refutedSteps()
				steps[at].Clause = bad
				refused(s, steps, 1)
				refused(s, slices.Insert(refutedSteps(), at, impl.Step{Clause: bad}), 0)
			}
			refused(s, append(refutedSteps(), impl.Step{Clause: bad}), 1)
		}
		// Parents that are the step itself, later steps, no steps, or negative.
		for at := range 3 {
			for _, p := range []int{at, at + 1, 3, 4, 200, -1, -2, 1 << 32, leastInt, greatestInt} {
				for _, parents := range [][]int{{p}, append(slices.Repeat([]int{0}, min(at, 1)), p), {p, 0}, {p, p}} {
					steps := refutedSteps()
					steps[at].Parents = parents
					refused(s, steps, 1)
				}
			}
		}
		refused(s, append(refutedSteps(), impl.Step{Parents: []int{3}}), 1)
		for _, many := range []int{198, 199, 1000} {
			refused(s, append(refutedSteps(), make([]impl.Step, many)...), 1)
		}
		if ok, zero := c.call(s, append(refutedSteps(), slices.Repeat(derivation("input : 0 : a=a"), 197)...), 1); !ok || zero {
			t.Errorf("%s of 200 steps: succeeds %v, zero value %v", c.name, ok, zero)
		}
	}
}
