package tests

import (
	"slices"
	"strconv"
	"strings"
	"testing"

	"loop.example/g00682/impl"
)

func TestChooseOf(t *testing.T) {
	// The weights are 3, 3, 2, 0, 4, 2, 8 and 3.
	steps := stepsOf(clauses("d(A)=b d(c)#b b=c - d(b)=d(c) A#b d(A)=b|c#c|b=d(A) d(L)=K"))
	tests := []struct {
		passive []int
		light   int
	}{
		{[]int{0}, 0},
		{[]int{6}, 6},
		{[]int{7}, 7},
		{[]int{0, 1, 2, 3, 4, 5, 6, 7}, 3},
		{[]int{0, 1, 2, 4, 5, 6, 7}, 2},
		{[]int{7, 6, 5, 4, 3, 2, 1, 0}, 3},
		{[]int{7, 6, 5, 4, 2, 1, 0}, 5},
		{[]int{6, 4}, 4},
		{[]int{4, 6}, 4},
		{[]int{6, 0, 2, 4}, 2},
		{[]int{3, 6}, 3},
		{[]int{6, 3}, 3},
		// Several with the same weight: the first one.
		{[]int{0, 1}, 0},
		{[]int{1, 0}, 1},
		{[]int{7, 1, 0}, 7},
		{[]int{4, 1, 7, 0}, 1},
		{[]int{6, 5, 0, 2}, 5},
		{[]int{6, 2, 0, 5}, 2},
		// A step that stands several times in the list.
		{[]int{6, 6, 6}, 6},
		{[]int{6, 1, 6, 1}, 1},
	}
	for _, c := range tests {
		for _, round := range []int{1, 2, 3, 4, 5, 6, 7, 8, 9, 12, 15, 16, 17, 38, 39, 40, 41, 44, 1000, 1001, 1<<32 + 2, 1 << 32, greatestInt - 3, greatestInt - 1, greatestInt} {
			want := c.light
			if round%4 == 0 {
				want = c.passive[0]
			}
			if got, ok := impl.ChooseOf(sampleSign(), steps, c.passive, round); got != want || !ok {
				t.Errorf("ChooseOf(%v, %d): %d, %v", c.passive, round, got, ok)
			}
		}
		for _, round := range []int{0, -1, -2, -3, -4, -5, -8, -1 << 32, leastInt, leastInt + 1, leastInt + 4} {
			if got, ok := impl.ChooseOf(sampleSign(), steps, c.passive, round); got != 0 || ok {
				t.Errorf("ChooseOf(%v, %d): %d, %v", c.passive, round, got, ok)
			}
		}
	}
	for round := range 10 {
		for _, passive := range [][]int{nil, {}, {8}, {-1}, {0, 8}, {3, -1}, {greatestInt, 3}, {leastInt}, {3, 2, 1 << 32}} {
			if got, ok := impl.ChooseOf(sampleSign(), steps, passive, round); got != 0 || ok {
				t.Errorf("ChooseOf(%v, %d): %d, %v", passive, round, got, ok)
			}
		}
		if got, ok := impl.ChooseOf(sampleSign(), nil, []int{0}, round); got != 0 || ok {
			t.Errorf("ChooseOf without steps, round %d: %d, %v", round, got, ok)
		}
	}
}

// TestChooseOfMany: the greatest weights and many passive steps.
func TestChooseOfMany(t *testing.T) {
	var l [][]impl.Lit
	for n := range 200 {
		// The weights fall from 560 to 361.
		l = append(l, append(slices.Repeat([]impl.Lit{longLit()}, 4), slices.Repeat([]impl.Lit{{Pos: true, L: chain(29, 0), R: chain(29, -1)}}, 4)...))
		for k := range 8 {
			cut := min(max(n-25*k, 0), 25)
			l[n][k].L = l[n][k].L[cut:]
		}
	}
	steps, passive := stepsOf(l), []int{}
	for n := range 200 {
		passive = append(passive, n)
	}
	for round := 1; round < 9; round++ {
		want := 199
		if round%4 == 0 {
			want = 0
		}
		if got, ok := impl.ChooseOf(sampleSign(), steps, passive, round); got != want || !ok {
			t.Error("ChooseOf of 200", round, got, ok)
		}
		more := slices.Concat([]int{100, 50}, slices.Repeat(passive, 100), []int{199})
		if round%4 == 0 {
			want = 100
		}
		if got, ok := impl.ChooseOf(sampleSign(), steps, more, round); got != want || !ok {
			t.Error("ChooseOf of many", round, got, ok)
		}
		if got, ok := impl.ChooseOf(sampleSign(), append(steps, impl.Step{}), passive, round); got != 0 || ok {
			t.Error("ChooseOf with 201 steps", round, got, ok)
		}
	}
}

func TestUnitsOf(t *testing.T) {
	// The steps 0, 2, 5 and 7 have one equation each.
	steps := stepsOf(clauses("d(A)=b d(c)#b b=c - b=c|d(A)=b A=B b#b|d(A)=b a=a A#A"))
	tests := []struct{ active, want []int }{
		{nil, nil},
		{[]int{}, nil},
		{[]int{0}, []int{0}},
		{[]int{1}, nil},
		{[]int{3}, nil},
		{[]int{4}, nil},
		{[]int{6}, nil},
		{[]int{1, 0}, []int{0}},
		{[]int{0, 1, 2, 3, 4, 5, 6, 7, 8}, []int{0, 2, 5, 7}},
		{[]int{8, 7, 6, 5, 4, 3, 2, 1, 0}, []int{7, 5, 2, 0}},
		{[]int{5, 1, 0}, []int{5, 0}},
		{[]int{4, 1, 8, 6, 3}, nil},
		{[]int{7, 7, 1, 7}, []int{7, 7, 7}},
	}
	for _, c := range tests {
		if got, ok := impl.UnitsOf(sampleSign(), steps, c.active); !slices.Equal(got, c.want) || !ok {
			t.Errorf("UnitsOf(%v): %v, %v", c.active, got, ok)
		}
	}
	for _, active := range [][]int{{9}, {-1}, {0, 9}, {9, 0}, {0, 2, -1}, {greatestInt}, {leastInt, 0}, {1 << 32}} {
		if got, ok := impl.UnitsOf(sampleSign(), steps, active); got != nil || ok {
			t.Errorf("UnitsOf(%v): %v, %v", active, got, ok)
		}
	}
	if got, ok := impl.UnitsOf(sampleSign(), nil, nil); got != nil || !ok {
		t.Error("UnitsOf without steps", got, ok)
	}
	if got, ok := impl.UnitsOf(sampleSign(), nil, []int{0}); got != nil || ok {
		t.Error("UnitsOf without steps", got, ok)
	}
	// The document's example, from the given tests.
	if got, ok := impl.UnitsOf(sampleSign(), stepsOf(exampleInputs()), []int{1, 0}); !slices.Equal(got, []int{0}) || !ok {
		t.Error("UnitsOf of the example", got, ok)
	}
}

// TestUnitsOfMany: the first ten, with other clauses between them.
func TestUnitsOfMany(t *testing.T) {
	for _, text := range []string{"b=c ", "b=c b#c ", "- b=c ", "b=c|b=c b=c b#c "} {
		l := clauses(strings.Repeat(text, 50))
		var all, units, last []int
		for n, c := range l {
			all = append(all, n)
			if len(c) == 1 && c[0].Pos {
				units = append(units, n)
			}
			// Indexes beyond the tenth unit are also read.
			if len(units) <= 10 {
				last = append(last, n)
			}
			want := units[:min(len(units), 10)]
			if got, ok := impl.UnitsOf(sampleSign(), stepsOf(l), all); !slices.Equal(got, want) || !ok {
				t.Fatalf("UnitsOf of the first %d of %s: %v, %v", n+1, text, got, ok)
			}
		}
		bad := append(slices.Clone(all), len(l))
		if got, ok := impl.UnitsOf(sampleSign(), stepsOf(l), bad); got != nil || ok {
			t.Errorf("UnitsOf of a step that does not exist, %s: %v, %v", text, got, ok)
		}
		slices.Reverse(last)
		slices.Reverse(units)
		if got, ok := impl.UnitsOf(sampleSign(), stepsOf(l), last); len(got) != 10 || !slices.Equal(got, units[len(units)-10:]) || !ok {
			t.Errorf("UnitsOf backwards, %s: %v, %v", text, got, ok)
		}
	}
	most := slices.Repeat(clauses("b=c"), 199)
	for n := range 4 {
		steps := stepsOf(append(slices.Clone(most), slices.Repeat(clauses("c=b"), n)...))
		got, ok := impl.UnitsOf(sampleSign(), steps, []int{198})
		if ok != (n < 2) || ok && !slices.Equal(got, []int{198}) {
			t.Error("UnitsOf with steps", 199+n, got, ok)
		}
	}
}

func TestIsRedundant(t *testing.T) {
	tests := []struct {
		c, l string
		want bool
	}{
		{"d(c)=b|c=c", "", true},
		{"d(c)=b|c=b", "d(A)=b", true},
		// Tautologies, and clauses that are none.
		{"b=b", "", true},
		{"A=A", "", true},
		{"b=c|b#c", "", true},
		{"b=c|c#b", "", true},
		{"a#b|d(A)=e(B)|e(B)#d(A)", "", true},
		{"b=b", "d(A)=c c#c", true},
		{"-", "", false},
		{"b=c", "", false},
		{"b#b", "", false},
		{"b#c|c#b", "", false},
		{"d(A)=b|d(B)#b", "", false},
		// A clause that is subsumed by itself, or by itself with other variables.
		{"b=c", "b=c", true},
		{"b#c", "b#c", true},
		{"b=c", "c=b", true},
		{"d(A)=B|A#c", "d(A)=B|A#c", true},
		{"d(A)=B|A#c", "d(C)=A|C#c", true},
		{"d(A)=b", "d(L)=b", true},
		{"a=b|A=c|d(A)#b|e(A)#B", "a=b|A=c|d(A)#b|e(A)#B", true},
		// More than four literals, and none, subsume nothing.
		{"a=b|A=c|d(A)#b|e(A)#B|c#b", "a=b|A=c|d(A)#b|e(A)#B|c#b", false},
		{"a=b|A=c|d(A)#b|e(A)#B|c#b", "a=b|A=c|d(A)#b|e(A)#B", true},
		{eightLits, eightLits, false},
		{eightLits, "A=b|B#b", true},
		{"b=c", "-", false},
		{"-", "-", false},
		{"-", "b=c", false},
		// Several clauses.
		{"d(c)=b|c=b", "d(A)=c d(A)#b e(A)=b", false},
		{"d(c)=b|c=b", "d(A)=c d(A)#b c=b", true},
		{"d(c)=b|c=b", "d(A)=b d(A)#b e(A)=b", true},
		{"d(c)=b|c=b", "d(A)=c - d(A)=B d(A)#b", true},
		// Clauses that would subsume it only with the other Pos, one variable for two terms, or fewer literals.
		{"d(c)=b", "d(A)#b", false},
		{"f(b,c)=a", "f(A,A)=a", false},
		{"f(c,c)=a", "f(A,A)=a", true},
		{"b=c", "b=c|b=c", false},
		{"b=c|b=c", "b=c|b=c", true},
		{"d(A)=b", "d(c)=b", false},
		{"A=b", "d(A)=b", false},
	}
	for _, c := range tests {
		if got, ok := impl.IsRedundant(sampleSign(), clause(c.c), clauses(c.l)); got != c.want || !ok {
			t.Errorf("IsRedundant(%s, %s): %v, %v", c.c, c.l, got, ok)
		}
	}
}

// TestIsRedundantMany: one clause that subsumes it among at most 200.
func TestIsRedundantMany(t *testing.T) {
	s, c := sampleSign(), clause("d(c)=b|c=b")
	for many := 190; many < 205; many++ {
		l := slices.Repeat(clauses("d(c)=a"), many)
		for _, tautology := range []bool{true, false} {
			d := c
			if tautology {
				d = clause("d(c)=b|c=c")
			}
			if got, ok := impl.IsRedundant(s, d, l); got != (tautology && many <= 200) || ok != (many <= 200) {
				t.Errorf("IsRedundant with %d clauses, tautology %v: %v, %v", many, tautology, got, ok)
			}
		}
		for _, k := range []int{0, 1, 100, many - 2, many - 1} {
			found := slices.Clone(l)
			found[k] = clause("d(A)=b")
			if got, ok := impl.IsRedundant(s, c, found); got != (many <= 200) || ok != (many <= 200) {
				t.Errorf("IsRedundant with %d clauses, subsumed by %d: %v, %v", many, k, got, ok)
			}
		}
	}
}

// chooseCall is a function of chapter 8 with steps and a clause. It reports whether it succeeds and whether its other result
// is the zero value.
type chooseCall struct {
	name string
	call func(s impl.Sign, steps []impl.Step, c []impl.Lit) (ok, zero bool)
}

func chooseCalls() []chooseCall {
	return []chooseCall{
		{"ChooseOf", func(s impl.Sign, steps []impl.Step, _ []impl.Lit) (bool, bool) {
			k, ok := impl.ChooseOf(s, steps, []int{1}, 1)
			return ok, k == 0
		}},
		{"UnitsOf", func(s impl.Sign, steps []impl.Step, _ []impl.Lit) (bool, bool) {
			l, ok := impl.UnitsOf(s, steps, []int{0})
			return ok, l == nil
		}},
		{"UnitsOf of none", func(s impl.Sign, steps []impl.Step, _ []impl.Lit) (bool, bool) {
			l, ok := impl.UnitsOf(s, steps, nil)
			return ok, l == nil
		}},
		{"IsRedundant", func(s impl.Sign, steps []impl.Step, c []impl.Lit) (bool, bool) {
			is, ok := impl.IsRedundant(s, c, clausesOf(steps))
			return ok, !is
		}},
	}
}

func TestChooseInvalid(t *testing.T) {
	for _, c := range chooseCalls() {
		refused := func(s impl.Sign, steps []impl.Step, d []impl.Lit) {
			t.Helper()
			if ok, zero := c.call(s, steps, d); ok || !zero {
				t.Errorf("%s of %d steps and %v with %d symbols: succeeds %v, zero value %v", c.name, len(steps), d[:min(len(d), 9)], len(s.Arity), ok, zero)
			}
		}
		s, good, d := sampleSign(), stepsOf(clauses("b=c d(A)=b")), clause("b=c|a#a")
		if ok, zero := c.call(s, good, d); !ok || zero != strings.Contains(c.name, "none") {
			t.Errorf("%s of valid arguments: succeeds %v, zero value %v", c.name, ok, zero)
		}
		for _, bad := range badSigns() {
			refused(bad, good, d)
			refused(bad, stepsOf(clauses("a=a a=a")), clause("a=a"))
			refused(bad, nil, nil)
		}
		for _, bad := range badInputs(200) {
			refused(s, stepsOf(bad), d)
			refused(s, append(slices.Clone(good), stepsOf(bad)...), d)
			refused(s, append(stepsOf(bad), good...), clause("a=a"))
		}
		for i, bad := range badClauses() {
			if c.name == "IsRedundant" {
				refused(s, good, bad)
				refused(s, nil, bad)
				refused(s, stepsOf(append(clauses("A=B"), badClauses()[i])), bad)
			}
		}
	}
}

// TestChooseLarge compares the three functions with the second implementation, for many signatures and larger clauses.
func TestChooseLarge(t *testing.T) {
	d := &dice{state: 90}
	seen := map[string]int{}
	for range 4000 {
		s := d.sign()
		var rows [][]lit
		for range 1 + d.below(30) {
			if d.below(3) == 0 {
				rows = append(rows, []lit{d.lit(s, 6)})
			} else {
				rows = append(rows, d.lits(s, 4, 6))
			}
		}
		var l [][]impl.Lit
		for _, row := range rows {
			l = append(l, madeOf(row))
		}
		at := d.elements(1+d.below(40), len(rows))
		round := 1 + d.below(12)
		if k, ok := impl.ChooseOf(s, stepsOf(l), at, round); k != chosenOf(rows, at, round) || !ok {
			t.Fatalf("ChooseOf(%v, %v, %v, %d): %d, %v", s, l, at, round, k, ok)
		}
		want := unitsIn(rows, at)
		if units, ok := impl.UnitsOf(s, stepsOf(l), at); !slices.Equal(units, want) || !ok {
			t.Fatalf("UnitsOf(%v, %v, %v): %v, %v", s, l, at, units, ok)
		}
		seen[strconv.Itoa(len(want))]++
		c := d.covered(s, rows[0], 1+d.below(3))
		is, ok := impl.IsRedundant(s, l[0], append(l[1:], madeOf(c)))
		if is != redundantLits(rows[0], append(rows[1:], c)) || !ok {
			t.Fatalf("IsRedundant(%v, %s, %v, %s): %v, %v", s, textOfLits(rows[0]), l[1:], textOfLits(c), is, ok)
		}
		seen[strconv.FormatBool(is)]++
	}
	if seen["10"] < 300 || seen["0"] < 100 || seen["true"] < 1000 || seen["false"] < 500 {
		t.Error("too few cases of a kind", seen)
	}
}
