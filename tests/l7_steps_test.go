package tests

import (
	"math"
	"math/big"
	"slices"
	"testing"

	"loop.example/g00682/impl"
)

// counter has units by which a term counts down. Symbol 0 ends the term, symbol 1 + n is the digit n, the first digit counts
// most, and the last symbol is a mark: taking 1 from a digit puts it behind that digit, and it then moves to the end and puts
// the greatest digit for each 0 that it passes.
func counter(base int) (impl.Sign, []impl.Lit) {
	s := impl.Sign{Arity: []int{0}}
	for range base + 1 {
		s.Arity = append(s.Arity, 1)
	}
	mark := base + 1
	unit := func(l, r []int) impl.Lit { return impl.Lit{Pos: true, L: l, R: r} }
	units := []impl.Lit{unit([]int{mark, 1, -1}, []int{base, mark, -1}), unit([]int{mark, 0}, []int{base, 0})}
	for digit := 2; digit <= base; digit++ {
		units = append(units, unit([]int{digit, 1, -1}, []int{digit - 1, mark, -1}), unit([]int{digit, 0}, []int{digit - 1, 0}))
	}
	return s, units
}

// digits is a term with that many times the same digit.
func digits(many, digit int) []int { return append(slices.Repeat([]int{1 + digit}, many), 0) }

// countedSteps is the number of steps from that many times the greatest digit to that many times 0. Before each step of the
// first digit, the others count down, and after it, the mark moves behind all of them.
func countedSteps(base, many int) *big.Int {
	steps := big.NewInt(0)
	for n := 1; n <= many; n++ {
		steps.Mul(steps, big.NewInt(int64(base)))
		steps.Add(steps, big.NewInt(int64((base-1)*n)))
	}
	return steps
}

// repeated counts the steps of StepTerm.
func repeated(t *testing.T, s impl.Sign, x []int, units []impl.Lit) ([]int, int) {
	t.Helper()
	for steps := 0; ; steps++ {
		y, _, _, ok := impl.StepTerm(s, x, units)
		if is, ok2 := impl.IsNormal(s, x, units); is == ok || !ok2 {
			t.Fatalf("IsNormal(%v, %v, %v): %v, %v", s, x, units, is, ok2)
		}
		if !ok {
			return x, steps
		}
		x = y
	}
}

// TestNormalTermMany: many steps, counted in three ways.
func TestNormalTermMany(t *testing.T) {
	for base := 2; base <= 5; base++ {
		s, units := counter(base)
		trees, _ := goodUnits(s, units)
		for many := range 10 - base {
			x, want := digits(many, base-1), digits(many, 0)
			steps := int(countedSteps(base, many).Int64())
			if got, n := repeated(t, s, x, units); !slices.Equal(got, want) || n != steps {
				t.Errorf("StepTerm, %d digits with base %d: %v after %d steps", many, base, got, n)
			}
			if got, n, ok := impl.NormalTerm(s, x, units); !slices.Equal(got, want) || n != steps || !ok {
				t.Errorf("NormalTerm, %d digits with base %d: %v, %d, %v", many, base, got, n, ok)
			}
			checkNormal(t, s, treeOf(s, digits(min(many, 4), base-1)), trees)
		}
	}
}

// TestNormalTermMost: so many steps that they cannot be performed one after the other, and more than an int can count.
func TestNormalTermMost(t *testing.T) {
	succeeded, failed := 0, 0
	for base := 2; base <= 5; base++ {
		s, units := counter(base)
		for many := 10; many < 40; many++ {
			steps, want := countedSteps(base, many), digits(many, 0)
			got, n, ok := impl.NormalTerm(s, digits(many, base-1), units)
			if !steps.IsInt64() {
				failed++
				if got != nil || n != 0 || ok {
					t.Errorf("NormalTerm, %d digits with base %d: %v, %d, %v", many, base, got, n, ok)
				}
				continue
			}
			succeeded++
			if !slices.Equal(got, want) || int64(n) != steps.Int64() || !ok {
				t.Errorf("NormalTerm, %d digits with base %d: %v, %d, %v", many, base, got, n, ok)
			}
			if is, ok := impl.IsNormal(s, want, units); !is || !ok {
				t.Errorf("IsNormal, %d digits with base %d: %v, %v", many, base, is, ok)
			}
		}
	}
	if succeeded < 60 || failed < 10 {
		t.Error("too few cases of a kind", succeeded, failed)
	}
}

// TestNormalTermBoth: the steps of two arguments, of which one may have too many for an int.
func TestNormalTermBoth(t *testing.T) {
	s, units := counter(4)
	s.Arity = append(s.Arity, 2)
	for many := range 38 {
		x, y := digits(many, 3), digits(37-many, 3)
		steps := countedSteps(4, many)
		steps.Add(steps, countedSteps(4, 37-many))
		want := slices.Concat([]int{6}, digits(many, 0), digits(37-many, 0))
		if many == 17 || many == 20 {
			// A step that needs both to be normal.
			units = append(units[:8], impl.Lit{Pos: true, L: want, R: []int{0}})
			steps.Add(steps, big.NewInt(1))
			want = []int{0}
		}
		got, n, ok := impl.NormalTerm(s, slices.Concat([]int{6}, x, y), units)
		if many > 5 && many < 32 && (!slices.Equal(got, want) || !steps.IsInt64() || int64(n) != steps.Int64() || !ok) {
			t.Errorf("NormalTerm, %d digits and the other ones: %v, %d, %v", many, got, n, ok)
		}
		if (many < 6 || many > 31) && (got != nil || n != 0 || ok || steps.IsInt64()) {
			t.Errorf("NormalTerm, %d digits and the other ones: %v, %d, %v", many, got, n, ok)
		}
	}
}

// TestNormalClauseMost: the steps of all terms together can be too many for an int, also if those of each term are not.
func TestNormalClauseMost(t *testing.T) {
	s, units := counter(3)
	few, steps := digits(38, 2), countedSteps(3, 38).Int64()
	if steps > math.MaxInt/4 || steps < math.MaxInt/5 {
		t.Fatal("the number of steps does not fit the test", steps)
	}
	for many := 1; many <= 8; many++ {
		c := slices.Repeat([]impl.Lit{{Pos: true, L: few, R: []int{0}}}, many)
		got, n, ok := impl.NormalClause(s, c, units)
		if many > 4 {
			if got != nil || n != 0 || ok {
				t.Errorf("NormalClause of %d literals: %v, %d, %v", many, got, n, ok)
			}
			continue
		}
		want := []impl.Lit{{Pos: true, L: digits(38, 0), R: []int{0}}}
		if !sameClauses(got, want) || n != many*int(steps) || !ok {
			t.Errorf("NormalClause of %d literals: %v, %d, %v", many, got, n, ok)
		}
	}
}

// TestNormalTermForgets: very many different subterms. Two counters stand one behind the other: each step of the first one
// (symbols 5 to 7) sends a mark (4) into the second one (2 and 3), which counts down, too; 1 stands between them.
func TestNormalTermForgets(t *testing.T) {
	s := impl.Sign{Arity: []int{0, 1, 1, 1, 1, 1, 1, 1}}
	var units []impl.Lit
	for _, x := range [][2]string{
		{"gbA", "feA"}, {"gfA", "fhA"}, {"hfA", "ghA"}, {"hbA", "gbA"}, {"ecA", "deA"}, {"edA", "cbA"}, {"cbA", "bcA"}, {"dbA", "bdA"}, {"ea", "ba"},
	} {
		units = append(units, impl.Lit{Pos: true, L: lettersOf(x[0]), R: lettersOf(x[1])})
	}
	for _, many := range []int{2, 4, 6, 15} {
		x := slices.Concat(slices.Repeat([]int{6}, many), []int{1}, slices.Repeat([]int{3}, many), []int{0})
		got, n, ok := impl.NormalTerm(s, x, units)
		steps := 4<<many - many - 4
		if many < 10 {
			want, more := repeated(t, s, x, units)
			if !slices.Equal(got, want) || more != steps {
				t.Errorf("StepTerm, %d digits: %v after %d steps", many, want, more)
			}
		}
		if is, _ := impl.IsNormal(s, got, units); !is || n != steps || !ok {
			t.Errorf("NormalTerm, %d digits: %v, %d, %v", many, got, n, ok)
		}
	}
}

// TestStepSmall: all small terms, with all pairs of small units.
func TestStepSmall(t *testing.T) {
	s := impl.Sign{Arity: []int{0, 0, 1, 2}}
	var units []lit
	sides := smallTrees(s, []int{0, 1}, 2)
	for _, x := range append(sides, treeOf(s, []int{3, -1, -2}), treeOf(s, []int{3, -1, -1}), treeOf(s, []int{3, -2, -1})) {
		for _, y := range sides {
			units = append(units, lit{true, x, y})
		}
	}
	all := smallTrees(s, []int{0, 1}, 3)
	seen := map[bool]int{}
	d := &dice{state: 71}
	for _, x := range all {
		seen[checkStep(t, s, x, nil)]++
		for _, u := range units {
			pair := []lit{u, units[d.below(len(units))]}
			seen[checkStep(t, s, x, pair[:1])]++
			seen[checkStep(t, s, x, pair)]++
			checkNormal(t, s, x, pair)
		}
	}
	if seen[true] < 2000 || seen[false] < 2000 {
		t.Error("too few cases of a kind", seen)
	}
}

// TestNormalLarge: larger terms and up to ten units.
func TestNormalLarge(t *testing.T) {
	d := &dice{state: 72}
	stepped, longest := map[bool]int{}, 0
	firsts, later := 0, 0
	for range 3000 {
		s := d.sign()
		x := d.large(s)
		if d.below(4) == 0 {
			x = d.comb(s, 40)
		}
		units := d.units(s, x, d.below(11))
		stepped[checkStep(t, s, x, units)]++
		longest = max(longest, checkNormal(t, s, x, units))
		if _, at, unit := stepOf(s, x, units); at > 0 && unit > 0 {
			later++
		} else {
			firsts++
		}
		repeats, _ := normalOf(s, x, units)
		if checkStep(t, s, repeats, units) {
			t.Fatalf("NormalTerm(%v, %s, %s) is not normal: %s", s, x.text(), textOfLits(units), repeats.text())
		}
	}
	if stepped[true] < 1000 || stepped[false] < 500 || longest < 20 || later < 500 || firsts < 500 {
		t.Error("too few cases of a kind", stepped, longest, firsts, later)
	}
}

// TestNormalClauseLarge compares NormalClause with the second implementation.
func TestNormalClauseLarge(t *testing.T) {
	d := &dice{state: 73}
	shorter, empty, changed := 0, 0, 0
	for range 6000 {
		s := d.sign()
		row := d.lits(s, 8, 10)
		if d.below(2) == 0 {
			row = threeVars(row)
		}
		x := d.large(s)
		if len(row) > 0 && d.below(4) > 0 {
			x = row[d.below(len(row))].l
		}
		units := d.units(s, x, d.below(11))
		want, steps := normalLits(s, row, units)
		got, n, ok := impl.NormalClause(s, madeOf(row), madeOf(units))
		if !sameClauses(got, want) || n != steps || !ok {
			t.Fatalf("NormalClause(%v, %s, %s): %v, %d, %v", s, textOfLits(row), textOfLits(units), got, n, ok)
		}
		if before := tidyLits(row); len(got) < len(before) {
			shorter++
			if len(got) == 0 {
				empty++
			}
		}
		if n > 0 {
			changed++
		}
	}
	if shorter < 200 || empty < 50 || changed < 500 {
		t.Error("too few cases of a kind", shorter, empty, changed)
	}
}
