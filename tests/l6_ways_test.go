package tests

import (
	"slices"
	"testing"

	"loop.example/g00682/impl"
)

func waysOf(rows [][]int) []impl.Way {
	var ways []impl.Way
	for _, row := range rows {
		ways = append(ways, wayOf(row...))
	}
	return ways
}

func TestWaysInto(t *testing.T) {
	tests := []struct {
		c, d string
		want [][]int
	}{
		{"d(A)=b", "e(d(c))=c", [][]int{{0, 0, 0, 0, 1}}},
		{"b=d(A)", "e(d(c))=c", [][]int{{0, 1, 0, 0, 1}}},
		{"d(A)=b", "c#e(d(c))", [][]int{{0, 0, 0, 1, 1}}},
		// Empty clauses, and clauses without ways.
		{"-", "-", nil},
		{"-", "e(d(c))=c", nil},
		{"d(A)=b", "-", nil},
		{"d(A)#b", "e(d(c))=c", nil},
		{"d(A)=b", "e(A)=B", nil},
		{"A=A", "b=b", nil},
		{"A=B", "A=B", nil},
		{"d(A)=d(A)", "d(b)=b", nil},
		// A clause with itself.
		{"d(d(A))=A", "d(d(A))=A", [][]int{{0, 0, 0, 0, 0}, {0, 0, 0, 0, 1}}},
		{"f(A,B)=f(B,A)", "f(A,B)=f(B,A)", [][]int{{0, 0, 0, 0, 0}, {0, 0, 0, 1, 0}, {0, 1, 0, 0, 0}, {0, 1, 0, 1, 0}}},
		{"c=b", "c=b", [][]int{{0, 0, 0, 0, 0}}},
		// Several literals, sides and positions, in lexicographic order.
		{"A=a|B=a", "d(c)=b", [][]int{{0, 0, 0, 0, 0}, {0, 0, 0, 0, 1}, {1, 0, 0, 0, 0}, {1, 0, 0, 0, 1}}},
		{"c=b", "f(c,d(c))=f(d(c),c)", [][]int{{0, 0, 0, 1, 2}, {0, 0, 0, 1, 3}}},
		{"c=b", "f(c,A)=f(B,c)", [][]int{{0, 0, 0, 0, 1}, {0, 0, 0, 1, 2}}},
		{"c=b|b=c", "f(c,A)=f(B,c)", [][]int{
			{0, 0, 0, 0, 1}, {0, 0, 0, 1, 2}, {1, 1, 0, 0, 1}, {1, 1, 0, 1, 2},
		}},
		{"d(A)=e(B)|f(c,C)=b", "f(d(c),A)=e(d(B))", [][]int{{0, 0, 0, 1, 1}, {0, 1, 0, 1, 0}}},
		{"c=b", "d(c)=A|e(c)#a|B=c", [][]int{{0, 0, 0, 0, 1}, {0, 0, 1, 0, 1}, {0, 0, 2, 1, 0}}},
		// The ordering restrictions.
		{"b=c", "f(b,c)=c", [][]int{{0, 1, 0, 0, 2}}},
		{"c=b", "f(b,b)=d(c)|e(A)=A", nil},
		{"c=b", "d(c)=a|e(c)=a", [][]int{{0, 0, 1, 0, 1}}},
		{"c=b|d(a)=a", "d(c)=a", nil},
		{"d(A)=b|e(c)=b", "d(d(d(c)))=e(b)", [][]int{{0, 0, 0, 0, 0}, {0, 0, 0, 0, 1}}},
		{"d(A)=b|e(c)=b", "d(d(c))=e(d(b))", nil},
		// Clauses that cannot be made apart, and ones whose conclusions would be too large.
		{"d(L)=b", "e(d(A))=c", nil},
		{"d(L)=b", "e(d(a))=c", [][]int{{0, 0, 0, 0, 1}}},
		{"A=b|a=a|a=a|a=a|a=a", "d(c)=b|a=a|a=a|a=a|a=a", nil},
		{"A=b|a=a|a=a|a=a", "d(c)=b|a=a|a=a|a=a|a=a", [][]int{{0, 0, 0, 0, 0}, {0, 0, 0, 0, 1}}},
		{"f(A,B)=b|" + many(37) + "A=a", "f(f(d(d(c)),A),f(d(d(d(c))),B))=b", [][]int{{0, 0, 0, 0, 1}}},
	}
	for _, c := range tests {
		got, ok := impl.WaysInto(sampleSign(), clause(c.c), clause(c.d))
		if !slices.Equal(got, waysOf(c.want)) || !ok {
			t.Errorf("WaysInto(%s, %s): %v, %v", c.c, c.d, got, ok)
		}
	}
}

func TestSingleWays(t *testing.T) {
	tests := []struct {
		c    string
		at   []int
		want [][]int
	}{
		{"d(A)#d(b)|A=c", []int{0}, nil},
		{"d(A)=b|d(c)=a", nil, [][]int{{0, 0, 1, 0}}},
		{"-", nil, nil},
		{"b=c", nil, nil},
		{"b#c", nil, nil},
		{"A#A", []int{0}, nil},
		{"A=A", nil, nil},
		{"A=b", nil, nil},
		// Several literals, in increasing order, and several ways, in lexicographic order.
		{"A#b|B#A|b#b", []int{0, 1, 2}, nil},
		{"A#b|a=c|b#b", nil, nil},
		{"A#b|a=a|b#b", []int{0, 2}, nil},
		{"A=b|A=b", nil, [][]int{{0, 0, 1, 0}, {0, 1, 1, 1}, {1, 0, 0, 0}, {1, 1, 0, 1}}},
		{"A=b|B=a", nil, [][]int{{0, 0, 1, 0}, {0, 1, 1, 0}, {1, 0, 0, 1}, {1, 1, 0, 0}}},
		{"d(A)=B|C=d(D)", nil, [][]int{
			{0, 0, 1, 0}, {0, 0, 1, 1}, {0, 1, 1, 0}, {0, 1, 1, 1}, {1, 0, 0, 0}, {1, 0, 0, 1}, {1, 1, 0, 0}, {1, 1, 0, 1},
		}},
		{"d(A)=A|e(b)#e(B)|a=d(c)|d(C)#B|d(c)=b", []int{1}, nil},
		{"d(A)=A|A#B|a=d(c)|d(B)#C|d(c)=b", []int{3}, [][]int{{0, 0, 2, 1}, {0, 0, 4, 0}, {4, 0, 2, 1}}},
		// Three equations.
		{"d(A)=a|d(B)=a|d(C)=a", nil, [][]int{
			{0, 0, 1, 0}, {0, 0, 2, 0}, {1, 0, 0, 0}, {1, 0, 2, 0}, {2, 0, 0, 0}, {2, 0, 1, 0},
		}},
		// The ordering restrictions.
		{"d(A)=b|d(c)=a|e(A)=b", nil, nil},
		{"A#b|c=a", nil, nil},
		{"c=b|c=b|d(A)=a", nil, nil},
		// Instances that are too large.
		{"A#" + many(20) + "b|" + many(20) + "A=b|" + many(20) + "B=a", nil, [][]int{{1, 0, 2, 0}}},
		{"A=b|" + many(20) + "b=b|" + many(20) + "A#" + many(20) + "A", []int{2}, nil},
	}
	for _, c := range tests {
		at, got, ok := impl.SingleWays(sampleSign(), clause(c.c))
		if !slices.Equal(at, c.at) || !slices.Equal(got, waysOf(c.want)) || !ok {
			t.Errorf("SingleWays(%s): %v, %v, %v", c.c, at, got, ok)
		}
	}
}

// checkWays compares WaysInto with the codes of Superpose for all ways, also ones that do not exist, and with the second
// implementation. It counts the codes.
func checkWays(t *testing.T, s impl.Sign, c, d []lit, seen map[int]int) {
	t.Helper()
	x, y := madeOf(c), madeOf(d)
	var want []impl.Way
	eachWay(c, d, lastIn(d), 1, func(w impl.Way) {
		_, code, ok := impl.Superpose(s, x, y, w)
		if !ok {
			t.Fatalf("Superpose(%v, %s, %s, %v) fails", s, textOfLits(c), textOfLits(d), w)
		}
		if code == 0 {
			want = append(want, w)
		}
		seen[code]++
	})
	got, ok := impl.WaysInto(s, x, y)
	if !slices.Equal(got, want) || !slices.Equal(got, waysOfLits(c, d)) || !ok {
		t.Fatalf("WaysInto(%v, %s, %s): %v, %v", s, textOfLits(c), textOfLits(d), got, ok)
	}
}

func TestWaysIntoLarge(t *testing.T) {
	d := &dice{state: 61}
	seen := map[int]int{}
	for range 400 {
		s := d.sign()
		c, e, _ := d.premises(s, 6)
		checkWays(t, s, c, e, seen)
		checkWays(t, s, c, c, seen)
	}
	for code := range 6 {
		if seen[code] < 100 {
			t.Error("too few cases of a code", seen)
		}
	}
}

// TestSingleWaysLarge compares SingleWays with the codes of Resolve and Factor, also for literals that do not exist, and with
// the second implementation.
func TestSingleWaysLarge(t *testing.T) {
	d := &dice{state: 62}
	seen, paired := map[int]int{}, map[int]int{}
	for range 3000 {
		s := d.sign()
		c, _ := d.single(s, 6)
		x := madeOf(c)
		var at []int
		for i := -1; i <= len(c); i++ {
			_, code, ok := impl.Resolve(s, x, i)
			if !ok {
				t.Fatalf("Resolve(%v, %s, %d) fails", s, textOfLits(c), i)
			}
			if code == 0 {
				at = append(at, i)
			}
			seen[code]++
		}
		var ways []impl.Way
		eachWay(c, c, 0, 1, func(w impl.Way) {
			_, code, ok := impl.Factor(s, x, w)
			if !ok {
				t.Fatalf("Factor(%v, %s, %v) fails", s, textOfLits(c), w)
			}
			if code == 0 {
				ways = append(ways, w)
			}
			paired[code]++
		})
		lits, got, ok := impl.SingleWays(s, x)
		at2, ways2 := singleWaysOfLits(c)
		if !slices.Equal(lits, at) || !slices.Equal(lits, at2) || !slices.Equal(got, ways) || !slices.Equal(got, ways2) || !ok {
			t.Fatalf("SingleWays(%v, %s): %v, %v, %v", s, textOfLits(c), lits, got, ok)
		}
	}
	for _, code := range []int{0, 1, 3, 5} {
		if seen[code] < 100 || paired[code] < 100 {
			t.Error("too few cases of a code", seen, paired)
		}
	}
}

// TestWaysLongest: the greatest clauses, whose many ways must not take long.
func TestWaysLongest(t *testing.T) {
	s := sampleSign()
	long := impl.Lit{Pos: false, L: spread(19, 0, lettersOf("d(b)")), R: spread(19, -1, lettersOf("d(B)"))}
	for _, n := range []int{1, 5, 8} {
		c, d := slices.Repeat(clause("A=B"), 9-n), slices.Repeat([]impl.Lit{long}, n)
		got, ok := impl.WaysInto(s, c, d)
		// All 60 positions that are no variables, on both sides of all equations, which are equivalent.
		if len(got) != 2*(9-n)*n*60 || !ok {
			t.Errorf("WaysInto of %d literals into %d: %d, %v", len(c), len(d), len(got), ok)
		}
	}
	if got, ok := impl.WaysInto(s, slices.Repeat(clause("A=B"), 8), slices.Repeat([]impl.Lit{long}, 8)); got != nil || !ok {
		t.Error("WaysInto of 8 literals into 8", len(got), ok)
	}
	if at, got, ok := impl.SingleWays(s, slices.Repeat([]impl.Lit{{Pos: true, L: chain(39, -1), R: chain(39, -2)}}, 8)); at != nil || len(got) != 8*7*2 || !ok {
		t.Error("SingleWays of 8 equations", at, len(got), ok)
	}
}
