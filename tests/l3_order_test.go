package tests

import (
	"slices"
	"testing"

	"loop.example/g00682/impl"
)

// spread is the term f(first,f(first,..last..)) with that many f.
func spread(many int, first int, last []int) []int {
	return slices.Concat(slices.Repeat([]int{5, first}, many), last)
}

func TestCompareTerms(t *testing.T) {
	tests := []struct {
		a, b []int
		want int
	}{
		{term("d(A)"), term("A"), 1},
		{term("b"), term("c"), -1},
		{term("f(A,b)"), term("d(B)"), 2},
		{term("e(A)"), term("d(A)"), 1},
		// Equal terms.
		{term("a"), term("a"), 0},
		{term("A"), term("A"), 0},
		{term("L"), term("L"), 0},
		{term("f(A,f(B,A))"), term("f(A,f(B,A))"), 0},
		{spread(19, -1, term("d(B)")), spread(19, -1, term("d(B)")), 0},
		// Equal weights, and two symbols at the first index at which they differ.
		{term("a"), term("c"), -1},
		{term("e(b)"), term("d(c)"), 1},
		{term("d(b)"), term("d(c)"), -1},
		{term("f(b,c)"), term("f(c,a)"), -1},
		{term("f(b,c)"), term("f(b,a)"), 1},
		{term("f(A,c)"), term("f(A,b)"), 1},
		{term("f(a,b)"), term("d(d(c))"), 1},
		{term("f(a,d(a))"), term("f(d(a),a)"), -1},
		{term("g(A,B,c)"), term("f(d(A),B)"), 1},
		{term("f(d(A),B)"), term("f(e(B),A)"), -1},
		{term("e(d(A))"), term("d(e(A))"), 1},
		{term("f(A,f(b,B))"), term("f(A,f(c,B))"), -1},
		{term("f(c,A)"), term("f(b,A)"), 1},
		// The first symbol decides, even if a later one is less.
		{term("f(c,a)"), term("f(b,c)"), 1},
		{term("e(d(d(a)))"), term("d(e(e(c)))"), 1},
		// Equal weights, and a symbol and a variable at that index.
		{term("A"), term("b"), 2},
		{term("a"), term("A"), 2},
		{term("a"), term("L"), 2},
		{term("d(A)"), term("d(c)"), 2},
		{term("f(c,A)"), term("f(A,b)"), 2},
		{term("f(A,c)"), term("f(b,A)"), 2},
		{term("f(d(A),B)"), term("f(B,d(A))"), 2},
		{term("f(c,A)"), term("f(A,c)"), 2},
		// Equal weights, and two variables there.
		{term("A"), term("B"), 2},
		{term("A"), term("L"), 2},
		{term("d(B)"), term("d(A)"), 2},
		{term("f(A,B)"), term("f(B,A)"), 2},
		{term("f(A,A)"), term("f(B,B)"), 2},
		{term("f(A,f(B,c))"), term("f(B,f(A,b))"), 2},
		// Equal weights and symbols that differ, but a variable occurs less often.
		{term("e(A)"), term("d(B)"), 2},
		{term("e(b)"), term("d(A)"), 2},
		{term("e(A)"), term("d(b)"), 1},
		{term("f(c,A)"), term("f(b,B)"), 2},
		{term("f(e(A),B)"), term("f(d(A),A)"), 2},
		{term("f(e(A),A)"), term("f(d(A),B)"), 2},
		// A greater weight, and every variable at least as often.
		{term("d(d(A))"), term("e(A)"), 1},
		{term("d(a)"), term("c"), 1},
		{term("d(a)"), term("e(c)"), -1},
		{term("f(A,B)"), term("B"), 1},
		{term("f(A,A)"), term("d(A)"), 1},
		{term("f(A,f(A,B))"), term("f(B,A)"), 1},
		{term("d(d(a))"), term("e(c)"), 1},
		{term("f(A,L)"), term("e(L)"), 1},
		{term("A"), term("f(A,A)"), -1},
		{term("f(a,a)"), term("e(e(A))"), 2},
		// A greater weight, but a variable occurs less often.
		{term("d(b)"), term("A"), 2},
		{term("A"), term("d(b)"), 2},
		{term("f(A,b)"), term("A"), 1},
		{term("f(A,b)"), term("B"), 2},
		{term("d(d(d(A)))"), term("f(A,A)"), 2},
		{term("f(A,A)"), term("d(d(d(A)))"), 2},
		{term("f(A,f(B,B))"), term("f(A,A)"), 2},
		{term("f(f(A,B),f(A,B))"), term("f(A,C)"), 2},
		{term("f(K,f(K,K))"), term("f(K,L)"), 2},
		// Terms of 40 integers.
		{chain(39, -1), chain(38, -1), 1},
		{chain(38, -1), chain(39, -1), -1},
		{chain(39, 2), chain(39, 1), 1},
		{chain(39, 0), chain(39, 2), -1},
		{chain(39, -1), chain(39, -2), 2},
		{chain(39, -1), chain(39, 0), 2},
		{chain(39, -12), chain(0, -12), 1},
		{spread(19, -1, term("d(B)")), spread(19, -1, term("e(B)")), -1},
		{spread(19, -1, term("d(B)")), spread(19, -1, term("B")), 1},
		{spread(19, -1, term("d(B)")), spread(19, -1, term("A")), 2},
		{spread(19, -1, term("d(A)")), spread(19, -1, term("A")), 1},
		{spread(19, -1, term("d(A)")), spread(18, -1, term("f(A,A)")), 1},
		{spread(19, -1, term("d(b)")), spread(19, -1, term("A")), 2},
	}
	for _, c := range tests {
		if got, ok := impl.CompareTerms(wideSample(), c.a, c.b); got != c.want || !ok {
			t.Errorf("CompareTerms(%v, %v): %d, %v", c.a, c.b, got, ok)
		}
		want := c.want
		if want != 2 {
			want = -want
		}
		if got, ok := impl.CompareTerms(wideSample(), c.b, c.a); got != want || !ok {
			t.Errorf("CompareTerms(%v, %v): %d, %v", c.b, c.a, got, ok)
		}
	}
}

func TestWeighsMore(t *testing.T) {
	tests := []struct {
		a, b []int
		want bool
	}{
		{term("f(A,A)"), term("d(A)"), true},
		{term("d(A)"), term("f(A,A)"), false},
		{term("d(A)"), term("A"), true},
		{term("d(A)"), term("B"), false},
		{term("d(b)"), term("A"), false},
		{term("d(A)"), term("b"), true},
		{term("d(d(A))"), term("e(A)"), true},
		{term("d(d(d(A)))"), term("f(A,A)"), false},
		{term("f(A,f(A,A))"), term("f(A,A)"), true},
		{term("f(L,K)"), term("d(L)"), true},
		{term("f(L,K)"), term("d(J)"), false},
		// Equal weights are not enough, even if the term is greater.
		{term("e(A)"), term("d(A)"), false},
		{term("d(A)"), term("e(A)"), false},
		{term("c"), term("b"), false},
		{term("b"), term("b"), false},
		{term("A"), term("A"), false},
		{term("A"), term("b"), false},
		{term("f(A,B)"), term("f(A,B)"), false},
		{chain(39, -1), chain(38, -1), true},
		{chain(39, -1), chain(38, -2), false},
		{chain(39, -1), chain(39, -1), false},
		{chain(38, 2), chain(39, 2), false},
		{chain(39, 0), chain(38, 2), true},
		{spread(19, -1, term("d(B)")), spread(19, -1, term("B")), true},
		{spread(19, -1, term("d(B)")), spread(19, -1, term("A")), false},
		{spread(19, -12, term("d(B)")), spread(18, -12, term("f(B,L)")), true},
		{spread(19, -12, term("d(B)")), spread(18, -12, term("f(B,B)")), false},
	}
	for _, c := range tests {
		if got, ok := impl.WeighsMore(wideSample(), c.a, c.b); got != c.want || !ok {
			t.Errorf("WeighsMore(%v, %v): %v, %v", c.a, c.b, got, ok)
		}
	}
}

// TestCompareInvalid: CompareTerms and WeighsMore require a valid signature and two valid terms.
func TestCompareInvalid(t *testing.T) {
	s := sampleSign()
	good := term("d(A)")
	tests := []struct {
		s    impl.Sign
		a, b []int
	}{
		{s, nil, nil},
		{s, good, nil},
		{s, good, []int{-13}},
		{s, good, []int{6}},
		{s, good, []int{0, 0}},
		{s, good, []int{3}},
		{s, good, []int{5, -1}},
		{s, good, []int{leastInt}},
		{s, good, []int{greatestInt}},
		{s, good, chain(40, -1)},
		{s, chain(40, -1), chain(40, -1)},
		{s, []int{3, leastInt}, []int{3, leastInt}},
		{s, []int{5, -1}, []int{5, -1}},
		{impl.Sign{}, good, term("A")},
		{impl.Sign{}, term("B"), term("A")},
		{impl.Sign{Arity: []int{1}}, term("A"), term("A")},
		{impl.Sign{Arity: []int{0, 0, 0, 1, 1, 4}}, good, term("A")},
		{impl.Sign{Arity: []int{0, 0, 0, 1, -1}}, good, term("A")},
		{impl.Sign{Arity: []int{0, 0, 0}}, good, term("A")},
		{impl.Sign{Arity: make([]int, 11)}, term("b"), term("A")},
	}
	for _, c := range tests {
		for range 2 {
			if got, ok := impl.CompareTerms(c.s, c.a, c.b); got != 0 || ok {
				t.Errorf("CompareTerms(%v, %v, %v): %d, %v", c.s, c.a, c.b, got, ok)
			}
			if got, ok := impl.WeighsMore(c.s, c.a, c.b); got || ok {
				t.Errorf("WeighsMore(%v, %v, %v): %v, %v", c.s, c.a, c.b, got, ok)
			}
			c.a, c.b = c.b, c.a
		}
	}
}

func TestCompareLists(t *testing.T) {
	tests := []struct {
		a, b [][]int
		want int
	}{
		{terms("c", "b"), terms("b", "b", "b"), 1},
		// Nothing remains.
		{nil, nil, 0},
		{[][]int{}, nil, 0},
		{terms("A"), terms("A"), 0},
		{terms("c", "b"), terms("b", "c"), 0},
		{terms("A", "B", "A"), terms("A", "A", "B"), 0},
		{terms("d(A)", "d(A)"), terms("d(A)", "d(A)"), 0},
		// Something remains on one side only.
		{terms("a"), nil, 1},
		{terms("A"), nil, 1},
		{terms("A", "b"), terms("b"), 1},
		{terms("A", "b"), terms("A"), 1},
		{terms("A", "A"), terms("A"), 1},
		{terms("b", "b", "b"), terms("b", "b"), 1},
		{terms("A", "B", "C", "D", "E", "F", "G", "H"), terms("H", "F", "D", "B"), 1},
		// Common elements that occur differently often.
		{terms("c", "c"), terms("c", "b"), 1},
		{terms("c", "c"), terms("c", "d(c)"), -1},
		{terms("c", "c", "b"), terms("c", "b", "b"), 1},
		{terms("A", "A", "b"), terms("A", "b", "b"), 2},
		{terms("A", "A", "B"), terms("A", "B", "B"), 2},
		{terms("c", "b", "b", "b"), terms("b", "c", "c"), -1},
		{terms("d(A)", "A", "A"), terms("A", "d(A)", "b"), 2},
		{terms("d(A)", "d(A)", "A"), terms("d(A)", "A", "A", "A"), 1},
		// What is removed cannot be greater than what remains.
		{terms("d(c)", "a"), terms("d(c)", "b"), -1},
		{terms("d(c)", "A"), terms("d(c)", "b"), 2},
		{terms("e(A)", "a"), terms("A", "e(A)"), 2},
		// One element for several, and several elements for one each.
		{terms("d(a)"), terms("c", "b", "a", "c"), 1},
		{terms("d(A)", "d(B)"), terms("A", "B", "A"), 1},
		{terms("d(A)", "d(B)"), terms("A", "B", "C"), 2},
		{terms("d(A)", "C"), terms("A", "A"), 1},
		{terms("f(A,B)"), terms("A", "B"), 1},
		{terms("f(A,B)"), terms("A", "C"), 2},
		{terms("f(A,B)", "f(C,D)"), terms("d(A)", "d(B)", "d(C)", "d(D)", "b", "b", "b", "b"), 1},
		// Neither is greater.
		{terms("A"), terms("B"), 2},
		{terms("A"), terms("b"), 2},
		{terms("A", "c"), terms("A", "B"), 2},
		{terms("c", "A"), terms("b", "B"), 2},
		{terms("d(A)", "b"), terms("A", "c"), 1},
		{terms("d(A)", "b"), terms("A", "d(c)"), 2},
		{terms("d(c)", "A"), terms("e(c)", "d(A)"), -1},
		// Lists of 8 terms, and long terms.
		{slices.Repeat(terms("b"), 8), slices.Repeat(terms("b"), 8), 0},
		{slices.Repeat(terms("c"), 8), slices.Repeat(terms("b"), 8), 1},
		{slices.Repeat(terms("b"), 8), slices.Repeat(terms("b"), 7), 1},
		{slices.Repeat(terms("b"), 8), terms("c"), -1},
		{slices.Repeat(terms("b"), 8), nil, 1},
		{slices.Repeat(terms("A"), 8), slices.Repeat(terms("B"), 8), 2},
		{append(slices.Repeat(terms("b"), 7), term("c")), slices.Repeat(terms("b"), 8), 1},
		{[][]int{chain(39, -1)}, slices.Repeat([][]int{chain(38, -1)}, 8), 1},
		{[][]int{chain(39, 1), chain(39, 2)}, [][]int{chain(39, 2), chain(39, 0)}, 1},
		{[][]int{chain(39, -1)}, [][]int{chain(39, -2)}, 2},
	}
	for _, c := range tests {
		if got, ok := impl.CompareLists(wideSample(), c.a, c.b); got != c.want || !ok {
			t.Errorf("CompareLists(%v, %v): %d, %v", c.a, c.b, got, ok)
		}
		want := c.want
		if want != 2 {
			want = -want
		}
		if got, ok := impl.CompareLists(wideSample(), c.b, c.a); got != want || !ok {
			t.Errorf("CompareLists(%v, %v): %d, %v", c.b, c.a, got, ok)
		}
	}
}

// badLists are no lists of at most 8 valid terms.
func badLists() [][][]int {
	return [][][]int{
		slices.Repeat(terms("b"), 9),
		slices.Repeat(terms("b"), 40),
		append(terms("b"), nil),
		append(terms("b"), []int{}),
		{nil},
		{{-13}},
		{{-12}, {6}},
		{{0}, {0, 0}},
		{{3}, {0}},
		{{5, -1}},
		{{0}, {leastInt}},
		{{greatestInt}, {0}},
		{chain(40, -1)},
		slices.Repeat([][]int{{-13}}, 8),
	}
}

func TestListsInvalid(t *testing.T) {
	s := sampleSign()
	for _, l := range badLists() {
		for _, good := range [][][]int{nil, terms("b"), terms("d(c)", "c", "b")} {
			if got, ok := impl.CompareLists(s, l, good); got != 0 || ok {
				t.Errorf("CompareLists(%v, %v): %d, %v", l[:min(len(l), 9)], good, got, ok)
			}
			if got, ok := impl.CompareLists(s, good, l); got != 0 || ok {
				t.Errorf("CompareLists(%v, %v): %d, %v", good, l[:min(len(l), 9)], got, ok)
			}
		}
		if got, ok := impl.CompareLists(s, l, l); got != 0 || ok {
			t.Errorf("CompareLists of %v with itself: %d, %v", l[:min(len(l), 9)], got, ok)
		}
		if got, ok := impl.IsFalling(s, l); got || ok {
			t.Errorf("IsFalling(%v): %v, %v", l[:min(len(l), 9)], got, ok)
		}
	}
	for _, bad := range []impl.Sign{{}, {Arity: []int{1}}, {Arity: []int{0, 4}}, {Arity: make([]int, 11)}} {
		for _, l := range [][][]int{nil, terms("A"), terms("b", "a")} {
			if got, ok := impl.CompareLists(bad, l, nil); got != 0 || ok {
				t.Errorf("CompareLists(%v, %v, []): %d, %v", bad, l, got, ok)
			}
			if got, ok := impl.IsFalling(bad, l); got || ok {
				t.Errorf("IsFalling(%v, %v): %v, %v", bad, l, got, ok)
			}
		}
	}
}

func TestIsFalling(t *testing.T) {
	tests := []struct {
		l    [][]int
		want bool
	}{
		{terms("d(b)", "c", "b"), true},
		{nil, true},
		{[][]int{}, true},
		{terms("A"), true},
		{terms("c", "b"), true},
		{terms("b", "c"), false},
		{terms("b", "b"), false},
		{terms("A", "A"), false},
		{terms("A", "B"), false},
		{terms("A", "b"), false},
		{terms("b", "A"), false},
		{terms("d(b)", "A"), false},
		{terms("d(A)", "A"), true},
		{terms("d(A)", "b", "A"), false},
		{terms("d(A)", "A", "b"), false},
		{terms("d(b)", "b", "c"), false},
		{terms("d(b)", "e(b)", "b"), false},
		{terms("d(b)", "c", "c"), false},
		{terms("e(e(A))", "d(e(A))", "d(d(A))", "e(A)", "d(A)", "A"), true},
		{terms("f(A,B)", "e(A)", "d(A)", "A"), true},
		{terms("f(A,B)", "e(A)", "d(B)", "B"), false},
		// A list of 8 terms that falls, and ones that do not at one place only.
		{terms("e(c)", "e(b)", "e(a)", "d(c)", "d(b)", "c", "b", "a"), true},
		{terms("e(b)", "e(c)", "e(a)", "d(c)", "d(b)", "c", "b", "a"), false},
		{terms("e(c)", "e(b)", "e(a)", "d(c)", "d(b)", "c", "a", "b"), false},
		{terms("e(c)", "e(b)", "e(a)", "d(c)", "d(c)", "c", "b", "a"), false},
		{[][]int{chain(39, 2), chain(39, 1), chain(38, 2)}, true},
		{[][]int{chain(39, -1), chain(38, -1), chain(37, -1)}, true},
		{[][]int{chain(39, -1), chain(38, -1), chain(38, -1)}, false},
		{[][]int{chain(38, -1), chain(39, -1)}, false},
	}
	for _, c := range tests {
		if got, ok := impl.IsFalling(wideSample(), c.l); got != c.want || !ok {
			t.Errorf("IsFalling(%v): %v, %v", c.l, got, ok)
		}
	}
}

func TestLeastGround(t *testing.T) {
	good := [][]int{{0}, {0, 1}, {0, 3, 2, 1}, {0, 0}, {0, 0, 0, 1, 1, 2}, {0, 2, 0}, make([]int, 10), {0, 3, 3, 3, 3, 3, 3, 3, 3, 3}}
	for _, arity := range good {
		if got, ok := impl.LeastGround(impl.Sign{Arity: arity}); !slices.Equal(got, []int{0}) || !ok {
			t.Errorf("LeastGround(%v): %v, %v", arity, got, ok)
		}
	}
	bad := [][]int{nil, {}, {1}, {1, 0}, {3, 0, 0}, {0, 4}, {0, -1}, {-1}, {0, greatestInt}, {leastInt, 0}, make([]int, 11), make([]int, 1<<20)}
	for _, arity := range bad {
		if got, ok := impl.LeastGround(impl.Sign{Arity: arity}); len(got) != 0 || ok {
			t.Errorf("LeastGround of %d symbols: %v, %v", len(arity), got, ok)
		}
	}
}
