package tests

import (
	"slices"
	"strings"
	"testing"

	"loop.example/g00682/impl"
)

// term is written as in the document; the texts in the tests are all valid.
func term(text string) []int {
	s := impl.Sign{Arity: []int{0, 0, 0, 1, 1, 2, 3}}
	t, _, ok := impl.ReadTerm(s, text)
	if !ok {
		panic("no term: " + text)
	}
	return t
}

func terms(texts ...string) [][]int {
	var l [][]int
	for _, text := range texts {
		l = append(l, term(text))
	}
	return l
}

// subst is written as "A=b B=d(A)".
func subst(text string) [][]int {
	b := make([][]int, 12)
	for _, pair := range strings.Fields(text) {
		b[pair[0]-'A'] = term(pair[2:])
	}
	return b
}

func sameLists(a, b [][]int) bool {
	return slices.EqualFunc(a, b, slices.Equal[[]int])
}

func wideSample() impl.Sign { return impl.Sign{Arity: []int{0, 0, 0, 1, 1, 2, 3}} }

const everyVar = "A=b B=b C=b D=b E=b F=b G=b H=b I=b J=b K=b L=b"

func TestGoodSubst(t *testing.T) {
	s := sampleSign()
	with := func(v int, t []int) [][]int {
		b := make([][]int, 12)
		b[v] = t
		return b
	}
	tests := []struct {
		s    impl.Sign
		b    [][]int
		want bool
	}{
		{s, make([][]int, 12), true},
		{s, make([][]int, 13), false},
		{s, make([][]int, 11), false},
		{s, make([][]int, 1<<20), false},
		{s, nil, false},
		{s, [][]int{}, false},
		{s, subst("A=b B=d(A)"), true},
		{s, subst(everyVar), true},
		{s, append(subst(everyVar), nil), false},
		{s, subst(everyVar)[:11], false},
		// A variable may be replaced by itself, and by a term in which it occurs.
		{s, subst("A=A L=L"), true},
		{s, subst("A=d(A)"), true},
		{s, with(0, []int{}), true},
		{s, with(0, []int{-12}), true},
		{s, with(0, []int{-13}), false},
		{s, with(11, []int{-13}), false},
		{s, with(11, []int{6}), false},
		{s, with(11, []int{0, 0}), false},
		{s, with(11, []int{3}), false},
		{s, with(5, []int{5, 0}), false},
		{s, with(5, []int{leastInt}), false},
		{s, with(5, []int{greatestInt}), false},
		{s, with(5, chain(39, 0)), true},
		{s, with(5, chain(40, 0)), false},
		{s, with(11, chain(1<<20, 0)), false},
		{impl.Sign{}, make([][]int, 12), false},
		{impl.Sign{}, subst("A=B"), false},
		{impl.Sign{Arity: []int{1}}, make([][]int, 12), false},
		{impl.Sign{Arity: make([]int, 11)}, make([][]int, 12), false},
		{impl.Sign{Arity: []int{0}}, subst("A=a"), true},
		{impl.Sign{Arity: []int{0}}, subst("A=b"), false},
	}
	for i, c := range tests {
		if got := impl.GoodSubst(c.s, c.b); got != c.want {
			t.Errorf("GoodSubst, line %d: %v", i, got)
		}
	}
}

func TestApply(t *testing.T) {
	s := sampleSign()
	tests := []struct {
		b    [][]int
		t    []int
		want []int
	}{
		{subst("A=b B=d(A)"), term("f(A,B)"), term("f(b,d(A))")},
		{subst("A=b B=d(A)"), term("f(B,f(C,A))"), term("f(d(A),f(C,b))")},
		{subst(""), term("f(A,L)"), term("f(A,L)")},
		{subst(everyVar), term("f(A,L)"), term("f(b,b)")},
		{subst(everyVar), term("f(a,c)"), term("f(a,c)")},
		// All variables are replaced simultaneously, and only once.
		{subst("A=B B=A"), term("f(A,f(B,A))"), term("f(B,f(A,B))")},
		{subst("A=B B=C C=A"), term("f(A,f(B,C))"), term("f(B,f(C,A))")},
		{subst("A=d(A)"), term("f(A,d(A))"), term("f(d(A),d(d(A)))")},
		{subst("A=f(A,B) B=c"), term("A"), term("f(A,B)")},
		{subst("A=A"), term("f(A,B)"), term("f(A,B)")},
		{subst("L=d(L)"), term("L"), term("d(L)")},
		{subst("L=e(K)"), term("f(K,L)"), term("f(K,e(K))")},
		// A result may have 40 integers and no more.
		{subst("A=d(A)"), chain(38, -1), chain(39, -1)},
		{subst("A=d(A)"), chain(39, -1), nil},
		{subst("A=d(d(d(b)))"), chain(36, -1), chain(39, 1)},
		{subst("A=d(d(d(b)))"), chain(37, -1), nil},
		{[][]int{chain(39, -2), nil, nil, nil, nil, nil, nil, nil, nil, nil, nil, nil}, term("A"), chain(39, -2)},
		{[][]int{chain(39, -2), nil, nil, nil, nil, nil, nil, nil, nil, nil, nil, nil}, term("d(A)"), nil},
		{[][]int{chain(39, -2), nil, nil, nil, nil, nil, nil, nil, nil, nil, nil, nil}, chain(39, -2), chain(39, -2)},
		{[][]int{chain(18, 0), chain(19, 0), nil, nil, nil, nil, nil, nil, nil, nil, nil, nil}, term("f(A,B)"), slices.Concat([]int{5}, chain(18, 0), chain(19, 0))},
		{[][]int{chain(19, 0), chain(19, 0), nil, nil, nil, nil, nil, nil, nil, nil, nil, nil}, term("f(A,B)"), nil},
		// Invalid arguments.
		{subst("A=b")[:11], term("A"), nil},
		{append(subst("A=b"), nil), term("A"), nil},
		{nil, term("a"), nil},
		{subst("A=b"), nil, nil},
		{subst("A=b"), []int{-13}, nil},
		{subst("A=b"), []int{5, -1}, nil},
		{subst("A=b"), []int{-1, -1}, nil},
		{subst("A=b"), []int{6}, nil},
		{subst("A=b"), chain(40, -1), nil},
		{subst("A=g(a,b,c)"), term("A"), nil},
		{subst("B=g(a,b,c)"), term("A"), nil},
		{[][]int{{0, 0}, nil, nil, nil, nil, nil, nil, nil, nil, nil, nil, nil}, term("b"), nil},
	}
	for _, c := range tests {
		got, ok := impl.Apply(s, c.b, c.t)
		if !slices.Equal(got, c.want) || ok != (c.want != nil) {
			t.Errorf("Apply(%v, %v): %v, %v", c.b, c.t, got, ok)
		}
	}
}

func TestCompose(t *testing.T) {
	s := sampleSign()
	long := func(n int) [][]int {
		return [][]int{chain(n, -1), nil, nil, nil, nil, nil, nil, nil, nil, nil, nil, nil}
	}
	tests := []struct {
		a, b, want [][]int
	}{
		{subst("A=b B=d(A)"), subst("A=b B=d(A)"), subst("A=b B=d(b)")},
		{subst("A=d(B)"), subst("B=c C=a"), subst("A=d(c) B=c C=a")},
		{subst("B=c C=a"), subst("A=d(B)"), subst("A=d(B) B=c C=a")},
		{subst(""), subst(""), subst("")},
		{subst(""), subst(everyVar), subst(everyVar)},
		{subst(everyVar), subst(""), subst(everyVar)},
		{subst(everyVar), subst("A=c L=c"), subst(everyVar)},
		// What ends at the variable itself is the empty list, wherever it comes from.
		{subst("A=B"), subst("B=A"), subst("B=A")},
		{subst("A=B B=A"), subst("A=B B=A"), subst("")},
		{subst("A=A L=L"), subst(""), subst("")},
		{subst(""), subst("A=A L=L"), subst("")},
		{subst("A=A"), subst("A=c"), subst("A=c")},
		{subst("A=L L=A"), subst("A=L"), subst("A=L")},
		{subst("A=B"), subst("A=c"), subst("A=B")},
		{subst("A=d(A)"), subst("A=d(A)"), subst("A=d(d(A))")},
		{subst("A=d(A)"), subst("A=B B=A"), subst("A=d(B) B=A")},
		{subst("K=f(L,A) L=b"), subst("A=L L=A"), subst("A=L K=f(A,L) L=b")},
		// Results may have 40 integers and no more, also those of variables that are not replaced first.
		{long(20), long(19), long(39)},
		{long(20), long(20), nil},
		{long(39), subst(""), long(39)},
		{long(39), subst("A=B"), [][]int{chain(39, -2), nil, nil, nil, nil, nil, nil, nil, nil, nil, nil, nil}},
		{long(39), subst("A=d(B)"), nil},
		{subst(""), long(39), long(39)},
		{subst("B=d(A)"), long(39), nil},
		{subst("L=d(A)"), long(39), nil},
		{subst("L=A"), long(39), append(long(39)[:11], chain(39, -1))},
		// Invalid arguments.
		{long(40), subst(""), nil},
		{subst(""), long(40), nil},
		{subst("")[:11], subst(""), nil},
		{subst(""), subst("")[:11], nil},
		{append(subst(""), nil), subst(""), nil},
		{subst(""), append(subst(""), nil), nil},
		{nil, subst(""), nil},
		{subst(""), nil, nil},
		{subst("A=g(a,b,c)"), subst(""), nil},
		{subst(""), subst("L=g(a,b,c)"), nil},
	}
	for _, c := range tests {
		got, ok := impl.Compose(s, c.a, c.b)
		if !sameLists(got, c.want) || ok != (c.want != nil) {
			t.Errorf("Compose(%v, %v): %v, %v", c.a, c.b, got, ok)
		}
	}
}

func TestMatch(t *testing.T) {
	s := sampleSign()
	tests := []struct {
		p, t []int
		want [][]int
	}{
		{term("f(A,B)"), term("f(b,d(A))"), subst("A=b B=d(A)")},
		{term("f(A,A)"), term("f(b,c)"), nil},
		{term("f(A,A)"), term("f(d(c),d(c))"), subst("A=d(c)")},
		{term("f(A,f(B,A))"), term("f(d(c),f(a,d(c)))"), subst("A=d(c) B=a")},
		{term("f(A,f(B,A))"), term("f(d(c),f(d(c),a))"), nil},
		{term("f(A,f(A,A))"), term("f(b,f(b,c))"), nil},
		{term("f(A,f(A,A))"), term("f(b,f(c,b))"), nil},
		{term("A"), term("f(L,d(a))"), subst("A=f(L,d(a))")},
		{term("L"), term("K"), subst("L=K")},
		{term("a"), term("a"), subst("")},
		{term("a"), term("b"), nil},
		{term("a"), term("A"), nil},
		{term("d(a)"), term("A"), nil},
		{term("d(a)"), term("e(a)"), nil},
		{term("d(A)"), term("e(a)"), nil},
		{term("d(A)"), term("a"), nil},
		{term("f(A,b)"), term("f(c,a)"), nil},
		{term("f(d(A),B)"), term("f(C,b)"), nil},
		{term("f(A,d(B))"), term("f(d(d(c)),d(f(a,b)))"), subst("A=d(d(c)) B=f(a,b)")},
		// Variables of t are not replaced, even if they are variables of p.
		{term("f(A,B)"), term("f(B,A)"), subst("A=B B=A")},
		{term("f(A,b)"), term("f(b,A)"), nil},
		{term("A"), term("d(A)"), subst("A=d(A)")},
		{term("f(A,d(A))"), term("f(d(A),d(d(A)))"), subst("A=d(A)")},
		{term("f(A,d(A))"), term("f(d(A),d(A))"), nil},
		// What would be replaced by itself is not replaced, but stands for itself everywhere.
		{term("A"), term("A"), subst("")},
		{term("L"), term("L"), subst("")},
		{term("f(A,B)"), term("f(A,B)"), subst("")},
		{term("f(A,B)"), term("f(A,A)"), subst("B=A")},
		{term("f(A,A)"), term("f(A,B)"), nil},
		{term("f(A,A)"), term("f(B,A)"), nil},
		{term("f(A,A)"), term("f(A,A)"), subst("")},
		{term("f(A,A)"), term("f(A,d(A))"), nil},
		{term("f(A,A)"), term("f(b,A)"), nil},
		{term("f(A,A)"), term("f(A,b)"), nil},
		{chain(39, -1), chain(39, -1), subst("")},
		{term("A"), chain(39, -2), [][]int{chain(39, -2), nil, nil, nil, nil, nil, nil, nil, nil, nil, nil, nil}},
		{chain(39, -1), chain(38, -1), nil},
		{chain(38, -1), chain(39, -1), subst("A=d(A)")},
		// Invalid arguments.
		{term("A"), chain(40, -1), nil},
		{chain(40, -1), chain(40, -1), nil},
		{nil, nil, nil},
		{term("A"), nil, nil},
		{nil, term("A"), nil},
		{[]int{-13}, term("a"), nil},
		{term("A"), []int{-13}, nil},
		{[]int{5, -1}, []int{5, 0}, nil},
		{[]int{5, -1}, term("f(a,b)"), nil},
		{term("f(A,B)"), []int{5, 0}, nil},
		{[]int{-1, -1}, []int{0, 0}, nil},
		{[]int{6}, []int{6}, nil},
		{term("A"), []int{greatestInt}, nil},
		{[]int{leastInt}, term("a"), nil},
	}
	for _, c := range tests {
		got, ok := impl.Match(s, c.p, c.t)
		if !sameLists(got, c.want) || ok != (c.want != nil) {
			t.Errorf("Match(%v, %v): %v, %v", c.p, c.t, got, ok)
		}
	}
	if got, ok := impl.Match(impl.Sign{}, term("A"), term("A")); got != nil || ok {
		t.Error("Match without symbols", got, ok)
	}
}

func TestRenameOf(t *testing.T) {
	s := sampleSign()
	many := slices.Repeat(terms("f(L,A)"), 20)
	tests := []struct {
		l, want [][]int
		ok      bool
	}{
		{terms("d(C)", "f(B,C)"), terms("d(A)", "f(B,A)"), true},
		{terms("f(B,C)", "d(C)"), terms("f(A,B)", "d(B)"), true},
		{terms("f(B,A)", "f(A,B)"), terms("f(A,B)", "f(B,A)"), true},
		{terms("A", "B", "A"), terms("A", "B", "A"), true},
		{terms("L", "K", "J"), terms("A", "B", "C"), true},
		{terms("a", "d(b)", "f(D,c)"), terms("a", "d(b)", "f(A,c)"), true},
		{terms("f(L,f(L,f(C,L)))"), terms("f(A,f(A,f(B,A)))"), true},
		{nil, nil, true},
		{[][]int{}, nil, true},
		// All 12 variables, each of them more than once, so that there are more than 12 occurrences.
		{terms("f(L,K)", "f(J,I)", "f(H,G)", "f(F,E)", "f(D,C)", "f(B,A)", "f(A,L)", "f(L,B)", "f(K,A)"),
			terms("f(A,B)", "f(C,D)", "f(E,F)", "f(G,H)", "f(I,J)", "f(K,L)", "f(L,A)", "f(A,K)", "f(B,L)"), true},
		{terms("A", "B", "C", "D", "E", "F", "G", "H", "I", "J", "K", "L"), terms("A", "B", "C", "D", "E", "F", "G", "H", "I", "J", "K", "L"), true},
		{[][]int{{-1}, {-2}, {-3}, {-4}, {-5}, {-6}, {-7}, {-8}, {-9}, {-10}, {-11}, {-12}, {-13}}, nil, false},
		// 20 terms, and no more.
		{many, slices.Repeat(terms("f(A,B)"), 20), true},
		{many[:19], slices.Repeat(terms("f(A,B)"), 19), true},
		{slices.Concat(many, terms("a")), nil, false},
		{slices.Repeat(many, 50000), nil, false},
		{[][]int{chain(39, -12)}, [][]int{chain(39, -1)}, true},
		{[][]int{chain(40, -12)}, nil, false},
		{[][]int{term("A"), nil}, nil, false},
		{[][]int{{}}, nil, false},
		{[][]int{term("A"), {5, -1}}, nil, false},
		{[][]int{{-1, -2}, term("A")}, nil, false},
		{[][]int{{6}}, nil, false},
		{[][]int{term("C"), {greatestInt}}, nil, false},
		{[][]int{term("C"), {leastInt}}, nil, false},
	}
	for _, c := range tests {
		got, ok := impl.RenameOf(s, c.l)
		if !sameLists(got, c.want) || ok != c.ok {
			t.Errorf("RenameOf(%d terms, the first %v): %v, %v", len(c.l), c.l[:min(len(c.l), 13)], got, ok)
		}
	}
	for _, bad := range []impl.Sign{{}, {Arity: []int{1}}, {Arity: make([]int, 11)}} {
		if got, ok := impl.RenameOf(bad, nil); got != nil || ok {
			t.Error("RenameOf with an invalid signature", got, ok)
		}
	}
}

func TestSameUpTo(t *testing.T) {
	s := sampleSign()
	tests := []struct {
		a, b     []int
		want, ok bool
	}{
		{term("f(A,B)"), term("f(B,A)"), true, true},
		{term("f(A,B)"), term("f(A,B)"), true, true},
		{term("f(A,B)"), term("f(K,L)"), true, true},
		{term("f(A,B)"), term("f(C,C)"), false, true},
		{term("f(C,C)"), term("f(A,B)"), false, true},
		{term("f(C,C)"), term("f(A,A)"), true, true},
		{term("f(A,f(B,A))"), term("f(B,f(A,B))"), true, true},
		{term("f(A,f(B,A))"), term("f(B,f(A,A))"), false, true},
		{term("f(A,f(B,A))"), term("f(A,f(B,C))"), false, true},
		{term("A"), term("L"), true, true},
		{term("A"), term("a"), false, true},
		{term("a"), term("a"), true, true},
		{term("a"), term("b"), false, true},
		{term("d(A)"), term("e(A)"), false, true},
		{term("d(A)"), term("A"), false, true},
		{chain(39, -1), chain(39, -12), true, true},
		{chain(39, -1), chain(38, -1), false, true},
		{chain(40, -1), chain(40, -1), false, false},
		{chain(40, -1), term("A"), false, false},
		{term("A"), chain(40, -1), false, false},
		{nil, nil, false, false},
		{term("A"), nil, false, false},
		{nil, term("A"), false, false},
		{[]int{-13}, []int{-13}, false, false},
		{[]int{5, -1}, []int{5, -1}, false, false},
		{term("A"), []int{6}, false, false},
		{[]int{leastInt}, term("A"), false, false},
		{term("A"), []int{greatestInt}, false, false},
	}
	for _, c := range tests {
		if got, ok := impl.SameUpTo(s, c.a, c.b); got != c.want || ok != c.ok {
			t.Errorf("SameUpTo(%v, %v): %v, %v", c.a, c.b, got, ok)
		}
	}
	if got, ok := impl.SameUpTo(impl.Sign{}, term("A"), term("A")); got || ok {
		t.Error("SameUpTo without symbols", got, ok)
	}
}

func TestIsUnifier(t *testing.T) {
	s := sampleSign()
	long := [][]int{chain(39, -1), nil, nil, nil, nil, nil, nil, nil, nil, nil, nil, nil}
	tests := []struct {
		b        [][]int
		t, u     []int
		want, ok bool
	}{
		{subst("A=d(B) C=B"), term("f(A,d(B))"), term("f(d(C),A)"), true, true},
		{subst("A=d(B)"), term("f(A,d(B))"), term("f(d(C),A)"), false, true},
		{subst(""), term("f(A,B)"), term("f(A,B)"), true, true},
		{subst(""), term("f(A,B)"), term("f(B,A)"), false, true},
		// The replacement is simultaneous: exchanged variables remain different.
		{subst("A=B B=A"), term("A"), term("B"), false, true},
		{subst("A=B B=B"), term("A"), term("B"), true, true},
		{subst("A=B"), term("f(A,A)"), term("f(B,B)"), true, true},
		{subst("A=b"), term("A"), term("b"), true, true},
		{subst("A=b"), term("b"), term("A"), true, true},
		{subst("A=b"), term("A"), term("c"), false, true},
		{subst("A=d(A)"), term("A"), term("d(A)"), false, true},
		{long, term("A"), chain(39, -1), false, false},
		{long, term("A"), chain(39, -2), false, true},
		{long, term("A"), term("A"), true, true},
		{long, term("A"), term("d(A)"), false, false},
		{long, term("d(A)"), term("A"), false, false},
		{long, term("d(A)"), term("d(A)"), false, false},
		{long, term("a"), term("a"), true, true},
		{subst("")[:11], term("a"), term("a"), false, false},
		{append(subst(""), nil), term("a"), term("a"), false, false},
		{subst("A=g(a,b,c)"), term("a"), term("a"), false, false},
		{nil, term("a"), term("a"), false, false},
		{subst(""), nil, nil, false, false},
		{subst(""), term("a"), nil, false, false},
		{subst(""), nil, term("a"), false, false},
		{subst(""), []int{-13}, []int{-13}, false, false},
		{subst(""), []int{5, 0}, []int{5, 0}, false, false},
		{subst(""), term("a"), []int{6}, false, false},
		{subst(""), []int{leastInt}, term("a"), false, false},
		{subst(""), term("a"), []int{greatestInt}, false, false},
		{subst(""), chain(40, 0), chain(40, 0), false, false},
	}
	for _, c := range tests {
		if got, ok := impl.IsUnifier(s, c.b, c.t, c.u); got != c.want || ok != c.ok {
			t.Errorf("IsUnifier(%v, %v, %v): %v, %v", c.b, c.t, c.u, got, ok)
		}
	}
	if got, ok := impl.IsUnifier(impl.Sign{}, subst(""), term("A"), term("A")); got || ok {
		t.Error("IsUnifier without symbols", got, ok)
	}
}
