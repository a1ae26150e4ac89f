package tests

import (
	"strings"
	"testing"

	"loop.example/g00682/impl"
)

func TestInferCodes(t *testing.T) {
	if impl.InDone != 0 || impl.InNone != 1 || impl.InVars != 2 || impl.InApart != 3 || impl.InBig != 4 || impl.InOrder != 5 {
		t.Error("a code differs from the document")
	}
}

// many is the beginning of a term with that many symbols d. The marks of a term may be left out.
func many(n int) string { return strings.Repeat("d", n) }

// conclusion is the clause with that text; without a text there is none.
func conclusion(text string) []impl.Lit {
	if text == "" {
		return nil
	}
	return clause(text)
}

func TestApartClauses(t *testing.T) {
	tests := []struct {
		c, d, want string
		ok         bool
	}{
		{"d(B)=A", "d(A)=b", "d(C)=b", true},
		{"A=b", "A=b", "B=b", true},
		{"A=B", "A=B", "C=D", true},
		// Empty clauses, and clauses without variables.
		{"-", "-", "-", true},
		{"-", "f(L,A)=B", "f(L,A)=B", true},
		{"A=b", "-", "-", true},
		{"L=b", "-", "-", true},
		{"b=c|d(b)#c", "f(L,A)=B|C#K", "f(L,A)=B|C#K", true},
		{"A=B", "b=c|d(b)#c", "b=c|d(b)#c", true},
		{"L=b", "b=c|d(b)#c", "b=c|d(b)#c", true},
		{"b=c", "c=b", "c=b", true},
		// The greatest variable counts, not the number of variables, wherever it stands.
		{"C=b", "A=B", "D=E", true},
		{"b=C", "A=B", "D=E", true},
		{"b=f(A,d(C))|B=A", "A=B", "D=E", true},
		{"b=c|A#b|b#d(C)", "A=B", "D=E", true},
		{"C=C|C#C", "A=B", "D=E", true},
		{"f(C,A)=B", "C=A", "F=D", true},
		{"B=A", "D=b", "F=b", true},
		// Nothing is renumbered, omitted or exchanged.
		{"A=b", "d(C)#b|c#c|b#d(C)|C=B|A=A", "d(D)#b|c#c|b#d(D)|D=C|B=B", true},
		{"A=b", "d(C)=b|d(C)=b", "d(D)=b|d(D)=b", true},
		// The twelfth variable.
		{"K=b", "A=c", "L=c", true},
		{"A=b", "K=c", "L=c", true},
		{"A=b", "J=K|f(I,H)=G|F=E|D=C|B=A", "K=L|f(J,I)=H|G=F|E=D|C=B", true},
		{"F=b", "A=B|C=D|E=F", "G=H|I=J|K=L", true},
		{"K=b", "B=c", "", false},
		{"K=b", "A=c|A=A|c=B", "", false},
		{"L=b", "A=c", "", false},
		{"b=c|b=L", "b=c|b=A", "", false},
		{"L=b", "b=c|c=a|d(A)=a", "", false},
		{"A=b", "L=c", "", false},
		{"A=b", "b=c|b=L", "", false},
		{"F=b", "A=B|C=D|G=E", "", false},
		{"L=L", "L=L", "", false},
		// Many literals and long terms.
		{eightLits, "A=b", "", false},
		{"A=b", "A=b|B#b|C=c|D#c|d(A)=b|d(B)#b|e(C)=c|f(E,F)#K", "B=b|C#b|D=c|E#c|d(B)=b|d(C)#b|e(D)=c|f(F,G)#L", true},
		{"A=b", many(39) + "A=" + many(39) + "K", many(39) + "B=" + many(39) + "L", true},
		{many(39) + "K=" + many(39) + "A", many(39) + "A=" + many(39) + "b", many(39) + "L=" + many(39) + "b", true},
	}
	for _, c := range tests {
		got, ok := impl.ApartClauses(sampleSign(), clause(c.c), clause(c.d))
		if !sameClauses(got, conclusion(c.want)) || ok != c.ok {
			t.Errorf("ApartClauses(%s, %s): %v, %v", c.c, c.d, got, ok)
		}
	}
}

// inferTest is a call of Superpose or, without d, of Factor.
type inferTest struct {
	c, d string
	way  []int
	want string
	code int
}

func checkSuperpose(t *testing.T, tests []inferTest) {
	t.Helper()
	for _, c := range tests {
		got, code, ok := impl.Superpose(sampleSign(), clause(c.c), clause(c.d), wayOf(c.way...))
		if !sameClauses(got, conclusion(c.want)) || code != c.code || !ok {
			t.Errorf("Superpose(%s, %s, %v): %v, %d, %v", c.c, c.d, c.way, got, code, ok)
		}
	}
}

func TestSuperpose(t *testing.T) {
	checkSuperpose(t, []inferTest{
		{"d(A)=b", "e(d(c))=c", []int{0, 0, 0, 0, 1}, "e(b)=c", impl.InDone},
		{"d(A)=b", "e(A)=c", []int{0, 0, 0, 0, 1}, "", impl.InNone},
		{"d(b)=b", "e(d(c))=c", []int{0, 0, 0, 0, 1}, "", impl.InApart},
		// Both sides of both literals; an inequation is changed like an equation.
		{"b=d(A)", "e(d(c))=c", []int{0, 1, 0, 0, 1}, "e(b)=c", impl.InDone},
		{"d(A)=b", "c=e(d(c))", []int{0, 0, 0, 1, 1}, "c=e(b)", impl.InDone},
		{"b=d(A)", "c=e(d(c))", []int{0, 1, 0, 1, 1}, "c=e(b)", impl.InDone},
		{"d(A)=b", "e(d(c))#c", []int{0, 0, 0, 0, 1}, "e(b)#c", impl.InDone},
		{"b=d(A)", "c#e(d(c))", []int{0, 1, 0, 1, 1}, "c#e(b)", impl.InDone},
		// All positions of a term; only one occurrence is replaced.
		{"d(A)=b", "d(c)=c", []int{0, 0, 0, 0, 0}, "b=c", impl.InDone},
		{"c=b", "f(c,c)=c", []int{0, 0, 0, 0, 1}, "f(b,c)=c", impl.InDone},
		{"c=b", "f(c,c)=c", []int{0, 0, 0, 0, 2}, "f(c,b)=c", impl.InDone},
		{"c=b", "f(c,c)=c", []int{0, 0, 0, 0, 0}, "", impl.InApart},
		{"d(A)=b", "f(e(d(c)),d(d(B)))=a", []int{0, 0, 0, 0, 2}, "f(e(b),d(d(A)))=a", impl.InDone},
		{"d(A)=b", "f(e(d(c)),d(d(B)))=a", []int{0, 0, 0, 0, 4}, "f(e(d(c)),b)=a", impl.InDone},
		{"d(A)=b", "f(e(d(c)),d(d(B)))=a", []int{0, 0, 0, 0, 5}, "f(e(d(c)),d(b))=a", impl.InDone},
		{"d(A)=b", "f(d(B),d(c))=e(d(B))", []int{0, 0, 0, 0, 1}, "f(b,d(c))=e(d(A))", impl.InDone},
		{"c=b", "f(d(c),f(d(A),d(c)))=c", []int{0, 0, 0, 0, 7}, "f(d(c),f(d(A),d(b)))=c", impl.InDone},
		{"f(A,B)=B", "e(f(b,e(f(c,C))))=C", []int{0, 0, 0, 0, 1}, "e(e(f(c,A)))=A", impl.InDone},
		{"f(A,B)=B", "e(f(b,e(f(c,C))))=C", []int{0, 0, 0, 0, 4}, "e(f(b,e(A)))=A", impl.InDone},
		// The unifier may change the part in front of the position, and is applied to everything.
		{"d(b)=a", "f(f(A,A),d(A))=c", []int{0, 0, 0, 0, 4}, "f(f(b,b),a)=c", impl.InDone},
		{"d(f(b,c))=a", "f(f(A,A),d(A))=A|A#A", []int{0, 0, 0, 0, 4}, "f(f(f(b,c),f(b,c)),a)=f(b,c)", impl.InDone},
		{"d(A)=A|f(A,A)=B", "f(B,d(d(b)))=B", []int{0, 0, 0, 0, 2}, "f(d(b),d(b))=A|f(B,d(b))=B", impl.InOrder},
		{"d(A)=A|a=B", "f(B,d(d(b)))=B", []int{0, 0, 0, 0, 2}, "a=A|f(B,d(b))=B", impl.InDone},
		// The other literals remain in order, those of the first clause in front; the variables are renumbered.
		{"a=b|d(A)=b|a#c", "b#c|e(d(B))=B|a=c", []int{1, 0, 1, 0, 1}, "a=b|a#c|b#c|e(b)=A|a=c", impl.InDone},
		{"d(A)=b|a#c", "a=c|b#c|e(d(B))=B", []int{0, 0, 2, 0, 1}, "a#c|a=c|b#c|e(b)=A", impl.InDone},
		{"a#c|A=a|d(A)=b", "e(d(B))=B|A#a", []int{2, 0, 0, 0, 1}, "a#c|A=a|e(b)=A|B#a", impl.InDone},
		{"b=d(L)", "c=e(d(b))|a=a", []int{0, 1, 0, 1, 1}, "c=e(b)|a=a", impl.InDone},
		{"f(D,C)=d(D)", "d(f(C,B))=b", []int{0, 0, 0, 0, 1}, "d(d(A))=b", impl.InDone},
		// Variables of the same names are different ones.
		{"d(A)=A", "f(d(B),A)=A", []int{0, 0, 0, 0, 1}, "f(A,B)=B", impl.InDone},
		{"d(A)=b", "e(d(d(A)))=A", []int{0, 0, 0, 0, 1}, "e(b)=A", impl.InDone},
		{"f(A,b)=A", "f(c,f(c,A))=A", []int{0, 0, 0, 0, 2}, "f(c,c)=b", impl.InDone},
		{"f(A,B)=d(B)", "e(f(B,A))=A", []int{0, 0, 0, 0, 1}, "e(d(A))=A", impl.InDone},
		// Inferences of a clause with itself.
		{"d(d(A))=A", "d(d(A))=A", []int{0, 0, 0, 0, 1}, "d(A)=d(A)", impl.InDone},
		{"d(d(A))=A", "d(d(A))=A", []int{0, 0, 0, 0, 0}, "A=A", impl.InDone},
		{"f(f(A,B),C)=f(A,f(B,C))", "f(f(A,B),C)=f(A,f(B,C))", []int{0, 0, 0, 0, 1}, "f(f(A,f(B,C)),D)=f(f(A,B),f(C,D))", impl.InDone},
		{"c=b|a=b", "c=b|a=b", []int{0, 0, 0, 0, 0}, "a=b|b=b", impl.InDone},
		// A side that is a variable, and a subterm that is a constant.
		{"A=b", "e(c)=c", []int{0, 0, 0, 0, 1}, "e(b)=c", impl.InDone},
		{"A=b", "e(B)=b", []int{0, 0, 0, 0, 0}, "b=b", impl.InDone},
		{"d(A)=b", "c=d(A)", []int{0, 0, 0, 0, 0}, "", impl.InApart},
		// There is no unifier.
		{"d(A)=b", "e(d(c))=c", []int{0, 0, 0, 0, 0}, "", impl.InApart},
		{"f(A,A)=b", "e(f(b,c))=c", []int{0, 0, 0, 0, 1}, "", impl.InApart},
		{"f(A,d(A))=b", "f(B,B)=c", []int{0, 0, 0, 0, 0}, "", impl.InApart},
		{"f(A,A)=b", "e(f(B,d(B)))=c", []int{0, 0, 0, 0, 1}, "", impl.InApart},
	})
}

func TestSuperposeOrder(t *testing.T) {
	checkSuperpose(t, []inferTest{
		// The side is equal to, less than, greater than or incomparable with the other one under the unifier.
		{"f(A,B)=f(B,A)", "d(f(c,c))=b", []int{0, 0, 0, 0, 1}, "d(f(c,c))=b", impl.InOrder},
		{"f(A,B)=f(B,A)", "d(f(b,c))=b", []int{0, 0, 0, 0, 1}, "d(f(c,b))=b", impl.InOrder},
		{"f(A,B)=f(B,A)", "d(f(c,b))=b", []int{0, 0, 0, 0, 1}, "d(f(b,c))=b", impl.InDone},
		{"f(A,B)=f(B,A)", "d(f(A,b))=b", []int{0, 0, 0, 0, 1}, "d(f(b,A))=b", impl.InDone},
		{"f(A,B)=f(B,A)", "d(f(c,b))=b", []int{0, 1, 0, 0, 1}, "d(f(b,c))=b", impl.InDone},
		{"f(A,b)=f(c,A)", "d(f(B,B))=b", []int{0, 0, 0, 0, 1}, "d(f(c,b))=b", impl.InOrder},
		{"d(A)=e(A)", "f(d(b),c)=c", []int{0, 0, 0, 0, 1}, "f(e(b),c)=c", impl.InOrder},
		{"d(A)=e(A)", "f(e(b),c)=c", []int{0, 1, 0, 0, 1}, "f(d(b),c)=c", impl.InDone},
		{"d(A)=d(A)", "f(d(b),c)=c", []int{0, 0, 0, 0, 1}, "f(d(b),c)=c", impl.InOrder},
		{"A=b", "e(b)=c", []int{0, 0, 0, 0, 1}, "e(b)=c", impl.InOrder},
		{"A=b", "e(a)=c", []int{0, 0, 0, 0, 1}, "e(b)=c", impl.InOrder},
		{"d(A)=B", "e(d(b))=c", []int{0, 0, 0, 0, 1}, "e(A)=c", impl.InDone},
		{"d(A)=B|B=b", "e(d(b))=c", []int{0, 0, 0, 0, 1}, "A=b|e(A)=c", impl.InDone},
		// The same for the side of the second clause.
		{"d(b)=a", "d(d(B))=d(d(b))", []int{0, 0, 0, 0, 1}, "d(a)=d(d(b))", impl.InOrder},
		{"d(b)=a", "d(d(B))=e(d(b))", []int{0, 0, 0, 0, 1}, "d(a)=e(d(b))", impl.InOrder},
		{"d(b)=a", "e(d(B))=d(d(b))", []int{0, 0, 0, 0, 1}, "e(a)=d(d(b))", impl.InDone},
		{"d(b)=a", "f(A,d(B))=f(B,d(A))", []int{0, 0, 0, 0, 2}, "f(A,a)=f(b,d(A))", impl.InDone},
		{"c=b", "b=c", []int{0, 0, 0, 1, 0}, "b=b", impl.InDone},
		{"b=a", "b=c", []int{0, 0, 0, 0, 0}, "a=c", impl.InOrder},
		{"b=a", "b#c", []int{0, 0, 0, 0, 0}, "a#c", impl.InOrder},
		{"b=a", "b#b", []int{0, 0, 0, 0, 0}, "a#b", impl.InOrder},
		// The subterm is still in the side that is compared.
		{"d(b)=a", "d(b)=c", []int{0, 0, 0, 0, 0}, "a=c", impl.InDone},
		{"d(b)=a", "e(d(b))=e(a)", []int{0, 0, 0, 0, 1}, "e(a)=e(a)", impl.InDone},
		// A literal of the first clause is greater, before applying the unifier or only afterwards.
		{"d(A)=b|e(A)=b", "d(d(c))=a", []int{0, 0, 0, 0, 1}, "e(c)=b|d(b)=a", impl.InOrder},
		{"d(A)=b|e(c)=b", "d(d(c))=a", []int{0, 0, 0, 0, 1}, "e(c)=b|d(b)=a", impl.InOrder},
		{"d(A)=b|e(c)=b", "d(d(A))=a", []int{0, 0, 0, 0, 1}, "e(c)=b|d(b)=a", impl.InDone},
		{"d(A)=b|e(c)=b", "d(d(d(c)))=a", []int{0, 0, 0, 0, 1}, "e(c)=b|d(b)=a", impl.InDone},
		{"d(c)=b|e(A)=b", "d(d(c))=a", []int{0, 0, 0, 0, 1}, "e(A)=b|d(b)=a", impl.InOrder},
		{"d(A)=b|d(A)#a", "d(d(c))=a", []int{0, 0, 0, 0, 1}, "d(c)#a|d(b)=a", impl.InOrder},
		{"d(A)=b|d(A)=a", "d(d(c))=a", []int{0, 0, 0, 0, 1}, "d(c)=a|d(b)=a", impl.InDone},
		{"d(A)=b|d(A)=c", "d(d(c))=a", []int{0, 0, 0, 0, 1}, "d(c)=c|d(b)=a", impl.InOrder},
		{"d(A)=b|b=d(A)", "d(d(c))=a", []int{0, 0, 0, 0, 1}, "b=d(c)|d(b)=a", impl.InDone},
		// The same for the second clause.
		{"d(b)=a", "d(d(A))=a|e(d(A))=a", []int{0, 0, 0, 0, 1}, "d(a)=a|e(d(b))=a", impl.InOrder},
		{"d(b)=a", "d(d(A))=a|e(d(b))=a", []int{0, 0, 0, 0, 1}, "d(a)=a|e(d(b))=a", impl.InOrder},
		{"d(B)=a", "d(d(A))=a|e(d(b))=a", []int{0, 0, 0, 0, 1}, "d(a)=a|e(d(b))=a", impl.InDone},
		{"d(b)=a", "e(d(A))=a|d(d(b))=a", []int{0, 0, 0, 0, 1}, "e(a)=a|d(d(b))=a", impl.InDone},
		{"d(b)=a", "d(d(A))=a|d(d(A))#a", []int{0, 0, 0, 0, 1}, "d(a)=a|d(d(b))#a", impl.InOrder},
		{"d(b)=a", "d(d(A))=a|d(d(A))#a", []int{0, 0, 1, 0, 1}, "d(d(b))=a|d(a)#a", impl.InDone},
		// A literal that is greater than one of the other clause does not count.
		{"d(A)=b|a=b", "d(b)=b|e(c)=b", []int{0, 0, 1, 0, 1}, "", impl.InApart},
		{"d(A)=b|a=b", "f(d(b),c)=b|e(c)=b", []int{0, 0, 0, 0, 1}, "a=b|f(b,c)=b|e(c)=b", impl.InDone},
		{"c=b|a=b", "d(d(c))=b|d(b)=b", []int{0, 0, 0, 0, 2}, "a=b|d(d(b))=b|d(b)=b", impl.InDone},
	})
}

// TestSuperposeTidy: what TidyClause omits from a conclusion, and empty conclusions.
func TestSuperposeTidy(t *testing.T) {
	checkSuperpose(t, []inferTest{
		{"c=b", "c#b", []int{0, 0, 0, 0, 0}, "-", impl.InDone},
		{"c=b", "b#c", []int{0, 0, 0, 1, 0}, "-", impl.InDone},
		{"A=b", "c#b", []int{0, 0, 0, 0, 0}, "-", impl.InDone},
		{"b=c", "c#b", []int{0, 1, 0, 0, 0}, "-", impl.InDone},
		{"b=c", "b#c", []int{0, 0, 0, 0, 0}, "-", impl.InOrder},
		{"a#a|d(A)=b|c#c", "d(c)#b|A#A", []int{1, 0, 0, 0, 0}, "-", impl.InDone},
		{"d(A)=b|A#c", "d(c)=a", []int{0, 0, 0, 0, 0}, "b=a", impl.InDone},
		{"d(A)=b|c=a", "d(c)=a|a=c", []int{0, 0, 0, 0, 0}, "c=a|b=a", impl.InDone},
		{"d(A)=b|c=a|A=a", "d(c)=a|a=c", []int{0, 0, 0, 0, 0}, "c=a|b=a", impl.InDone},
		{"d(A)=b|a=b", "d(c)=a|d(B)=a", []int{0, 0, 0, 0, 0}, "a=b|d(A)=a", impl.InDone},
		{"d(A)=b|a#b", "d(c)=a", []int{0, 0, 0, 0, 0}, "a#b|b=a", impl.InDone},
		{"d(A)=b", "d(c)=b", []int{0, 0, 0, 0, 0}, "b=b", impl.InDone},
		// The variables of a literal that is omitted do not count in the renumbering.
		{"d(A)=b|C#C|B=a", "d(c)=D", []int{0, 0, 0, 0, 0}, "A=a|b=B", impl.InDone},
	})
}

func checkResolve(t *testing.T, tests []struct {
	c    string
	i    int
	want string
	code int
}) {
	t.Helper()
	for _, c := range tests {
		got, code, ok := impl.Resolve(sampleSign(), clause(c.c), c.i)
		if !sameClauses(got, conclusion(c.want)) || code != c.code || !ok {
			t.Errorf("Resolve(%s, %d): %v, %d, %v", c.c, c.i, got, code, ok)
		}
	}
}

func TestResolve(t *testing.T) {
	checkResolve(t, []struct {
		c    string
		i    int
		want string
		code int
	}{
		{"d(A)#d(b)|A=c", 0, "b=c", impl.InDone},
		{"A=c|d(A)#d(b)", 1, "b=c", impl.InDone},
		{"d(b)#d(A)|A=c", 0, "b=c", impl.InDone},
		{"A=a|d(A)#d(B)|B=b", 1, "A=a|A=b", impl.InDone},
		{"d(L)#d(K)|L=J", 0, "A=B", impl.InDone},
		{"f(A,B)#f(C,D)|A=B|C=D|A=C|B=D", 0, "A=B|A=A|B=B", impl.InDone},
		{"a=b|c#a|f(A,b)#f(c,B)|B=A|a=a", 2, "a=b|c#a|b=c|a=a", impl.InDone},
		// Empty conclusions, and inequations that hold for no values.
		{"A#b", 0, "-", impl.InDone},
		{"b#A", 0, "-", impl.InDone},
		{"A#A", 0, "-", impl.InDone},
		{"b#b", 0, "-", impl.InDone},
		{"f(A,d(B))#f(d(C),A)", 0, "-", impl.InDone},
		{"A#b|b#A|A#A", 0, "-", impl.InDone},
		{"d(A)#d(b)|A#b", 0, "-", impl.InDone},
		// What TidyClause omits.
		{"d(A)#d(b)|A=c|c=b", 0, "b=c", impl.InDone},
		{"d(A)#d(b)|A#c|c=b", 0, "b#c|c=b", impl.InDone},
		{"d(A)#d(b)|C#C|B=A", 0, "A=b", impl.InDone},
		{"d(d(A))#d(d(b))|d(A)#d(b)", 0, "-", impl.InDone},
		// There is no unifier.
		{"b#c", 0, "", impl.InApart},
		{"d(A)#e(A)", 0, "", impl.InApart},
		{"A#d(A)", 0, "", impl.InApart},
		{"d(A)#A|A=b", 0, "", impl.InApart},
		{"f(A,B)#f(d(B),d(A))", 0, "", impl.InApart},
		{"f(A,A)#f(b,c)|a=a", 0, "", impl.InApart},
		// The literal is no inequation, or there is none.
		{"d(A)#d(b)|A=c", 1, "", impl.InNone},
		{"A=b", 0, "", impl.InNone},
		{"b=b", 0, "", impl.InNone},
		{"-", 0, "", impl.InNone},
		// Another literal is greater, before applying the unifier or only afterwards.
		{"b#A|c=A", 0, "c=b", impl.InOrder},
		{"b#A|c=a", 0, "c=a", impl.InOrder},
		{"c=a|b#A", 1, "c=a", impl.InOrder},
		{"A#b|d(A)=a", 0, "d(b)=a", impl.InOrder},
		{"A#b|d(c)=a", 0, "d(c)=a", impl.InOrder},
		{"A#b|d(B)=a", 0, "d(A)=a", impl.InOrder},
		{"A#B|d(B)=a", 0, "d(A)=a", impl.InOrder},
		{"A#B|d(C)=a", 0, "d(A)=a", impl.InDone},
		{"d(A)#d(B)|e(B)#c", 0, "e(A)#c", impl.InOrder},
		{"d(A)#d(B)|e(B)=c", 0, "e(A)=c", impl.InOrder},
		{"e(A)#e(B)|d(B)=c", 0, "d(A)=c", impl.InDone},
		{"A#b|B#c|b#b", 0, "A#c", impl.InOrder},
		{"A#b|B#A|b#b", 2, "A#b|B#A", impl.InDone},
		{"A#b|B#A|b#b", 0, "A#b", impl.InDone},
	})
}

func checkFactor(t *testing.T, tests []inferTest) {
	t.Helper()
	for _, c := range tests {
		got, code, ok := impl.Factor(sampleSign(), clause(c.c), wayOf(c.way...))
		if !sameClauses(got, conclusion(c.want)) || code != c.code || !ok {
			t.Errorf("Factor(%s, %v): %v, %d, %v", c.c, c.way, got, code, ok)
		}
	}
}

func TestFactor(t *testing.T) {
	checkFactor(t, []inferTest{
		{"d(A)=b|d(c)=a", "", []int{0, 0, 1}, "b#a|d(c)=a", impl.InDone},
		// Both sides of both literals, in both directions.
		{"b=d(A)|d(c)=a", "", []int{0, 1, 1, 0}, "b#a|d(c)=a", impl.InDone},
		{"d(A)=b|a=d(c)", "", []int{0, 0, 1, 1}, "b#a|a=d(c)", impl.InDone},
		{"b=d(A)|a=d(c)", "", []int{0, 1, 1, 1}, "b#a|a=d(c)", impl.InDone},
		{"d(A)=a|d(c)=b", "", []int{1, 0, 0, 0}, "d(c)=a|b#a", impl.InDone},
		{"a=d(A)|b=d(c)", "", []int{1, 1, 0, 1}, "a=d(c)|b#a", impl.InDone},
		{"d(A)=b|d(c)=a", "", []int{1, 0, 0}, "d(c)=b|a#b", impl.InOrder},
		// The other literals remain in order; the variables are renumbered.
		{"a#c|d(C)=C|b=c|d(B)=b|A=a", "", []int{1, 0, 3}, "a#c|A#b|b=c|d(A)=b|B=a", impl.InDone},
		{"a#c|d(C)=b|b=c|d(B)=B|A=a", "", []int{3, 0, 1}, "a#c|d(A)=b|b=c|A#b|B=a", impl.InDone},
		{"f(L,K)=K|f(J,K)=J", "", []int{0, 0, 1}, "A#B|f(B,A)=B", impl.InDone},
		{"f(A,B)=A|f(c,b)=b", "", []int{0, 0, 1}, "c#b|f(c,b)=b", impl.InDone},
		{"d(A)=b|e(A)#c|d(c)=a", "", []int{0, 0, 2}, "b#a|e(c)#c|d(c)=a", impl.InOrder},
		{"f(A,b)=A|e(A)#c|f(c,B)=B", "", []int{0, 0, 2}, "c#b|e(c)#c|f(c,b)=b", impl.InDone},
		// The literals of one clause share their variables.
		{"A=b|d(A)=c", "", []int{0, 0, 1}, "", impl.InApart},
		{"f(A,b)=c|f(b,A)=a", "", []int{0, 0, 1}, "c#a|f(b,b)=a", impl.InDone},
		{"f(A,b)=c|f(c,A)=a", "", []int{0, 0, 1}, "", impl.InApart},
		// There is no unifier.
		{"d(A)=b|e(c)=a", "", []int{0, 0, 1}, "", impl.InApart},
		{"d(A)=b|d(c)=a", "", []int{0, 1, 1}, "", impl.InApart},
		{"d(A)=b|d(c)=a", "", []int{0, 0, 1, 1}, "", impl.InApart},
		{"f(A,d(A))=b|f(B,B)=c", "", []int{0, 0, 1}, "", impl.InApart},
		{"b=a|c=a", "", []int{0, 0, 1}, "", impl.InApart},
		// The literals are not two different equations, or the position is not 0.
		{"d(A)=b|d(c)=a", "", []int{0, 0, 0}, "", impl.InNone},
		{"d(A)=b|d(c)=a", "", []int{1, 0, 1}, "", impl.InNone},
		{"d(A)=d(c)|d(c)=a", "", []int{0, 0, 0, 1}, "", impl.InNone},
		{"d(A)=b|d(A)=b", "", []int{0, 0, 1}, "d(A)=b", impl.InDone},
		{"d(A)#b|d(c)=a", "", []int{0, 0, 1}, "", impl.InNone},
		{"d(A)=b|d(c)#a", "", []int{0, 0, 1}, "", impl.InNone},
		{"d(A)#b|d(c)#a", "", []int{0, 0, 1}, "", impl.InNone},
		{"d(A)=b|d(c)=a", "", []int{0, 0, 1, 0, 1}, "", impl.InNone},
		{"d(A)=b|d(c)=a", "", []int{0, 0, 1, 0, -1}, "", impl.InNone},
		{"d(A)=b", "", []int{0, 0, 1}, "", impl.InNone},
		{"d(A)=b", "", []int{0, 0, 0, 1}, "", impl.InNone},
		{"-", "", []int{0, 0, 1}, "", impl.InNone},
		// The side is equal to, less than, greater than or incomparable with the other one under the unifier.
		{"f(A,B)=f(B,A)|f(c,c)=a", "", []int{0, 0, 1}, "f(c,c)#a|f(c,c)=a", impl.InOrder},
		{"f(A,B)=f(B,A)|f(b,c)=a", "", []int{0, 0, 1}, "f(c,b)#a|f(b,c)=a", impl.InOrder},
		{"f(A,B)=f(B,A)|f(c,b)=a", "", []int{0, 0, 1}, "f(b,c)#a|f(c,b)=a", impl.InDone},
		{"f(A,B)=f(B,A)|f(C,b)=a", "", []int{0, 0, 1}, "f(b,A)#a|f(A,b)=a", impl.InDone},
		{"A=b|b=c", "", []int{0, 0, 1}, "b#c|b=c", impl.InOrder},
		{"A=b|a=c", "", []int{0, 0, 1}, "b#c|a=c", impl.InOrder},
		{"A=b|c=a", "", []int{0, 0, 1}, "b#a|c=a", impl.InDone},
		// Another literal is greater, before applying the unifier or only afterwards.
		{"d(A)=b|d(c)=a|e(A)=b", "", []int{0, 0, 1}, "b#a|d(c)=a|e(c)=b", impl.InOrder},
		{"d(A)=b|d(c)=a|e(c)=b", "", []int{0, 0, 1}, "b#a|d(c)=a|e(c)=b", impl.InOrder},
		{"d(A)=b|d(B)=a|e(c)=b", "", []int{0, 0, 1}, "b#a|d(A)=a|e(c)=b", impl.InDone},
		{"d(A)=b|d(d(c))=a|e(c)=b", "", []int{0, 0, 1}, "b#a|d(d(c))=a|e(c)=b", impl.InDone},
		{"d(A)=b|d(c)=a|d(c)#a", "", []int{0, 0, 1}, "b#a|d(c)=a|d(c)#a", impl.InOrder},
		{"d(A)=b|d(c)=e(c)", "", []int{0, 0, 1}, "b#e(c)|d(c)=e(c)", impl.InOrder},
		// The second equation may be less than the first one, and its side less than the other one.
		{"d(A)=f(B,B)|d(A)=e(A)", "", []int{0, 0, 1}, "f(A,A)#e(B)|d(B)=e(B)", impl.InDone},
		{"d(A)=c|d(A)=a", "", []int{0, 0, 1}, "c#a|d(A)=a", impl.InDone},
		// What TidyClause omits.
		{"d(A)=b|d(c)=b", "", []int{0, 0, 1}, "d(c)=b", impl.InDone},
		{"d(A)=b|d(c)=a|a#b", "", []int{0, 0, 1}, "b#a|d(c)=a", impl.InDone},
		{"a#b|d(A)=b|d(c)=a", "", []int{1, 0, 2}, "a#b|d(c)=a", impl.InDone},
		{"d(A)=b|d(c)=a|a=d(A)|A#c", "", []int{0, 0, 1}, "b#a|d(c)=a", impl.InDone},
		{"d(A)=A|d(c)=B|B#c", "", []int{0, 0, 1}, "c#A|d(c)=A", impl.InDone},
	})
}
