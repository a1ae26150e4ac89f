package tests

import (
	"strings"
	"testing"

	"loop.example/g00682/impl"
)

// outside are indexes that a list of that length does not have.
func outside(long int) []int {
	return []int{-1, -2, long, long + 1, 100, 1 << 32, -1 << 32, 1<<32 + 1, leastInt, leastInt + 1, greatestInt - 1, greatestInt}
}

// changedWays puts numbers for each field of a way in turn.
func changedWays(w impl.Way, i, side, j, other, at []int) []impl.Way {
	var ways []impl.Way
	for _, n := range i {
		ways = append(ways, wayOf(n, w.Side, w.J, w.Other, w.At))
	}
	for _, n := range side {
		ways = append(ways, wayOf(w.I, n, w.J, w.Other, w.At))
	}
	for _, n := range j {
		ways = append(ways, wayOf(w.I, w.Side, n, w.Other, w.At))
	}
	for _, n := range other {
		ways = append(ways, wayOf(w.I, w.Side, w.J, n, w.At))
	}
	for _, n := range at {
		ways = append(ways, wayOf(w.I, w.Side, w.J, w.Other, n))
	}
	return ways
}

// checkNoWay expects InNone, although the arguments are valid.
func checkNoWay(t *testing.T, c, d []impl.Lit, w impl.Way) {
	t.Helper()
	if got, code, ok := impl.Superpose(sampleSign(), c, d, w); got != nil || code != impl.InNone || !ok {
		t.Errorf("Superpose(%v, %v, %v): %v, %d, %v", c, d, w, got, code, ok)
	}
}

func TestSuperposeNone(t *testing.T) {
	c, d := clause("a#b|d(A)=b"), clause("f(d(c),B)=e(d(c))|c#f(e(d(B)),B)|a=a")
	ways := []struct {
		w    impl.Way
		long int
		want string
	}{
		{wayOf(1, 0, 0, 0, 1), 4, "a#b|f(b,A)=e(d(c))|c#f(e(d(A)),A)|a=a"},
		{wayOf(1, 0, 0, 1, 1), 3, "a#b|f(d(c),A)=e(b)|c#f(e(d(A)),A)|a=a"},
		{wayOf(1, 0, 1, 1, 2), 5, "a#b|f(d(c),A)=e(d(c))|c#f(e(b),A)|a=a"},
	}
	for _, x := range ways {
		if got, code, ok := impl.Superpose(sampleSign(), c, d, x.w); !sameClauses(got, clause(x.want)) || code != impl.InDone && code != impl.InOrder || !ok {
			t.Errorf("Superpose(%v, %v, %v): %v, %d, %v", c, d, x.w, got, code, ok)
		}
		for _, w := range changedWays(x.w, outside(2), outside(2), outside(3), outside(2), outside(x.long)) {
			checkNoWay(t, c, d, w)
			checkNoWay(t, nil, d, w)
			checkNoWay(t, c, nil, w)
		}
		// Literal 0 of the first clause is an inequation.
		checkNoWay(t, c, d, wayOf(0, 0, x.w.J, x.w.Other, x.w.At))
		checkNoWay(t, c, d, wayOf(0, 1, x.w.J, x.w.Other, x.w.At))
		checkNoWay(t, nil, d, x.w)
		checkNoWay(t, c, nil, x.w)
		checkNoWay(t, nil, nil, x.w)
		checkNoWay(t, []impl.Lit{}, []impl.Lit{}, x.w)
	}
	// A position that only the other side, or only another literal, has.
	for _, w := range []impl.Way{wayOf(1, 0, 0, 1, 3), wayOf(1, 0, 1, 0, 1), wayOf(1, 0, 2, 0, 1), wayOf(1, 0, 0, 0, 4)} {
		checkNoWay(t, c, d, w)
	}
	// A subterm that is a variable, also one that the unifier would replace.
	for _, w := range []impl.Way{wayOf(1, 0, 0, 0, 3), wayOf(1, 1, 0, 0, 3), wayOf(1, 0, 1, 1, 3), wayOf(1, 0, 1, 1, 4)} {
		checkNoWay(t, c, d, w)
	}
	checkNoWay(t, clause("A=b"), clause("A=b"), wayOf(0, 0, 0, 0, 0))
	checkNoWay(t, clause("A=b"), clause("L=L"), wayOf(0, 1, 0, 1, 0))
	checkNoWay(t, clause("b#c"), clause("b=c"), wayOf())
	checkNoWay(t, clause("b#c"), clause("b#c"), wayOf())
}

// checkBoth expects that code and no conclusion.
func checkBoth(t *testing.T, c, d string, w impl.Way, want int) {
	t.Helper()
	got, code, ok := impl.Superpose(sampleSign(), clause(c), clause(d), w)
	if got != nil || code != want || !ok {
		t.Errorf("Superpose(%s, %s, %v): %v, %d, %v", c, d, w, got, code, ok)
	}
}

// eight is a clause of 8 literals that begins with that one.
func eight(first string, others string) string { return first + strings.Repeat("|"+others, 7) }

func TestSuperposeVars(t *testing.T) {
	tests := []struct{ c, d string }{
		{"d(L)=b", "e(d(A))=c"},
		{"d(A)=b|L=b", "e(d(A))=c"},
		{"d(b)=b|b=L", "e(d(A))=c"},
		{"d(K)=b", "e(d(B))=c"},
		{"d(A)=b", "e(d(L))=c"},
		{"d(A)=b", "e(d(b))=c|L#L"},
		{"d(F)=b", "e(d(A))=G"},
		{"d(L)=L", "e(d(L))=L"},
	}
	for _, x := range tests {
		checkBoth(t, x.c, x.d, wayOf(0, 0, 0, 0, 1), impl.InVars)
		if ways, ok := impl.WaysInto(sampleSign(), clause(x.c), clause(x.d)); len(ways) > 0 || !ok {
			t.Errorf("WaysInto(%s, %s): %v, %v", x.c, x.d, ways, ok)
		}
	}
	// The clauses can be made apart with variables up to the twelfth one.
	checkSuperpose(t, []inferTest{
		{"d(L)=b", "e(d(c))=c", []int{0, 0, 0, 0, 1}, "e(b)=c", impl.InDone},
		{"d(L)=b|L=a", "e(d(c))=c", []int{0, 0, 0, 0, 1}, "c=a|e(b)=c", impl.InDone},
		{"d(b)=a", "f(d(b),L)=L", []int{0, 0, 0, 0, 1}, "f(a,A)=A", impl.InDone},
		{"d(b)=a", "f(d(L),A)=L", []int{0, 0, 0, 0, 1}, "f(a,A)=b", impl.InDone},
		{"d(K)=K", "e(d(A))=A", []int{0, 0, 0, 0, 1}, "e(A)=A", impl.InDone},
		{"d(A)=A", "e(d(K))=K", []int{0, 0, 0, 0, 1}, "e(A)=A", impl.InDone},
		{"f(A,B)=f(B,A)|C=D|E=F", "d(f(A,B))=b|C=D|E=F", []int{0, 0, 0, 0, 1}, "A=B|C=D|d(f(E,F))=b|G=H|I=J", impl.InDone},
		{"d(A)=b|B=C|D=E|F=K", "e(d(A))=c", []int{0, 0, 0, 0, 1}, "A=B|C=D|E=F|e(b)=c", impl.InDone},
	})
}

// TestSuperposeTwoCodes: of two codes that apply, the one that is listed first is returned.
func TestSuperposeTwoCodes(t *testing.T) {
	at := wayOf(0, 0, 0, 0, 1)
	// InNone: the position is a variable, or a literal is an inequation.
	checkBoth(t, "d(L)=b", "e(A)=c", at, impl.InNone)
	checkBoth(t, "d(L)#b", "e(d(A))=c", at, impl.InNone)
	checkBoth(t, "d(L)=b", "e(d(A))=c", wayOf(0, 0, 0, 0, 3), impl.InNone)
	checkBoth(t, "d(L)=b", "e(d(A))=c", wayOf(0, 0, 1, 0, 1), impl.InNone)
	checkBoth(t, "d(A)#b", "e(e(A))=c", at, impl.InNone)
	checkBoth(t, eight("d(A)#b", "a=b"), eight("e(d(A))=c", "a=b"), at, impl.InNone)
	checkBoth(t, eight("d(A)=b", "a=b"), eight("e(A)=c", "a=b"), at, impl.InNone)
	checkBoth(t, "b#d(b)", "e(b)=c", at, impl.InNone)
	// InVars.
	checkBoth(t, "d(L)=b", "f(e(b),A)=c", at, impl.InVars)
	checkBoth(t, "d(A)=b", "f(e(b),L)=c", at, impl.InVars)
	checkBoth(t, eight("d(A)=b", "L=b"), eight("e(d(A))=c", "a=b"), at, impl.InVars)
	checkBoth(t, "b=d(b)|L=b", "e(b)=A", at, impl.InVars)
	checkBoth(t, "L=b", "d(A)=A", wayOf(), impl.InVars)
	// InApart.
	checkBoth(t, eight("d(A)=b", "a=b"), eight("e(e(A))=c", "a=b"), at, impl.InApart)
	checkBoth(t, "d(A)=b|"+many(38)+"A=a", "e(f(d(c),c))=c", at, impl.InApart)
	checkBoth(t, "d(b)=e(b)", "d(b)=e(c)", wayOf(0, 0, 0, 1, 1), impl.InApart)
	checkBoth(t, "b=c", "b=c", wayOf(0, 0, 0, 1, 0), impl.InApart)
	// InBig.
	checkBoth(t, eight("b=c", "c=b"), "b=c|c=b", wayOf(), impl.InBig)
	checkBoth(t, eight("d(A)=A", "e(A)=b"), "d(c)=b|e(c)=b", wayOf(), impl.InBig)
	checkBoth(t, "b=d(b)", many(39)+"b=c", wayOf(0, 0, 0, 0, 39), impl.InBig)
	checkBoth(t, "d(A)=b|"+many(38)+"A=a", "b=d(d(d(c)))", wayOf(0, 0, 0, 1, 0), impl.InBig)
}

// TestSuperposeBig: terms of 40 integers and clauses of 8 literals are valid, but no larger ones.
func TestSuperposeBig(t *testing.T) {
	at := func(n int) []int { return []int{0, 0, 0, 0, n} }
	seven, six := strings.Repeat("|a=a", 7), strings.Repeat("|a=a", 6)
	checkSuperpose(t, []inferTest{
		// The number of literals, also if TidyClause would omit some of them.
		{"c=b", "d(c)=b" + seven, at(1), "d(b)=b|a=a", impl.InDone},
		{"c=b" + seven, "d(c)=b", at(1), "a=a|d(b)=b", impl.InDone},
		{"c=b|a=a|a=a|a=a", "d(c)=b|a=a|a=a|a=a|a=a", at(1), "a=a|d(b)=b", impl.InDone},
		{"c=b|a=a", "d(c)=b" + six, at(1), "a=a|d(b)=b", impl.InDone},
		{"c=b|a=a", "d(c)=b" + seven, at(1), "", impl.InBig},
		{"c=b|a#a", "d(c)=b" + seven, at(1), "", impl.InBig},
		{"c=b" + seven, "d(c)=b|a=a", at(1), "", impl.InBig},
		{"c=b" + seven, "c#b|a#a", at(0), "", impl.InBig},
		{"c=b|a=a|a=a|a=a|a=a", "d(c)=b|a=a|a=a|a=a|a=a", at(1), "", impl.InBig},
		{"c=b" + seven, "d(c)=b" + seven, at(1), "", impl.InBig},
		{"d(A)=b|A=b|B=b|C=b", "d(d(A))=b|A#b|B#b|C#b|D#b", at(1), "A=b|B=b|C=b|d(b)=b|A#b|D#b|E#b|F#b", impl.InDone},
		// The term in which the subterm is replaced.
		{"b=" + many(4) + "a", many(34) + "b=c", at(34), many(38) + "a=c", impl.InOrder},
		{"b=" + many(5) + "a", many(34) + "b=c", at(34), many(39) + "a=c", impl.InOrder},
		{"b=" + many(6) + "a", many(34) + "b=c", at(34), "", impl.InBig},
		{"b=" + many(6) + "a", many(34) + "b#c", at(34), "", impl.InBig},
		{"A=" + many(39) + "A", "b=c", at(0), many(39) + "b=c", impl.InOrder},
		{"A=" + many(39) + "A", "d(b)=c", at(0), "", impl.InBig},
		{"A=" + many(39) + "B", "d(b)=c", at(1), "", impl.InBig},
		{many(20) + "A=" + many(20) + "A", many(39) + "b=c", at(19), many(39) + "b=c", impl.InOrder},
		{many(20) + "A=" + many(21) + "A", many(39) + "b=c", at(19), "", impl.InBig},
		// Instances of the other terms of the first clause.
		{"d(A)=b|" + many(36) + "A=a", "d(d(d(b)))=a", at(0), many(38) + "b=a|b=a", impl.InOrder},
		{"d(A)=b|" + many(37) + "A=a", "d(d(d(b)))=a", at(0), many(39) + "b=a|b=a", impl.InOrder},
		{"d(A)=b|" + many(38) + "A=a", "d(d(d(b)))=a", at(0), "", impl.InBig},
		{"d(A)=b|a#" + many(38) + "A", "d(d(d(b)))=a", at(0), "", impl.InBig},
		{"d(A)=b|" + many(38) + "A#" + many(38) + "A", "d(d(d(b)))=a", at(0), "", impl.InBig},
		// Instances of the terms of the second clause: of other literals, of the other side, and of the side itself.
		{"d(d(d(b)))=a", "d(A)=a|" + many(37) + "A=a", at(0), "a=a|" + many(39) + "b=a", impl.InOrder},
		{"d(d(d(b)))=a", "d(A)=a|" + many(38) + "A=a", at(0), "", impl.InBig},
		{"d(d(d(b)))=a", "d(A)=a|a#" + many(38) + "A", at(0), "", impl.InBig},
		{"d(d(d(b)))=a", "d(A)=a|" + many(38) + "A#" + many(38) + "A", at(0), "", impl.InBig},
		{"d(d(d(b)))=a", "d(A)=" + many(37) + "A", at(0), "a=" + many(39) + "b", impl.InOrder},
		{"d(d(d(b)))=a", "d(A)=" + many(38) + "A", at(0), "", impl.InBig},
		{"f(A," + many(3) + "b)=a", many(33) + "f(c,B)=a", at(33), many(33) + "a=a", impl.InDone},
		{"f(A," + many(4) + "b)=a", many(33) + "f(c,B)=a", at(33), many(33) + "a=a", impl.InDone},
		{"f(A," + many(5) + "b)=a", many(33) + "f(c,B)=a", at(33), "", impl.InBig},
		{"f(A," + many(9) + "b)=a", many(30) + "f(c,B)=a|a=a", at(30), "", impl.InBig},
		{"f(b," + many(3) + "b)=a", "f(f(b,B)," + many(29) + "B)=a", at(1), "f(a," + many(32) + "b)=a", impl.InDone},
		{"f(b," + many(3) + "b)=a", "f(f(b,B)," + many(30) + "B)=a", at(1), "", impl.InBig},
		{"f(b," + many(1) + "b)=a", "f(f(b,B)," + many(33) + "B)=a", at(1), "f(a," + many(34) + "b)=a", impl.InDone},
		// The unifier makes a term too long already when it is searched for.
		{"f(A," + many(30) + "A)=a", "f(" + many(8) + "b,B)=a", at(0), "", impl.InApart},
	})
}

func TestResolveNone(t *testing.T) {
	for _, text := range []string{"-", "A#b", "d(A)#d(b)|A=c", eight("A#b", "b#b"), eight("b=c", "A#b")} {
		c := clause(text)
		for _, i := range outside(len(c)) {
			if got, code, ok := impl.Resolve(sampleSign(), c, i); got != nil || code != impl.InNone || !ok {
				t.Errorf("Resolve(%s, %d): %v, %d, %v", text, i, got, code, ok)
			}
		}
	}
}

// TestResolveBig: the whole clause counts, after applying the unifier; of two codes, the first one is returned.
func TestResolveBig(t *testing.T) {
	checkResolve(t, []struct {
		c    string
		i    int
		want string
		code int
	}{
		{"d(A)#" + many(3) + "b|" + many(36) + "A=a", 0, many(38) + "b=a", impl.InOrder},
		{"d(A)#" + many(3) + "b|" + many(37) + "A=a", 0, many(39) + "b=a", impl.InOrder},
		{"d(A)#" + many(3) + "b|" + many(38) + "A=a", 0, "", impl.InBig},
		{"a=" + many(38) + "A|d(A)#" + many(3) + "b", 1, "", impl.InBig},
		{"A#" + many(2) + "b|" + many(38) + "A#" + many(38) + "A", 0, "", impl.InBig},
		{"A#" + many(39) + "b|d(A)=a", 0, "", impl.InBig},
		{"A#" + many(39) + "b|A=a", 0, many(39) + "b=a", impl.InDone},
		{many(39) + "A#" + many(39) + "b", 0, "-", impl.InDone},
		{many(38) + "A#" + many(39) + "b|A=a", 0, "d(b)=a", impl.InDone},
		{eight("A#b", "A#c"), 0, "b#c", impl.InOrder},
		{eight("A#c", "A#b"), 0, "c#b", impl.InDone},
		// InNone and InBig, InNone and InApart, InApart and InBig.
		{"d(A)=" + many(3) + "b|" + many(38) + "A=a", 0, "", impl.InNone},
		{"A=d(A)", 0, "", impl.InNone},
		{"f(A,c)#f(" + many(3) + "b,b)|" + many(38) + "A=a", 0, "", impl.InApart},
		{"f(A," + many(30) + "A)#f(" + many(8) + "b,B)|A=a", 0, "", impl.InApart},
		// InApart and InOrder, InNone and InOrder.
		{"b#c|d(A)=a", 0, "", impl.InApart},
		{"A=b|d(A)=a", 0, "", impl.InNone},
	})
}

func checkNoFactor(t *testing.T, c []impl.Lit, w impl.Way) {
	t.Helper()
	if got, code, ok := impl.Factor(sampleSign(), c, w); got != nil || code != impl.InNone || !ok {
		t.Errorf("Factor(%v, %v): %v, %d, %v", c, w, got, code, ok)
	}
}

func TestFactorNone(t *testing.T) {
	c := clause("d(A)=d(B)|d(c)=d(C)|a#a")
	for _, w := range []impl.Way{wayOf(0, 0, 1, 0), wayOf(0, 1, 1, 0), wayOf(1, 0, 0, 1), wayOf(1, 1, 0, 1)} {
		if _, code, ok := impl.Factor(sampleSign(), c, w); code != impl.InDone && code != impl.InOrder || !ok {
			t.Errorf("Factor(%v, %v): %d, %v", c, w, code, ok)
		}
		positions := append(outside(1), 2)
		for _, x := range changedWays(w, append(outside(3), w.J, 2), outside(2), append(outside(3), w.I, 2), outside(2), positions) {
			checkNoFactor(t, c, x)
			checkNoFactor(t, nil, x)
			checkNoFactor(t, c[:1], x)
		}
		checkNoFactor(t, c[:1], w)
		checkNoFactor(t, nil, w)
		checkNoFactor(t, []impl.Lit{}, w)
	}
	// The literal is not factored with itself, also not with its other side.
	for _, w := range []impl.Way{wayOf(), wayOf(0, 1, 0, 0), wayOf(0, 0, 0, 1), wayOf(1, 0, 1, 0), wayOf(1, 1, 1, 0)} {
		checkNoFactor(t, clause("A=A|A=A"), w)
		checkNoFactor(t, clause("d(A)=d(b)|d(A)=d(b)"), w)
	}
	checkNoFactor(t, clause("A=b"), wayOf(0, 0, 0, 1))
}

// TestFactorBig: the whole clause counts, after applying the unifier; of two codes, the first one is returned.
func TestFactorBig(t *testing.T) {
	checkFactor(t, []inferTest{
		{"d(A)=b|" + many(3) + "b=a|" + many(36) + "A=a", "", []int{0, 0, 1}, "b#a|" + many(3) + "b=a|" + many(38) + "b=a", impl.InOrder},
		{"d(A)=b|" + many(3) + "b=a|" + many(37) + "A=a", "", []int{0, 0, 1}, "b#a|" + many(3) + "b=a|" + many(39) + "b=a", impl.InOrder},
		{"d(A)=b|" + many(3) + "b=a|" + many(38) + "A=a", "", []int{0, 0, 1}, "", impl.InBig},
		{"d(A)=b|" + many(3) + "b=a|a#" + many(38) + "A", "", []int{0, 0, 1}, "", impl.InBig},
		{"a#" + many(38) + "A|d(A)=b|" + many(3) + "b=a", "", []int{1, 0, 2}, "", impl.InBig},
		{"A=" + many(37) + "A|" + many(2) + "b=a", "", []int{0, 0, 1}, many(39) + "b#a|" + many(2) + "b=a", impl.InOrder},
		{"A=" + many(38) + "A|" + many(2) + "b=a", "", []int{0, 0, 1}, "", impl.InBig},
		{many(2) + "b=a|A=" + many(37) + "A", "", []int{0, 0, 1}, "a#" + many(39) + "b|" + many(2) + "b=" + many(39) + "b", impl.InOrder},
		{many(2) + "b=a|A=" + many(38) + "A", "", []int{0, 0, 1}, "", impl.InBig},
		{"A=b|" + many(39) + "b=a", "", []int{0, 0, 1}, "b#a|" + many(39) + "b=a", impl.InDone},
		{"A=b|" + many(39) + "b=a|d(A)=a", "", []int{0, 0, 1}, "", impl.InBig},
		{eight("A=b", "c=a"), "", []int{0, 0, 7}, "b#a|c=a", impl.InDone},
		{eight("A=b", "A=a"), "", []int{7, 0, 0}, "A=b|A=a|a#b", impl.InOrder},
		// InNone and InBig, InNone and InApart, InApart and InBig, InBig and InOrder.
		{"d(A)=b|" + many(3) + "b=a|" + many(38) + "A=a", "", []int{0, 0, 1, 0, 1}, "", impl.InNone},
		{"d(A)=b|" + many(3) + "b#a|" + many(38) + "A=a", "", []int{0, 0, 1}, "", impl.InNone},
		{"d(A)=b|e(A)#a", "", []int{0, 0, 1}, "", impl.InNone},
		{"d(A)=b|e(A)=a", "", []int{0, 0, 1, 0, 1}, "", impl.InNone},
		{"f(A,c)=b|f(" + many(3) + "b,b)=a|" + many(38) + "A=a", "", []int{0, 0, 1}, "", impl.InApart},
		{"f(A," + many(30) + "A)=a|f(" + many(8) + "b,B)=a", "", []int{0, 0, 1}, "", impl.InApart},
		{"A=d(A)|" + many(39) + "b=a", "", []int{0, 0, 1}, "", impl.InBig},
		// InNone and InOrder, InApart and InOrder.
		{"b=c|b#a", "", []int{0, 0, 1}, "", impl.InNone},
		{"b=c|a=b", "", []int{0, 0, 1}, "", impl.InApart},
	})
}

// inferCalls are the functions of chapter 6 with two clauses; each reports whether it succeeds and whether its other
// results are zero values. Those with one clause take the second one.
func inferCalls() map[string]func(s impl.Sign, c, d []impl.Lit) (ok, zero bool) {
	return map[string]func(s impl.Sign, c, d []impl.Lit) (ok, zero bool){
		"ApartClauses": func(s impl.Sign, c, d []impl.Lit) (bool, bool) {
			e, ok := impl.ApartClauses(s, c, d)
			return ok, e == nil
		},
		"Superpose": func(s impl.Sign, c, d []impl.Lit) (bool, bool) {
			e, code, ok := impl.Superpose(s, c, d, wayOf())
			return ok, e == nil && code == 0
		},
		"Superpose without a way": func(s impl.Sign, c, d []impl.Lit) (bool, bool) {
			e, code, ok := impl.Superpose(s, c, d, wayOf(-1, 9, greatestInt, leastInt, 100))
			return ok, e == nil && code == 0
		},
		"Resolve": func(s impl.Sign, _, d []impl.Lit) (bool, bool) {
			e, code, ok := impl.Resolve(s, d, 0)
			return ok, e == nil && code == 0
		},
		"Resolve without a literal": func(s impl.Sign, _, d []impl.Lit) (bool, bool) {
			e, code, ok := impl.Resolve(s, d, greatestInt)
			return ok, e == nil && code == 0
		},
		"Factor": func(s impl.Sign, _, d []impl.Lit) (bool, bool) {
			e, code, ok := impl.Factor(s, d, wayOf(0, 0, 1))
			return ok, e == nil && code == 0
		},
		"Factor without a way": func(s impl.Sign, _, d []impl.Lit) (bool, bool) {
			e, code, ok := impl.Factor(s, d, wayOf(0, 0, 0, 0, leastInt))
			return ok, e == nil && code == 0
		},
		"WaysInto": func(s impl.Sign, c, d []impl.Lit) (bool, bool) {
			ways, ok := impl.WaysInto(s, c, d)
			return ok, ways == nil
		},
		"SingleWays": func(s impl.Sign, _, d []impl.Lit) (bool, bool) {
			at, ways, ok := impl.SingleWays(s, d)
			return ok, at == nil && ways == nil
		},
	}
}

func TestInferInvalid(t *testing.T) {
	good := clauses("- b=c A#b d(A)=b|d(c)=a|b#A " + eightLits)
	for name, call := range inferCalls() {
		one := !strings.Contains(name, "Superpose") && name != "ApartClauses" && name != "WaysInto"
		for _, c := range good {
			for _, bad := range badClauses() {
				if ok, zero := call(sampleSign(), c, bad); ok || !zero {
					t.Errorf("%s of %v, %v: succeeds %v, zero values %v", name, c, bad[:min(len(bad), 9)], ok, zero)
				}
				if ok, zero := call(sampleSign(), bad, c); ok != one || !one && !zero {
					t.Errorf("%s of %v, %v: succeeds %v, zero values %v", name, bad[:min(len(bad), 9)], c, ok, zero)
				}
			}
			for _, s := range badSigns() {
				if ok, zero := call(s, c, c); ok || !zero {
					t.Errorf("%s of %v with %d symbols: succeeds %v, zero values %v", name, c, len(s.Arity), ok, zero)
				}
			}
			for _, s := range []impl.Sign{sampleSign(), wideSample()} {
				if ok, _ := call(s, nil, c); !ok {
					t.Errorf("%s of %v fails", name, c)
				}
			}
		}
	}
}
