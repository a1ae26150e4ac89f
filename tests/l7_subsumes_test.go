package tests

import (
	"slices"
	"testing"

	"loop.example/g00682/impl"
)

// subsumesTest is a call of Subsumes that succeeds, with the substitution, or fails, with "no".
type subsumesTest struct{ c, d, want string }

func checkSubsumes(t *testing.T, tests []subsumesTest) {
	t.Helper()
	for _, c := range tests {
		var want [][]int
		if c.want != "no" {
			want = subst(c.want)
		}
		got, ok := impl.Subsumes(sampleSign(), clause(c.c), clause(c.d))
		if !sameLists(got, want) || ok != (want != nil) {
			t.Errorf("Subsumes(%s, %s): %v, %v", c.c, c.d, got, ok)
		}
	}
}

func TestSubsumes(t *testing.T) {
	checkSubsumes(t, []subsumesTest{
		{"d(A)=b", "c=c|b=d(e(B))", "A=e(B)"},
		{"d(A)=A", "d(b)=c", "no"},
		// One literal: terms without variables, and one variable or more.
		{"b=c", "b=c", ""},
		{"b#c", "b#c", ""},
		{"b=c", "b=a", "no"},
		{"A=b", "c=b", "A=c"},
		{"A=B", "c=b", "A=c B=b"},
		{"A=A", "b=b", "A=b"},
		{"A=A", "b=c", "no"},
		{"A#A", "d(B)#d(B)", "A=d(B)"},
		{"d(A)=e(B)", "d(e(A))=e(c)", "A=e(A) B=c"},
		{"f(A,A)=b", "f(c,c)=b", "A=c"},
		{"f(A,A)=b", "f(c,b)=b", "no"},
		{"d(A)=A", "d(c)=c", "A=c"},
		{"d(L)=K", "d(c)=b", "L=c K=b"},
		// An equation against an inequation.
		{"A=b", "c#b", "no"},
		{"A#b", "c=b", "no"},
		{"A=b", "c#b|a=b", "A=a"},
		{"A#b", "c=b|a#b", "A=a"},
		{"A=b|B#b", "c#b|a=b", "A=a B=c"},
		{"A=b|B=b", "c#b|a=b", "A=a B=a"},
		{"A=B", "c#b|a#b", "no"},
		// Sides that must be exchanged.
		{"b=c", "c=b", ""},
		{"b#c", "c#b", ""},
		{"A=b", "b=c", "A=c"},
		{"d(A)#B", "c#d(b)", "A=b B=c"},
		{"d(A)=A", "c=d(c)", "A=c"},
		{"A=d(B)", "d(c)=b", "A=b B=c"},
		{"f(A,B)=d(A)", "d(c)=f(c,b)", "A=c B=b"},
		{"f(A,B)=d(A)", "d(b)=f(c,b)", "no"},
		{"d(A)=e(A)|d(B)=b", "e(c)=d(c)|b=d(c)", "A=c B=c"},
		// The first literal of d, and its sides as they are, come first.
		{"A=b", "c=b|a=b", "A=c"},
		{"A=b", "b=c|a=b", "A=c"},
		{"A=b", "b=b", "A=b"},
		{"A=B", "b=c|a=c", "A=b B=c"},
		{"A=b", "c=a|a=c|b=a|c=b", "A=a"},
		{"d(A)=B", "d(b)=d(c)", "A=b B=d(c)"},
		{"A#B|B#A", "b#c|c#b", "A=b B=c"},
	})
}

func TestSubsumesLengths(t *testing.T) {
	checkSubsumes(t, []subsumesTest{
		// The empty clause, on both sides.
		{"-", "-", "no"},
		{"-", "b=c", "no"},
		{"-", eightLits, "no"},
		{"b=c", "-", "no"},
		{"A#B", "-", "no"},
		// More literals than d has, also if fewer would do.
		{"A=b|B=b", "c=b", "no"},
		{"A=b|A=b", "c=b", "no"},
		{"c=b|c=b", "c=b", "no"},
		{"A=b|B=b|C=b", "c=b|a=b", "no"},
		{"A=b|B=b|C=b|D=b", "c=b|a=b|b=b", "no"},
		// As many as d has, or fewer: two literals may need the same one of d.
		{"A=b|B=b", "c=b|a#b", "A=c B=c"},
		{"A=b|B=b", "c=b|a=b", "A=c B=c"},
		{"A=b|A=b", "c=b|a=b", "A=c"},
		{"b=c|c=b|b=c", "a=a|a#a|c=b", ""},
		{"A=B|B=A", "b=c|a#a", "A=b B=c"},
		{"d(A)=B|C=b", "a=a|b=d(c)", "A=c B=b C=d(c)"},
		// Four literals, and five.
		{"A=b|B=b|C=b|D=b", "c=b|a=b|b=b|b=b", "A=c B=c C=c D=c"},
		{"A=b|B#b|d(C)=c|D=D", eightLits, "no"},
		{"A=b|B#b|d(C)=b|f(D,E)#F", eightLits, "C=A D=E E=F F=L"},
		{"f(A,B)#C|d(C)=b|D#b|E#c", "A=b|B#b|C=c|D#c|d(A)=b|d(B)#b|e(C)=c|f(E,F)#A", "A=E B=F C=A D=B E=D"},
		{"b=c|b=c|b=c|b=c|b=c", "b=c|b=c|b=c|b=c|b=c", "no"},
		{"A=B|A=B|A=B|A=B|A=B", eightLits, "no"},
		{eightLits, eightLits, "no"},
		{"A=b|B#b|C=c|D#c", "A=b|B#b|C=c|D#c", ""},
		{"A=b|B#b|C=c|D#c|d(A)=b", "A=b|B#b|C=c|D#c|d(A)=b", "no"},
		// Four literals that take all the choices of eight.
		{"A=a|B=b|C=c|d(A)=D", "a=a|b=b|c=c|e(b)=e(a)|e(a)=a|e(b)=b|e(c)=c|b=d(b)", "no"},
		{"A=a|B=b|C=c|d(A)=D", "a=a|b=b|c=c|e(b)=e(a)|e(a)=a|e(b)=b|e(c)=c|b=d(e(a))", "A=e(a) B=b C=c D=b"},
	})
}

func TestSubsumesSearch(t *testing.T) {
	checkSubsumes(t, []subsumesTest{
		// A first choice that has to be taken back.
		{"A=b|d(A)=c", "c=b|a=b|d(a)=c", "A=a"},
		{"A=B|B=c", "a=b|d(a)=c", "A=c B=d(a)"},
		{"A=B|d(A)=B", "b=c|a=d(c)|c=b", "no"},
		{"A=B|d(A)=a", "b=c|d(c)=a", "A=c B=b"},
		{"A=B|d(A)=a", "b=c|d(b)=a", "A=b B=c"},
		{"A=B|d(B)=a", "b=c|d(b)=a", "A=c B=b"},
		{"A=B|C=A|d(C)=B", "a=b|b=c|d(c)=a", "A=b B=a C=c"},
		{"A#b|B#b|f(A,B)=c", "a#b|c#b|f(c,a)=c", "A=c B=a"},
		{"A#b|B#b|f(B,A)=c", "a#b|c#b|f(c,a)=c", "A=a B=c"},
		{"A#b|B#b|f(A,B)=c", "a#b|c#b|f(c,c)=c", "A=c B=c"},
		{"A#b|B#b|f(A,B)=c", "a#b|c#b|f(b,c)=c", "no"},
		{"A=b|B=b|C=b|f(A,f(B,C))#a", "a=b|b=c|b=b|f(c,f(b,a))#a", "A=c B=b C=a"},
		// What a choice that fails has replaced is taken back, too.
		{"f(A,B)=c", "f(b,c)=a|f(c,b)=c", "A=c B=b"},
		{"f(A,d(B))=c", "f(b,e(c))=c|f(c,d(b))=c", "A=c B=b"},
		{"A=d(B)", "d(b)=c|d(c)=b", "A=c B=b"},
		{"d(A)=A", "d(b)=d(d(b))", "A=d(b)"},
		{"f(A,B)=d(A)|e(B)=a", "f(b,c)=d(c)|f(c,b)=d(c)|e(b)=a", "A=c B=b"},
		// Variables on both sides, with the same numbers in both clauses.
		{"A=b", "A=b", ""},
		{"A=b", "B=b", "A=B"},
		{"B=b", "A=b", "B=A"},
		{"f(A,B)=b", "f(B,A)=b", "A=B B=A"},
		{"f(A,B)=b", "f(A,A)=b", "B=A"},
		{"f(B,A)=b", "f(B,B)=b", "A=B"},
		{"f(A,A)=b", "f(A,B)=b", "no"},
		{"f(A,A)=b", "f(B,A)=b", "no"},
		{"f(A,B)=C", "f(B,C)=A", "A=B B=C C=A"},
		{"A=d(A)", "d(A)=d(d(A))", "A=d(A)"},
		{"A=d(A)", "A=d(B)", "no"},
		{"d(A)=B|e(B)=b", "d(B)=A|e(A)=b", "A=B B=A"},
		{"d(A)=B|e(B)=b", "d(B)=A|e(B)=b", "no"},
		{"d(A)#B|d(B)#A", "d(B)#A|d(A)#B", "A=B B=A"},
		{"A#B", "B#A", "A=B B=A"},
		// A variable that stays as it is in every match is not replaced, and stays as it is elsewhere.
		{"d(A)=b", "d(A)=b", ""},
		{"A=b|d(A)=c", "A=b|d(A)=c", ""},
		{"A=b|d(A)=c", "A=b|d(B)=c", "no"},
		{"A=b|d(A)=c", "A=b|d(c)=c", "no"},
		{"A=b|d(A)=c", "A=b|B=b|d(B)=c", "A=B"},
		{"d(A)=c|A=b", "d(A)=c|B=b", "no"},
		{"f(A,B)=b|A=c", "f(A,c)=b|A=c", "B=c"},
		{"f(A,B)=b|A=c", "f(A,c)=b|B=c", "no"},
		{"f(A,B)=b|B=c", "f(A,c)=b|B=c", "no"},
		{"A=A|B=A", "A=A|B=A", "B=A"},
		{"L=K", "L=K", ""},
		// The variables of d are not replaced.
		{"b=c", "A=c", "no"},
		{"d(b)=c", "d(A)=c", "no"},
		{"d(b)=c", "A=c", "no"},
		{"f(A,b)=c", "f(b,A)=c", "no"},
	})
}

// TestSubsumesLong: terms of 40 integers, and all variables.
func TestSubsumesLong(t *testing.T) {
	s := sampleSign()
	checkSubsumes(t, []subsumesTest{
		{"A#B|C#D|E#F|G#H", "f(H,G)#a|b#b|b#b|b#b", "A=f(H,G) B=a C=f(H,G) D=a E=f(H,G) F=a G=f(H,G) H=a"},
		{"f(A,f(B,C))=f(D,f(E,F))|f(G,f(H,I))=f(J,f(K,L))", "a=a|f(L,f(K,J))=f(I,f(H,G))", "A=L B=K C=J D=I E=H F=G G=L H=K I=J J=I K=H L=G"},
	})
	long := []impl.Lit{{Pos: true, L: chain(39, -2), R: chain(39, 2)}}
	want := make([][]int, 12)
	want[0], want[1] = chain(38, 2), chain(39, -2)
	if got, ok := impl.Subsumes(s, clause("B=d(A)"), long); !sameLists(got, want) || !ok {
		t.Error("Subsumes with long terms", got, ok)
	}
	want[0], want[1] = nil, []int{-1}
	other := []impl.Lit{{Pos: true, L: chain(39, 2), R: chain(39, -1)}}
	if got, ok := impl.Subsumes(s, long, other); !sameLists(got, want) || !ok {
		t.Error("Subsumes with long terms", got, ok)
	}
	// All choices are tried, but this does not take long.
	c, d := clause("f(A,B)=f(C,D)|f(E,F)=f(G,H)|f(I,J)=f(K,L)|f(A,B)=b"), slices.Repeat(clause("f(a,b)=f(c,a)"), 8)
	if got, ok := impl.Subsumes(s, c, d); got != nil || ok {
		t.Error("Subsumes without a match", got, ok)
	}
	d[7] = clause("b=f(c,a)")[0]
	if got, ok := impl.Subsumes(s, c, d); !sameLists(got, subst("A=c B=a C=a D=b E=a F=b G=c H=a I=a J=b K=c L=a")) || !ok {
		t.Error("Subsumes with a late match", got, ok)
	}
}

// checkCovers compares Subsumes with the second implementation. If it succeeds, each literal of the instance of c must be
// equivalent to one of d. It reports whether it does.
func checkCovers(t *testing.T, s impl.Sign, c, d []lit) bool {
	t.Helper()
	want := subsumedBy(c, d)
	got, ok := impl.Subsumes(s, madeOf(c), madeOf(d))
	if !sameLists(got, want) || ok != (want != nil) {
		t.Fatalf("Subsumes(%v, %s, %s): %v, %v instead of %v", s, textOfLits(c), textOfLits(d), got, ok, want)
	}
	if !ok {
		return false
	}
	instance, ok := impl.ApplyClause(s, got, madeOf(c))
	if !ok {
		t.Fatalf("Subsumes(%v, %s, %s): %v, which cannot be applied", s, textOfLits(c), textOfLits(d), got)
	}
	for _, x := range rowOf(s, instance) {
		if !slices.ContainsFunc(d, x.equivalent) {
			t.Fatalf("Subsumes(%v, %s, %s): %v, but there is no %s", s, textOfLits(c), textOfLits(d), got, x.text())
		}
	}
	for v, u := range got {
		if len(u) > 0 && (slices.Equal(u, []int{-1 - v}) || !slices.Contains(varsOfLits(c), v)) {
			t.Fatalf("Subsumes(%v, %s, %s): %v replaces too much", s, textOfLits(c), textOfLits(d), got)
		}
	}
	return true
}

// TestSubsumesSmall: for all pairs of small clauses, Subsumes finds what the second implementation finds, and fails only if
// no small substitution makes each literal equivalent to one of d.
func TestSubsumesSmall(t *testing.T) {
	s := impl.Sign{Arity: []int{0, 1}}
	values := smallTrees(s, []int{0, 1}, 2)
	all := smallClauses(s)
	found, none := 0, 0
	d := &dice{state: 75}
	for range 6000 {
		x, y := all[d.below(len(all))], all[d.below(len(all))]
		if d.below(3) == 0 {
			y = threeVars(d.lits(s, 4, 3))
		}
		if checkCovers(t, s, x, y) {
			found++
			continue
		}
		none++
		if len(x) == 0 || len(x) > len(y) {
			continue
		}
		for _, p := range values {
			for _, q := range values {
				row, _ := putAll([][]*tree{{p}, {q}, nil, nil, nil, nil, nil, nil, nil, nil, nil, nil}, x)
				if !slices.ContainsFunc(row, func(z lit) bool { return !slices.ContainsFunc(y, z.equivalent) }) {
					t.Fatalf("Subsumes(%s, %s) fails, but %s, %s is a match", textOfLits(x), textOfLits(y), p.text(), q.text())
				}
			}
		}
	}
	if found < 150 || none < 1000 {
		t.Error("too few cases of a kind", found, none)
	}
}

func TestSubsumesLarge(t *testing.T) {
	d := &dice{state: 76}
	found, none := [5]int{}, [5]int{}
	for i := range 6000 {
		s := d.sign()
		row := d.lits(s, 5, 8)
		if i%100 == 0 {
			row = d.lits(s, 8, 8)
		}
		if d.below(3) == 0 {
			row = threeVars(row)
		}
		c := d.covered(s, row, d.below(5))
		if checkCovers(t, s, c, row) {
			found[len(c)]++
		} else {
			none[len(c)]++
		}
		if i%3 == 0 {
			checkCovers(t, s, row, c)
			checkCovers(t, s, row, row)
		}
	}
	for many := range 5 {
		if many > 0 && found[many] < 150 || none[many] < 150 {
			t.Error("too few cases of a kind", found, none)
		}
	}
}
