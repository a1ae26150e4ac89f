package tests

import (
	"slices"
	"strings"
	"testing"

	"loop.example/g00682/impl"
)

func TestModelLimits(t *testing.T) {
	if impl.MaxSize != 3 || impl.MaxTries != 3000 {
		t.Error("a limit differs from the document")
	}
}

func world(size int, tables ...[]int) impl.World { return impl.World{Size: size, Tables: tables} }

func envOf(values ...int) []int { return append(values, make([]int, 12-len(values))...) }

// modelSign and modelWorld are those of the document's examples.
func modelSign() impl.Sign { return impl.Sign{Arity: []int{0, 0, 1}} }

func modelWorld() impl.World { return world(2, []int{0}, []int{1}, []int{1, 0}) }

// mixedSign has symbols with 0 to 3 arguments: a, b, c and d.
func mixedSign() impl.Sign { return impl.Sign{Arity: []int{0, 1, 2, 3}} }

// marked is a table that has 1 at that index, and 0 everywhere else.
func marked(long, at int) []int {
	l := make([]int, long)
	l[at] = 1
	return l
}

// mixedWorld has three elements. b(x) is the next element, c(x,y) is 1 for 1, 2 only, and d(x,y,z) is 1 for 0, 1, 2 only.
func mixedWorld() impl.World {
	return world(3, []int{2}, []int{1, 2, 0}, marked(9, 1*3+2), marked(27, 0*9+1*3+2))
}

// otherMixed has two elements. b exchanges them, c(x,y) is 1 for 0, 1 only, and d(x,y,z) is 1 for 1, 1, 0 only.
func otherMixed() impl.World {
	return world(2, []int{1}, []int{1, 0}, marked(4, 0*2+1), marked(8, 1*4+1*2+0))
}

// changedTable is a valid world with another table for one symbol.
func changedTable(w impl.World, n int, table []int) impl.World {
	w.Tables = slices.Clone(w.Tables)
	w.Tables[n] = table
	return w
}

// badWorlds are no worlds for the signature of the document's examples.
func badWorlds() []impl.World {
	w := modelWorld()
	bad := []impl.World{
		{}, {Size: 2}, {Tables: w.Tables}, world(2, []int{}, []int{}, []int{}), world(2, nil, nil, nil),
		world(0, []int{0}, []int{0}, []int{0}), world(0, nil, nil, nil), world(0, []int{0}, []int{0}, nil),
		world(4, []int{0}, []int{1}, []int{1, 0, 0, 0}), world(-1, []int{0}, []int{0}, []int{0}), world(-2, w.Tables...),
		world(greatestInt, w.Tables...), world(leastInt, w.Tables...), world(1, w.Tables...), world(3, w.Tables...),
		world(1, []int{0}, []int{0}, []int{0, 0}), world(1, []int{0}, []int{1}, []int{0}), world(1, []int{1}, []int{1}, []int{1}),
		world(2, []int{0}, []int{1}), world(2, []int{0}, []int{1, 0}), world(2, []int{1, 0}),
		world(2, []int{0}, []int{1}, []int{1, 0}, nil), world(2, []int{0}, []int{1}, []int{1, 0}, []int{0}),
		world(2, []int{0}, []int{1, 0}, []int{1}), world(2, []int{1, 0}, []int{0}, []int{1}),
		{Size: 2, Tables: slices.Repeat([][]int{{0}}, 500)},
	}
	for _, x := range []int{-1, 2, 3, leastInt, greatestInt} {
		bad = append(bad, changedTable(w, 0, []int{x}), changedTable(w, 1, []int{x}), changedTable(w, 2, []int{x, 0}), changedTable(w, 2, []int{1, x}))
	}
	for n, table := range w.Tables {
		bad = append(bad, changedTable(w, n, nil), changedTable(w, n, table[1:]), changedTable(w, n, append(slices.Clone(table), 0)))
		bad = append(bad, changedTable(w, n, make([]int, 300)))
	}
	return bad
}

func TestGoodWorld(t *testing.T) {
	one := world(1, []int{0}, []int{0}, []int{0})
	for _, w := range []impl.World{modelWorld(), one, world(2, []int{1}, []int{1}, []int{1, 1}), world(3, []int{2}, []int{0}, []int{2, 1, 0})} {
		if !impl.GoodWorld(modelSign(), w) {
			t.Errorf("GoodWorld(%v): false", w)
		}
		for _, s := range append(badSigns(), impl.Sign{Arity: []int{0, 0}}, impl.Sign{Arity: []int{0, 0, 1, 0}}) {
			if impl.GoodWorld(s, w) {
				t.Errorf("GoodWorld(%v) with %d symbols: true", w, len(s.Arity))
			}
		}
		// With one element, a table with one entry is right for each arity.
		for _, arity := range [][]int{{0, 0, 2}, {0, 1, 0}, {0, 0, 0}, {0, 3, 3}} {
			if impl.GoodWorld(impl.Sign{Arity: arity}, w) != (w.Size == 1) {
				t.Errorf("GoodWorld(%v, %v): %v", arity, w, w.Size != 1)
			}
		}
	}
	for _, w := range badWorlds() {
		if impl.GoodWorld(modelSign(), w) {
			t.Errorf("GoodWorld(%v): true", w)
		}
	}
	for _, w := range []impl.World{mixedWorld(), otherMixed(), world(1, []int{0}, []int{0}, []int{0}, []int{0})} {
		if !impl.GoodWorld(mixedSign(), w) {
			t.Errorf("GoodWorld(%v): false", w)
		}
		for n, table := range w.Tables {
			for _, bad := range []impl.World{changedTable(w, n, table[1:]), changedTable(w, n, append(slices.Clone(table), 0))} {
				if impl.GoodWorld(mixedSign(), bad) {
					t.Errorf("GoodWorld(%v): true", bad)
				}
			}
			for at := range table {
				for _, x := range []int{-1, w.Size} {
					entries := slices.Clone(table)
					entries[at] = x
					if impl.GoodWorld(mixedSign(), changedTable(w, n, entries)) {
						t.Errorf("GoodWorld of %v with %v for symbol %d: true", w, entries, n)
					}
				}
			}
		}
	}
	largest := impl.Sign{Arity: []int{0, 3, 3, 3, 3, 3, 3, 3, 3, 3}}
	if !impl.GoodWorld(largest, impl.World{Size: 3, Tables: append([][]int{{2}}, slices.Repeat([][]int{marked(27, 26)}, 9)...)}) {
		t.Error("GoodWorld of the largest world: false")
	}
}

func TestEvalIn(t *testing.T) {
	s, w := modelSign(), modelWorld()
	tests := []struct {
		s    impl.Sign
		w    impl.World
		text string
		env  []int
		want int
	}{
		{s, w, "c(c(b))", envOf(), 1},
		{s, w, "a", envOf(1, 1, 1), 0},
		{s, w, "b", envOf(), 1},
		{s, w, "c(a)", envOf(), 1},
		{s, w, "c(b)", envOf(), 0},
		{s, w, "A", envOf(), 0},
		{s, w, "A", envOf(1), 1},
		{s, w, "B", envOf(1), 0},
		{s, w, "B", envOf(0, 1), 1},
		{s, w, "c(B)", envOf(0, 1), 0},
		{s, w, "L", []int{0, 0, 0, 0, 0, 0, 0, 0, 0, 0, 0, 1}, 1},
		{s, w, "c(L)", []int{1, 1, 1, 1, 1, 1, 1, 1, 1, 1, 1, 0}, 1},
		{s, world(1, []int{0}, []int{0}, []int{0}), "c(c(A))", envOf(), 0},
		{s, world(3, []int{2}, []int{0}, []int{1, 2, 0}), "c(A)", envOf(2), 0},
		{s, world(3, []int{2}, []int{0}, []int{1, 2, 0}), "c(c(a))", envOf(), 1},
		// The arguments differ, and only one order of them has the value 1.
		{mixedSign(), mixedWorld(), "c(A,B)", envOf(1, 2), 1},
		{mixedSign(), mixedWorld(), "c(B,A)", envOf(1, 2), 0},
		{mixedSign(), mixedWorld(), "c(A,B)", envOf(2, 1), 0},
		{mixedSign(), mixedWorld(), "d(A,B,C)", envOf(0, 1, 2), 1},
		{mixedSign(), mixedWorld(), "d(A,C,B)", envOf(0, 1, 2), 0},
		{mixedSign(), mixedWorld(), "d(B,A,C)", envOf(0, 1, 2), 0},
		{mixedSign(), mixedWorld(), "d(B,C,A)", envOf(0, 1, 2), 0},
		{mixedSign(), mixedWorld(), "d(C,A,B)", envOf(0, 1, 2), 0},
		{mixedSign(), mixedWorld(), "d(C,B,A)", envOf(0, 1, 2), 0},
		{mixedSign(), mixedWorld(), "d(C,B,A)", envOf(2, 1, 0), 1},
		{mixedSign(), otherMixed(), "c(A,B)", envOf(0, 1), 1},
		{mixedSign(), otherMixed(), "c(A,B)", envOf(1, 0), 0},
		{mixedSign(), otherMixed(), "d(A,B,C)", envOf(1, 1, 0), 1},
		{mixedSign(), otherMixed(), "d(A,B,C)", envOf(0, 1, 1), 0},
		{mixedSign(), otherMixed(), "d(A,B,C)", envOf(1, 0, 1), 0},
		// The arguments are terms of several integers.
		{mixedSign(), mixedWorld(), "c(b(A),b(b(A)))", envOf(0), 1},
		{mixedSign(), mixedWorld(), "c(b(b(A)),b(A))", envOf(0), 0},
		{mixedSign(), mixedWorld(), "d(b(a),b(b(a)),a)", envOf(), 1},
		{mixedSign(), mixedWorld(), "d(a,b(b(a)),b(a))", envOf(), 0},
		{mixedSign(), mixedWorld(), "d(c(B,A),c(A,B),B)", envOf(1, 2), 1},
		{mixedSign(), mixedWorld(), "b(d(c(B,A),d(b(a),b(b(a)),a),a))", envOf(1, 2), 2},
	}
	for _, c := range tests {
		if got, ok := impl.EvalIn(c.s, c.w, lettersOf(c.text), c.env); got != c.want || !ok {
			t.Errorf("EvalIn(%v, %s, %v): %d, %v", c.w, c.text, c.env, got, ok)
		}
	}
}

// TestEvalInLong: terms of 40 integers, also ones in which many values have to be kept at a time.
func TestEvalInLong(t *testing.T) {
	s := impl.Sign{Arity: []int{0, 0, 1, 2, 3}}
	// c exchanges the elements, d(x,y) is 0 for 1, 0 only, and e(x,y,z) is 1 for 0, 1, 1 only.
	w := world(2, []int{0}, []int{1}, []int{1, 0}, []int{1, 1, 0, 1}, marked(8, 0*4+1*2+1))
	deep := slices.Concat(slices.Repeat([]int{2}, 39), []int{-1})
	left := slices.Concat(slices.Repeat([]int{3}, 19), []int{2}, slices.Repeat([]int{-1}, 20))
	right := slices.Concat(slices.Repeat([]int{3, -1}, 19), []int{2, -1})
	first := slices.Concat(slices.Repeat([]int{4}, 13), []int{-1}, slices.Repeat([]int{1}, 26))
	last := slices.Concat(slices.Repeat([]int{4, 0, 1}, 13), []int{-1})
	tests := []struct {
		name       string
		t          []int
		for0, for1 int
	}{
		{"deep", deep, 1, 0}, {"left", left, 0, 1}, {"right", right, 1, 0}, {"first", first, 1, 0}, {"last", last, 0, 1},
	}
	for _, c := range tests {
		if len(c.t) != 40 {
			t.Errorf("%s has %d integers", c.name, len(c.t))
		}
		for x, want := range []int{c.for0, c.for1} {
			if got, ok := impl.EvalIn(s, w, c.t, envOf(x)); got != want || !ok {
				t.Errorf("EvalIn of %s for %d: %d, %v", c.name, x, got, ok)
			}
		}
		if got, ok := impl.EvalIn(s, w, append([]int{2}, c.t...), envOf(1)); got != 0 || ok {
			t.Errorf("EvalIn of 41 integers, %s: %d, %v", c.name, got, ok)
		}
	}
}

func TestHoldsAt(t *testing.T) {
	s, w := modelSign(), modelWorld()
	tests := []struct {
		s    impl.Sign
		w    impl.World
		text string
		env  []int
		want bool
	}{
		{s, w, "c(A)=b|A=b", envOf(), true},
		{s, w, "c(A)=b|A=b", envOf(1), true},
		{s, w, "-", envOf(), false},
		{s, w, "-", envOf(1, 1, 1), false},
		{s, w, "a=a", envOf(), true},
		{s, w, "a#a", envOf(), false},
		{s, w, "a=b", envOf(), false},
		{s, w, "a#b", envOf(), true},
		{s, w, "A=B", envOf(1, 1), true},
		{s, w, "A=B", envOf(0, 1), false},
		{s, w, "A#B", envOf(1, 1), false},
		{s, w, "A#B", envOf(0, 1), true},
		{s, w, "c(A)=B", envOf(0, 1), true},
		{s, w, "c(A)=B", envOf(1, 1), false},
		{s, w, "B=c(A)", envOf(1, 0), true},
		// One literal is enough, at each place.
		{s, w, "A=b|a=b|a#a", envOf(1), true},
		{s, w, "a=b|A=b|a#a", envOf(1), true},
		{s, w, "a=b|a#a|A=b", envOf(1), true},
		{s, w, "a=b|a#a|A=b", envOf(0), false},
		{s, w, "a=b|b=a|c(a)=a|c(b)=b|a#a|b#b|A#A|L=b", envOf(1), false},
		{s, w, "a=b|b=a|c(a)=a|c(b)=b|a#a|b#b|A#A|L=b", []int{0, 0, 0, 0, 0, 0, 0, 0, 0, 0, 0, 1}, true},
		// More than 6 variables are no obstacle here.
		{s, w, "A=b|B=b|C=b|D=b|E=b|F=b|G=b", envOf(0, 0, 0, 0, 0, 0, 1), true},
		{s, w, "A=b|B=b|C=b|D=b|E=b|F=b|G=b", envOf(0, 0, 0, 0, 0, 0, 0, 1), false},
		{s, w, "A#B|C#D|E#F|G#H|I#J|K#L", []int{0, 0, 1, 1, 0, 0, 1, 1, 0, 0, 0, 1}, true},
		{s, w, "A#B|C#D|E#F|G#H|I#J|K#L", []int{0, 0, 1, 1, 0, 0, 1, 1, 0, 0, 1, 1}, false},
		{mixedSign(), mixedWorld(), "c(A,B)=b(a)", envOf(1, 2), false},
		{mixedSign(), mixedWorld(), "c(A,B)=b(b(a))", envOf(1, 2), true},
		{mixedSign(), mixedWorld(), "c(B,A)=b(b(a))", envOf(1, 2), false},
		{mixedSign(), mixedWorld(), "d(A,B,C)#d(C,B,A)", envOf(0, 1, 2), true},
		{mixedSign(), mixedWorld(), "d(A,B,C)#d(C,B,A)", envOf(1, 0, 2), false},
	}
	for _, c := range tests {
		if got, ok := impl.HoldsAt(c.s, c.w, clause(c.text), c.env); got != c.want || !ok {
			t.Errorf("HoldsAt(%v, %s, %v): %v, %v", c.w, c.text, c.env, got, ok)
		}
	}
}

type falseTest struct {
	s    impl.Sign
	w    impl.World
	text string
	want []int
}

// falseTests are clauses with at most 6 variables. The assignment is nil if a clause holds.
func falseTests() []falseTest {
	s, w := modelSign(), modelWorld()
	one := world(1, []int{0}, []int{0}, []int{0})
	three := world(3, []int{0}, []int{2}, []int{1, 2, 0})
	return []falseTest{
		{s, w, "c(A)=b|A=b", nil},
		{s, w, "c(B)=a", envOf()},
		{s, w, "-", envOf()},
		{s, one, "-", envOf()},
		{s, w, "a=a", nil},
		{s, w, "a#b", nil},
		{s, w, "a=b", envOf()},
		{s, one, "a=b", nil},
		{s, one, "A#B", envOf()},
		{s, one, "A=B|C#D|E=c(F)", nil},
		{s, w, "A=A", nil},
		{s, w, "A#A", envOf()},
		// The least assignment is not the first one.
		{s, w, "c(A)=b", envOf(1)},
		{s, w, "A=a", envOf(1)},
		{s, w, "B=a", envOf(0, 1)},
		{s, w, "L=a", []int{0, 0, 0, 0, 0, 0, 0, 0, 0, 0, 0, 1}},
		{s, w, "c(A)=b|B=a", envOf(1, 1)},
		{s, w, "B=a|c(A)=b", envOf(1, 1)},
		// The variable with the lesser number decides first, wherever it stands.
		{s, w, "A=B", envOf(0, 1)},
		{s, w, "B=A", envOf(0, 1)},
		{s, w, "L=C", []int{0, 0, 0, 0, 0, 0, 0, 0, 0, 0, 0, 1}},
		{s, three, "A=B", envOf(0, 1)},
		{s, three, "A=a|A=B", envOf(1, 0)},
		{s, three, "A=B|A=c(B)", envOf(0, 1)},
		{s, three, "A=B|c(A)=B", envOf(0, 2)},
		{s, three, "A=a|A=c(a)", envOf(2)},
		{s, three, "A=a|A=c(a)|A=b", nil},
		{s, three, "A=B|B=C|A=C", envOf(0, 1, 2)},
		{s, three, "C=b|A=B|B=C|A=C", envOf(0, 2, 1)},
		{s, three, "A=a|A=B|B=C|A=C", envOf(1, 0, 2)},
		{s, three, "A=a|A=c(a)|A=B|B=C|A=C", envOf(2, 0, 1)},
		{s, three, "A=B|A=C|A=D|B=C|B=D|C=D", nil},
		{s, w, "A=B|B=C|A=C", nil},
		// Variables that occur in literals that never hold have the least value too.
		{s, w, "A#A|B#B|C=a", envOf(0, 0, 1)},
		// Exactly 6 variables, also ones above the sixth number.
		{s, w, "A=a|B=a|C=a|D=a|E=a|F=a", envOf(1, 1, 1, 1, 1, 1)},
		{s, three, "A=a|B=a|C=a|D=a|E=a|F=b", envOf(1, 1, 1, 1, 1)},
		{s, w, "F=a|A#B|C#D|A#E", envOf(0, 0, 0, 0, 0, 1)},
		{s, w, "G=a|A#B|C#D|A#E", envOf(0, 0, 0, 0, 0, 0, 1)},
		{s, w, "L=a|K=a|J=a|I=a|H=a|G=a", []int{0, 0, 0, 0, 0, 0, 1, 1, 1, 1, 1, 1}},
		{s, w, "L=a|A=b|C=a|E=a|G=a|I=b", []int{0, 0, 1, 0, 1, 0, 1, 0, 0, 0, 0, 1}},
		{s, w, "A=B|C#D|E#F|A=C|A=E", []int{0, 1, 1, 1, 1, 1, 0, 0, 0, 0, 0, 0}},
		{s, w, "L=B|K#D|E#F|L=K|L=E", []int{0, 0, 0, 0, 0, 0, 0, 0, 0, 0, 0, 1}},
		{s, w, "L#B|K#D|E#F|c(L)=K|c(L)=E|c(b)#B", envOf()},
		{s, w, "A=B|A=C|A=D|A=E|A=F|a#a", envOf(0, 1, 1, 1, 1, 1)},
		{mixedSign(), mixedWorld(), "c(A,B)=b(a)", envOf(1, 2)},
		{mixedSign(), mixedWorld(), "c(B,A)=b(a)", envOf(2, 1)},
		{mixedSign(), mixedWorld(), "d(A,B,C)=b(a)", envOf(0, 1, 2)},
		{mixedSign(), mixedWorld(), "d(C,A,B)=b(a)", envOf(1, 2, 0)},
		{mixedSign(), mixedWorld(), "d(J,K,L)=b(a)", []int{0, 0, 0, 0, 0, 0, 0, 0, 0, 0, 1, 2}},
		{mixedSign(), mixedWorld(), "b(b(b(A)))=A", nil},
		{mixedSign(), mixedWorld(), "b(b(A))=A", envOf()},
		{mixedSign(), otherMixed(), "d(A,B,C)#a", envOf(1, 1, 0)},
		{mixedSign(), otherMixed(), "c(A,B)#a|d(C,D,E)#a|b(F)=F", envOf(0, 1, 1, 1)},
	}
}

func TestFalseAt(t *testing.T) {
	for _, c := range falseTests() {
		if got, ok := impl.FalseAt(c.s, c.w, clause(c.text)); !slices.Equal(got, c.want) || ok != (c.want != nil) {
			t.Errorf("FalseAt(%v, %s): %v, %v", c.w, c.text, got, ok)
		}
	}
}

func TestHoldsIn(t *testing.T) {
	for _, c := range falseTests() {
		if got, ok := impl.HoldsIn(c.s, c.w, clause(c.text)); got != (c.want == nil) || !ok {
			t.Errorf("HoldsIn(%v, %s): %v, %v", c.w, c.text, got, ok)
		}
	}
}

// clauses are written one behind the other, separated by blanks.
func clauses(text string) [][]impl.Lit {
	var l [][]impl.Lit
	for _, part := range strings.Fields(text) {
		l = append(l, clause(part))
	}
	return l
}

func TestAllHold(t *testing.T) {
	s, w := modelSign(), modelWorld()
	tests := []struct {
		s    impl.Sign
		w    impl.World
		l    [][]impl.Lit
		want bool
	}{
		{s, w, nil, true},
		{s, w, [][]impl.Lit{}, true},
		{s, w, clauses("c(A)=b|A=b"), true},
		{s, w, clauses("-"), false},
		{s, w, [][]impl.Lit{nil}, false},
		{s, w, clauses("c(A)=b|A=b c(B)=a"), false},
		{s, w, clauses("c(B)=a c(A)=b|A=b"), false},
		{s, w, clauses("c(A)=b|A=b a#b c(c(A))=A"), true},
		{s, w, clauses("c(A)=b|A=b - c(c(A))=A"), false},
		{s, w, clauses("a#b c(c(A))=A c(A)#A A=a|A=b A=c(a)"), false},
		{s, w, clauses("a#b c(c(A))=A c(A)#A A=a|A=b B=c(a)|B=a"), true},
		{s, world(1, []int{0}, []int{0}, []int{0}), clauses("a=b A=B c(A)=B"), true},
		{s, world(1, []int{0}, []int{0}, []int{0}), clauses("a=b A=B c(A)#B"), false},
		{s, world(3, []int{0}, []int{2}, []int{1, 2, 0}), clauses("c(c(c(A)))=A c(c(A))#A A=B|B=C|A=C|D=A|D=B|D=C"), true},
		{s, w, slices.Repeat(clauses("c(A)=b|A=b"), 40), true},
		{s, w, append(slices.Repeat(clauses("c(A)=b|A=b"), 39), clause("A=b")), false},
		{s, w, append(clauses("A=b"), slices.Repeat(clauses("c(A)=b|A=b"), 39)...), false},
		{s, w, slices.Repeat(clauses("A=B|B=C|A=C|D#D|E#E|F#F"), 40), true},
		{mixedSign(), mixedWorld(), clauses("b(b(b(A)))=A c(A,A)#b(b(a)) c(A,B)#c(B,A)|c(A,B)=b(a)"), true},
		{mixedSign(), mixedWorld(), clauses("b(b(b(A)))=A c(A,B)=c(B,A)"), false},
	}
	for _, c := range tests {
		if got, ok := impl.AllHold(c.s, c.w, c.l); got != c.want || !ok {
			t.Errorf("AllHold(%v, %v): %v, %v", c.w, c.l, got, ok)
		}
	}
}

// TestTooManyVars: clauses with 7 variables and more cannot be tried, also where one assignment or one literal would do.
func TestTooManyVars(t *testing.T) {
	w := modelWorld()
	texts := []string{
		"A=B|C=D|E=F|G=a", "A=a|B=a|C=a|D=a|E=a|F=a|G=a", "A=A|B=B|C=C|D=D|E=E|F=F|G=G", "A#A|B#B|C#C|D#D|E#E|F#F|G#G",
		"A=L|B=K|C=J|D=D", "F=G|H=I|J=K|c(L)=a", "A=B|C=D|E=F|G=H|I=J|K=L", "a=a|A=B|C=D|E=F|L=a", "G=a|F=a|E=a|D=a|C=a|B=a|A=a|a=a",
	}
	for _, text := range texts {
		checkUntried(t, modelSign(), w, clause(text))
		if _, ok := impl.HoldsAt(modelSign(), w, clause(text), envOf()); !ok {
			t.Errorf("HoldsAt of %s fails", text)
		}
	}
}

// checkUntried expects that the functions that try assignments fail for the clause, wherever it stands in a list.
func checkUntried(t *testing.T, s impl.Sign, w impl.World, c []impl.Lit) {
	t.Helper()
	if got, ok := impl.FalseAt(s, w, c); got != nil || ok {
		t.Errorf("FalseAt(%v, %v): %v, %v", w, c, got, ok)
	}
	if is, ok := impl.HoldsIn(s, w, c); is || ok {
		t.Errorf("HoldsIn(%v, %v): %v, %v", w, c, is, ok)
	}
	// The last clause decides whether all of the others hold.
	for _, other := range clauses("c(A)=b|A=b a=a -") {
		for _, l := range [][][]impl.Lit{{c}, {c, other}, {other, c}, {other, c, other}} {
			if is, ok := impl.AllHold(s, w, l); is || ok {
				t.Errorf("AllHold(%v, %v): %v, %v", w, l, is, ok)
			}
			if got, ok := impl.FindWorld(s, l, 2); got.Size != 0 || got.Tables != nil || ok {
				t.Errorf("FindWorld(%v): %v, %v", l, got, ok)
			}
		}
	}
}

func TestTooManyClauses(t *testing.T) {
	s, w := modelSign(), modelWorld()
	for _, c := range clauses("c(A)=b|A=b - a=a A=b") {
		for _, many := range []int{41, 42, 500} {
			l := slices.Repeat([][]impl.Lit{c}, many)
			if is, ok := impl.AllHold(s, w, l); is || ok {
				t.Errorf("AllHold of %d clauses %v: %v, %v", many, c, is, ok)
			}
			if got, ok := impl.FindWorld(s, l, 2); got.Size != 0 || got.Tables != nil || ok {
				t.Errorf("FindWorld of %d clauses %v: %v, %v", many, c, got, ok)
			}
		}
	}
	if is, ok := impl.AllHold(s, w, make([][]impl.Lit, 41)); is || ok {
		t.Error("AllHold of 41 empty clauses", is, ok)
	}
}

// badEnvs are no assignments for two elements.
func badEnvs() [][]int {
	bad := [][]int{nil, {}, {0}, make([]int, 11), make([]int, 13), make([]int, 500)}
	for _, x := range []int{-1, 2, 3, leastInt, greatestInt} {
		for _, at := range []int{0, 1, 6, 11} {
			env := make([]int, 12)
			env[at] = x
			bad = append(bad, env)
		}
	}
	return bad
}

// checkNoValue expects that EvalIn and HoldsAt fail.
func checkNoValue(t *testing.T, s impl.Sign, w impl.World, x []int, c []impl.Lit, env []int) {
	t.Helper()
	if n, ok := impl.EvalIn(s, w, x, env); n != 0 || ok {
		t.Errorf("EvalIn(%v, %v, %v, %v): %d, %v", s, w, x, env, n, ok)
	}
	if is, ok := impl.HoldsAt(s, w, c, env); is || ok {
		t.Errorf("HoldsAt(%v, %v, %v, %v): %v, %v", s, w, c, env, is, ok)
	}
}

// TestModelInvalid: all functions fail with zero values for each invalid argument, also where it would not matter.
func TestModelInvalid(t *testing.T) {
	s, w := modelSign(), modelWorld()
	x, c := lettersOf("b"), clause("b=b")
	for _, env := range badEnvs() {
		checkNoValue(t, s, w, x, c, env)
		checkNoValue(t, s, w, lettersOf("A"), clause("A=A"), env)
		checkNoValue(t, s, w, x, nil, env)
	}
	// What is an element of a larger world is none of a smaller one.
	checkNoValue(t, s, world(1, []int{0}, []int{0}, []int{0}), x, c, envOf(0, 1))
	for _, bad := range badWorlds() {
		checkNoValue(t, s, bad, x, c, envOf())
		for _, d := range [][]impl.Lit{c, nil, clause("A=A")} {
			checkNoWorld(t, s, bad, d)
		}
	}
	for _, bad := range badSigns() {
		checkNoValue(t, bad, w, x, c, envOf())
		checkUntried(t, bad, w, c)
		checkNoWorld(t, bad, w, c)
	}
	for _, bad := range [][]int{nil, {}, {2}, {-13}, {3}, {0, 0}, {2, 2}, {leastInt}, {greatestInt}, {2, greatestInt}, {2, leastInt}} {
		checkNoValue(t, s, w, bad, []impl.Lit{{Pos: true, L: bad, R: x}}, envOf())
		checkNoValue(t, s, w, bad, append(clause("b=b"), impl.Lit{L: x, R: bad}), envOf())
		checkUntried(t, s, w, []impl.Lit{{Pos: true, L: x, R: bad}})
		checkUntried(t, s, w, append(clause("b=b"), impl.Lit{L: bad, R: x}))
	}
	checkUntried(t, s, w, []impl.Lit{{}})
	checkUntried(t, s, w, slices.Repeat(clause("b=b"), 9))
	checkUntried(t, s, w, slices.Repeat(clause("b#b"), 9))
}

// checkNoWorld expects that the functions that try assignments fail because of the world or the signature.
func checkNoWorld(t *testing.T, s impl.Sign, w impl.World, c []impl.Lit) {
	t.Helper()
	if got, ok := impl.FalseAt(s, w, c); got != nil || ok {
		t.Errorf("FalseAt(%v, %v, %v): %v, %v", s, w, c, got, ok)
	}
	if is, ok := impl.HoldsIn(s, w, c); is || ok {
		t.Errorf("HoldsIn(%v, %v, %v): %v, %v", s, w, c, is, ok)
	}
	for _, l := range [][][]impl.Lit{nil, {c}, {c, c}} {
		if is, ok := impl.AllHold(s, w, l); is || ok {
			t.Errorf("AllHold(%v, %v, %v): %v, %v", s, w, l, is, ok)
		}
	}
}
