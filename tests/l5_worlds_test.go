package tests

import (
	"math"
	"slices"
	"strconv"
	"testing"

	"loop.example/g00682/impl"
)

func sameWorlds(v, w impl.World) bool { return v.Size == w.Size && sameLists(v.Tables, w.Tables) }

func constants(many int) impl.Sign { return impl.Sign{Arity: make([]int, many)} }

func TestCountWorlds(t *testing.T) {
	tests := []struct {
		s    impl.Sign
		want [3]int
	}{
		{modelSign(), [3]int{1, 16, 243}},
		{constants(1), [3]int{1, 2, 3}},
		{constants(2), [3]int{1, 4, 9}},
		{constants(7), [3]int{1, 128, 2187}},
		{constants(8), [3]int{1, 256, 6561}},
		// The greatest numbers below 10000, and the least ones above.
		{constants(9), [3]int{1, 512, 10000}},
		{constants(10), [3]int{1, 1024, 10000}},
		{impl.Sign{Arity: []int{0, 1, 3, 1}}, [3]int{1, 8192, 10000}},
		{impl.Sign{Arity: []int{0, 3, 1, 0, 0, 0}}, [3]int{1, 10000, 10000}},
		{impl.Sign{Arity: []int{0, 1}}, [3]int{1, 8, 81}},
		{impl.Sign{Arity: []int{0, 1, 1}}, [3]int{1, 32, 2187}},
		{impl.Sign{Arity: []int{0, 1, 0, 1}}, [3]int{1, 64, 6561}},
		{impl.Sign{Arity: []int{0, 1, 1, 1}}, [3]int{1, 128, 10000}},
		{impl.Sign{Arity: []int{0, 2}}, [3]int{1, 32, 10000}},
		{impl.Sign{Arity: []int{0, 3}}, [3]int{1, 512, 10000}},
		{impl.Sign{Arity: []int{0, 2, 0, 2, 0}}, [3]int{1, 2048, 10000}},
		{impl.Sign{Arity: []int{0, 3, 0, 0}}, [3]int{1, 2048, 10000}},
		{impl.Sign{Arity: []int{0, 3, 0, 1}}, [3]int{1, 4096, 10000}},
		{sampleSign(), [3]int{1, 2048, 10000}},
		{mixedSign(), [3]int{1, 10000, 10000}},
		// Far more worlds than an int can count.
		{impl.Sign{Arity: []int{0, 3, 3, 3, 3, 3, 3, 3, 3, 3}}, [3]int{1, 10000, 10000}},
		{impl.Sign{Arity: []int{0, 3, 3, 3, 3, 3, 3, 3, 0, 0}}, [3]int{1, 10000, 10000}},
	}
	for _, c := range tests {
		for i, want := range c.want {
			if got, ok := impl.CountWorlds(c.s, i+1); got != want || !ok {
				t.Errorf("CountWorlds(%v, %d): %d, %v", c.s, i+1, got, ok)
			}
		}
	}
}

// badSizes are no sizes of a world.
func badSizes() []int { return []int{0, 4, -1, 5, 10, 100, 1 << 32, leastInt, greatestInt} }

func TestWorldsInvalid(t *testing.T) {
	check := func(s impl.Sign, size int) {
		t.Helper()
		if n, ok := impl.CountWorlds(s, size); n != 0 || ok {
			t.Errorf("CountWorlds(%v, %d): %d, %v", s, size, n, ok)
		}
		for _, no := range []int{0, 1} {
			if w, ok := impl.WorldAt(s, size, no); !sameWorlds(w, impl.World{}) || ok {
				t.Errorf("WorldAt(%v, %d, %d): %v, %v", s, size, no, w, ok)
			}
		}
		for _, text := range []string{"", "A=A", "-", "a=a"} {
			if w, ok := impl.FindWorld(s, clauses(text), size); !sameWorlds(w, impl.World{}) || ok {
				t.Errorf("FindWorld(%v, %s, %d): %v, %v", s, text, size, w, ok)
			}
		}
	}
	for _, size := range badSizes() {
		check(modelSign(), size)
		check(constants(1), size)
		check(constants(10), size)
	}
	for _, s := range badSigns() {
		for _, size := range []int{0, 1, 2, 3, 4} {
			check(s, size)
		}
	}
}

func TestWorldAt(t *testing.T) {
	s := modelSign()
	tests := []struct {
		s    impl.Sign
		no   int
		want impl.World
	}{
		{s, 6, world(2, []int{0}, []int{1}, []int{1, 0})},
		{s, 0, world(2, []int{0}, []int{0}, []int{0, 0})},
		{s, 1, world(2, []int{1}, []int{0}, []int{0, 0})},
		{s, 2, world(2, []int{0}, []int{1}, []int{0, 0})},
		{s, 4, world(2, []int{0}, []int{0}, []int{1, 0})},
		{s, 8, world(2, []int{0}, []int{0}, []int{0, 1})},
		{s, 9, world(2, []int{1}, []int{0}, []int{0, 1})},
		{s, 15, world(2, []int{1}, []int{1}, []int{1, 1})},
		{s, 0, world(1, []int{0}, []int{0}, []int{0})},
		{s, 0, world(3, []int{0}, []int{0}, []int{0, 0, 0})},
		{s, 5, world(3, []int{2}, []int{1}, []int{0, 0, 0})},
		{s, 9*1 + 27*2 + 81*1, world(3, []int{0}, []int{0}, []int{1, 2, 1})},
		{s, 242, world(3, []int{2}, []int{2}, []int{2, 2, 2})},
		{s, 241, world(3, []int{1}, []int{2}, []int{2, 2, 2})},
		{constants(1), 1, world(2, []int{1})},
		{constants(3), 3*1 + 9*2, world(3, []int{0}, []int{1}, []int{2})},
		{impl.Sign{Arity: []int{0, 2, 1}}, 2 + 16 + 64, world(2, []int{0}, []int{1, 0, 0, 1}, []int{0, 1})},
		{impl.Sign{Arity: []int{0, 3}}, 1 + 64 + 128, world(2, []int{1}, []int{0, 0, 0, 0, 0, 1, 1, 0})},
		{constants(8), 6560, world(3, []int{2}, []int{2}, []int{2}, []int{2}, []int{2}, []int{2}, []int{2}, []int{2})},
		{impl.Sign{Arity: []int{0, 1, 3, 1}}, 8191, world(2, []int{1}, []int{1, 1}, []int{1, 1, 1, 1, 1, 1, 1, 1}, []int{1, 1})},
	}
	for _, c := range tests {
		if got, ok := impl.WorldAt(c.s, c.want.Size, c.no); !sameWorlds(got, c.want) || !ok {
			t.Errorf("WorldAt(%v, %d, %d): %v, %v", c.s, c.want.Size, c.no, got, ok)
		}
	}
}

func TestWorldAtOutside(t *testing.T) {
	signs := []impl.Sign{modelSign(), constants(1), constants(7), constants(8), constants(9), constants(10), mixedSign(), {Arity: []int{0, 1, 3, 1}}, {Arity: []int{0, 3, 0, 1, 0, 0}}}
	for _, s := range signs {
		for size := 1; size <= 3; size++ {
			many, _ := impl.CountWorlds(s, size)
			for _, no := range []int{-1, -2, leastInt, many, many + 1, 10000, 20000, greatestInt} {
				if w, ok := impl.WorldAt(s, size, no); !sameWorlds(w, impl.World{}) || ok {
					t.Errorf("WorldAt(%v, %d, %d): %v, %v", s, size, no, w, ok)
				}
			}
			for _, no := range []int{0, 1, many / 2, many - 1} {
				if w, ok := impl.WorldAt(s, size, no); ok != (no < many && many < 10000) || ok && !impl.GoodWorld(s, w) || !ok && !sameWorlds(w, impl.World{}) {
					t.Errorf("WorldAt(%v, %d, %d): %v, %v", s, size, no, w, ok)
				}
			}
		}
	}
}

// entriesIn is the number of entries of all tables.
func entriesIn(s impl.Sign, size int) int {
	many := 0
	for _, arity := range s.Arity {
		many += power(size, arity)
	}
	return many
}

// wantedCount is the second implementation of CountWorlds.
func wantedCount(s impl.Sign, size int) (int, bool) {
	if !goodSign(s) || size < 1 || size > 3 {
		return 0, false
	}
	if many := math.Pow(float64(size), float64(entriesIn(s, size))); many <= 10000 {
		return int(many), true
	}
	return 10000, true
}

// wantedWorld is the second implementation of WorldAt: it takes the digits from the end of the number's text.
func wantedWorld(s impl.Sign, size, no int) (impl.World, bool) {
	many, ok := wantedCount(s, size)
	if !ok || many == 10000 || no < 0 || no >= many {
		return impl.World{}, false
	}
	text := "0"
	if size > 1 {
		text = strconv.FormatInt(int64(no), size)
	}
	w := impl.World{Size: size}
	for _, arity := range s.Arity {
		table := make([]int, power(size, arity))
		for i := range table {
			if text != "" {
				table[i] = int(text[len(text)-1] - '0')
				text = text[:len(text)-1]
			}
		}
		w.Tables = append(w.Tables, table)
	}
	return w, true
}

// TestWorldAtAll: all worlds of a few signatures, each of which is valid and different from all others.
func TestWorldAtAll(t *testing.T) {
	signs := [][]int{{0}, {0, 0}, {0, 0, 1}, {0, 1, 1}, {0, 2}, {0, 2, 2}, {0, 3}, {0, 3, 0, 1}, {0, 1, 0, 1}, {0, 1, 3, 1}, {0, 0, 0, 0, 0, 0, 0, 0}}
	seen := 0
	for _, arity := range signs {
		s := impl.Sign{Arity: arity}
		for size := 1; size <= 3; size++ {
			many, ok := impl.CountWorlds(s, size)
			if want, _ := wantedCount(s, size); many != want || !ok {
				t.Fatalf("CountWorlds(%v, %d): %d, %v", arity, size, many, ok)
			}
			if many == 10000 {
				continue
			}
			seen += many
			texts := map[string]bool{}
			for no := range many {
				w, ok := impl.WorldAt(s, size, no)
				if want, _ := wantedWorld(s, size, no); !sameWorlds(w, want) || !ok || !impl.GoodWorld(s, w) {
					t.Fatalf("WorldAt(%v, %d, %d): %v, %v", arity, size, no, w, ok)
				}
				texts[textOfWorld(w)] = true
			}
			if len(texts) != many {
				t.Errorf("%v has %d different worlds of %d elements, not %d", arity, len(texts), size, many)
			}
		}
	}
	if seen < 20000 {
		t.Error("too few worlds", seen)
	}
}

func textOfWorld(w impl.World) string {
	text := ""
	for _, table := range w.Tables {
		for _, x := range table {
			text += strconv.Itoa(x)
		}
		text += " "
	}
	return text
}

func TestFindWorld(t *testing.T) {
	s := modelSign()
	tests := []struct {
		s    impl.Sign
		text string
		size int
		no   int
	}{
		{s, "", 1, 0},
		{s, "", 2, 0},
		{s, "", 3, 0},
		{s, "a=a", 2, 0},
		{s, "a#b", 1, -1},
		{s, "a#b", 2, 1},
		{s, "c(B)=a a#b", 2, 2},
		{s, "a#b", 3, 1},
		{s, "a#b a#c(a) b#c(a)", 3, 2 + 3*1},
		{s, "-", 1, -1},
		{s, "-", 2, -1},
		{s, "- a=a", 3, -1},
		{s, "a=a -", 3, -1},
		{s, "A=B", 1, 0},
		{s, "A=B", 2, -1},
		{s, "A=B|B=C|A=C", 2, 0},
		{s, "A=B|B=C|A=C", 3, -1},
		{s, "c(A)#A", 1, -1},
		{s, "c(A)#A", 2, 4},
		{s, "c(A)#A c(c(A))#A", 2, -1},
		{s, "c(A)#A c(c(A))#A", 3, 9*1 + 27*2},
		{s, "c(A)#A c(c(A))#A c(a)=b", 3, 2 + 9*1 + 27*2},
		{s, "c(A)#A c(c(A))#A c(b)=a", 3, 1 + 9*1 + 27*2},
		{s, "c(A)#A c(c(A))=A", 3, -1},
		{s, "a=b a#b", 3, -1},
		// Each clause is needed.
		{s, "a#b c(c(A))=A c(A)#A", 2, 1 + 4},
		{s, "c(c(A))=A c(A)#A a#b", 2, 1 + 4},
		{constants(3), "a#b|b#c a=b b=c", 2, -1},
		{impl.Sign{Arity: []int{0, 0, 2}}, "c(a,b)#c(b,a)", 2, 1 + 8},
		{impl.Sign{Arity: []int{0, 0, 2}}, "c(a,b)=b c(b,a)=a a#b", 2, 1 + 8},
		{impl.Sign{Arity: []int{0, 0, 2}}, "c(a,b)=a c(b,a)=b a#b", 2, 1 + 16},
		{impl.Sign{Arity: []int{0, 0, 3}}, "c(A,B,C)=A c(A,B,C)=B", 2, -1},
		{impl.Sign{Arity: []int{0, 3}}, "b(A,B,C)=A", 2, 32 + 64 + 128 + 256},
		{impl.Sign{Arity: []int{0, 3}}, "b(A,B,C)=B", 2, 8 + 16 + 128 + 256},
		{impl.Sign{Arity: []int{0, 3}}, "b(A,B,C)=C", 2, 4 + 16 + 64 + 256},
		{impl.Sign{Arity: []int{0, 1, 1}}, "b(c(A))=A b(A)#A b(b(A))#A", 3, 3*2 + 27*1 + 81*1 + 243*2},
	}
	for _, c := range tests {
		got, ok := impl.FindWorld(c.s, clauses(c.text), c.size)
		if want, _ := wantedWorld(c.s, c.size, c.no); !sameWorlds(got, want) || ok != (c.no >= 0) {
			t.Errorf("FindWorld(%v, %s, %d): %v, %v", c.s, c.text, c.size, got, ok)
		}
	}
}

// TestFindWorldLast: with one element, the last world is the first one. With more elements, exchanging the first and the
// last one turns the last world, whose entries are all the same, into the first one, so no clauses hold in the last world
// only; but there are clauses that hold in worlds near the end only.
func TestFindWorldLast(t *testing.T) {
	for _, s := range []impl.Sign{modelSign(), constants(1), constants(10), mixedSign()} {
		if got, ok := impl.FindWorld(s, clauses("A=B|B#a a=a"), 1); got.Size != 1 || !impl.GoodWorld(s, got) || !ok {
			t.Errorf("FindWorld(%v) for one element: %v, %v", s, got, ok)
		}
		if got, ok := impl.FindWorld(s, clauses("A=B B#a"), 1); !sameWorlds(got, impl.World{}) || ok {
			t.Errorf("FindWorld(%v) for one element: %v, %v", s, got, ok)
		}
	}
	s := impl.Sign{Arity: []int{0, 1, 3}}
	l := clauses("b(A)=A c(A,B,C)=A")
	want := world(2, []int{0}, []int{0, 1}, []int{0, 0, 0, 0, 1, 1, 1, 1})
	if got, ok := impl.FindWorld(s, l, 2); !sameWorlds(got, want) || !ok {
		t.Errorf("FindWorld(%v): %v, %v", s, got, ok)
	}
	for no := range 2048 {
		w, ok := impl.WorldAt(s, 2, no)
		holds := no == 4+128+256+512+1024 || no == 1+4+128+256+512+1024
		if is, ok2 := impl.AllHold(s, w, l); is != holds || !ok || !ok2 {
			t.Errorf("AllHold(%v, %v): %v, %v, %v", w, l, is, ok, ok2)
		}
	}
}

// TestMaxTries: 2187 and 2048 are the greatest numbers of worlds that are tried, also if none of them is found.
func TestMaxTries(t *testing.T) {
	tests := []struct {
		s    impl.Sign
		size int
		many int
	}{
		{constants(7), 3, 2187},
		{impl.Sign{Arity: []int{0, 1, 1}}, 3, 2187},
		{impl.Sign{Arity: []int{0, 1, 0, 0, 0}}, 3, 2187},
		{sampleSign(), 2, 2048},
		{impl.Sign{Arity: []int{0, 3, 0, 0}}, 2, 2048},
		{constants(10), 2, 1024},
		{constants(8), 3, 6561},
		{impl.Sign{Arity: []int{0, 1, 0, 1}}, 3, 6561},
		{impl.Sign{Arity: []int{0, 3, 0, 1}}, 2, 4096},
		{impl.Sign{Arity: []int{0, 1, 3, 1}}, 2, 8192},
		{impl.Sign{Arity: []int{0, 2}}, 3, 10000},
		{mixedSign(), 2, 10000},
		{mixedSign(), 3, 10000},
		{mixedSign(), 1, 1},
		{impl.Sign{Arity: []int{0, 3, 3, 3, 3, 3, 3, 3, 3, 3}}, 1, 1},
		{impl.Sign{Arity: []int{0, 3, 3, 3, 3, 3, 3, 3, 3, 3}}, 2, 10000},
	}
	for _, c := range tests {
		if got, ok := impl.CountWorlds(c.s, c.size); got != c.many || !ok {
			t.Errorf("CountWorlds(%v, %d): %d, %v", c.s, c.size, got, ok)
		}
		first, _ := wantedWorld(c.s, c.size, 0)
		for _, l := range [][][]impl.Lit{nil, clauses("A=A"), slices.Repeat(clauses("A#B|B=A"), 40)} {
			if got, ok := impl.FindWorld(c.s, l, c.size); ok != (c.many <= 3000) || ok && !sameWorlds(got, first) || !ok && !sameWorlds(got, impl.World{}) {
				t.Errorf("FindWorld(%v, %v, %d): %v, %v", c.s, l, c.size, got, ok)
			}
		}
		never := append(slices.Repeat(clauses("A#B|B=A"), 39), clause("a#a"))
		if got, ok := impl.FindWorld(c.s, never, c.size); !sameWorlds(got, impl.World{}) || ok {
			t.Errorf("FindWorld(%v, never, %d): %v, %v", c.s, c.size, got, ok)
		}
	}
}

// TestFindWorldAll: the clauses that hold in a world are given to FindWorld, which finds the first world in which they hold.
func TestFindWorldAll(t *testing.T) {
	unary := "A=a A#a A=B|B=C|A=C b(A)=A b(A)=a b(A)#A b(b(A))=A b(b(A))#A b(b(b(A)))=A b(A)=b(B) b(A)#b(B)|A=B b(A)=A|b(A)=a"
	binary := " c(A,B)=c(B,A) c(A,B)=A c(A,B)=B c(A,A)=A c(A,B)=a c(A,a)=A c(a,A)=A c(A,B)=b(A) c(c(A,B),C)=c(A,c(B,C)) c(A,B)#c(B,A)|A=B"
	tests := []struct {
		arity []int
		size  int
		text  string
	}{
		{[]int{0, 1}, 1, unary}, {[]int{0, 1}, 2, unary}, {[]int{0, 1}, 3, unary},
		{[]int{0, 1, 2}, 1, unary + binary}, {[]int{0, 1, 2}, 2, unary + binary},
	}
	found, late := 0, 0
	for _, c := range tests {
		s := impl.Sign{Arity: c.arity}
		all := modelsOf(s, c.size)
		pool := clauses(c.text)
		for _, m := range all {
			l := slices.DeleteFunc(slices.Clone(pool), func(x []impl.Lit) bool { return !m.holds(rowOf(s, x), 3) })
			first := slices.IndexFunc(all, func(n model) bool {
				return !slices.ContainsFunc(l, func(x []impl.Lit) bool { return !n.holds(rowOf(s, x), 3) })
			})
			got, ok := impl.FindWorld(s, l, c.size)
			if !sameWorlds(got, impl.World{Size: c.size, Tables: all[first].tables}) || !ok {
				t.Fatalf("FindWorld(%v, %v, %d): %v, %v, but the first one is %v", s, l, c.size, got, ok, all[first])
			}
			found++
			if 2*first > len(all) {
				late++
			}
		}
	}
	if found < 200 || late < 10 {
		t.Error("too few cases of a kind", found, late)
	}
}

// rowOf holds the trees of a clause that is valid.
func rowOf(s impl.Sign, c []impl.Lit) []lit {
	row, good := goodLits(s, c)
	if !good {
		panic("no clause")
	}
	return row
}
