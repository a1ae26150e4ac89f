package tests

import (
	"slices"
	"strings"
	"testing"

	"loop.example/g00682/impl"
)

func sampleSign() impl.Sign { return impl.Sign{Arity: []int{0, 0, 0, 1, 1, 2}} }

// chain is the term d(d(..d(last)..)) with that many d.
func chain(many, last int) []int {
	return append(slices.Repeat([]int{3}, many), last)
}

func wideSign(arity int) impl.Sign {
	return impl.Sign{Arity: slices.Concat(make([]int, 9), []int{arity})}
}

func TestTermLimits(t *testing.T) {
	if impl.MaxSyms != 10 || impl.MaxArity != 3 || impl.MaxVars != 12 || impl.MaxTerm != 40 {
		t.Error("a limit differs from the document")
	}
}

func TestGoodSign(t *testing.T) {
	tests := []struct {
		arity []int
		want  bool
	}{
		{nil, false},
		{[]int{}, false},
		{[]int{0}, true},
		{[]int{0, 0, 0, 1, 1, 2}, true},
		{[]int{0, 0, 0, 0, 0, 0, 0, 0, 0, 0}, true},
		{[]int{0, 3, 3, 3, 3, 3, 3, 3, 3, 3}, true},
		{[]int{0, 0, 0, 0, 0, 0, 0, 0, 0, 0, 0}, false},
		{make([]int, 1<<20), false},
		{[]int{0, 1}, true},
		{[]int{0, 2}, true},
		{[]int{0, 3}, true},
		{[]int{0, 4}, false},
		{[]int{0, 3, 4, 3}, false},
		{[]int{0, 0, 0, 0, 0, 0, 0, 0, 0, 4}, false},
		{[]int{0, -1}, false},
		{[]int{0, 0, 0, 0, 0, 0, 0, 0, 0, -1}, false},
		{[]int{0, greatestInt}, false},
		{[]int{0, leastInt}, false},
		{[]int{1}, false},
		{[]int{3, 0}, false},
		{[]int{1, 0, 2}, false},
		{[]int{-1, 0}, false},
		{[]int{greatestInt}, false},
		{[]int{leastInt}, false},
	}
	for _, c := range tests {
		if got := impl.GoodSign(impl.Sign{Arity: c.arity}); got != c.want {
			t.Errorf("GoodSign of %d symbols, the first %v: %v", len(c.arity), c.arity[:min(len(c.arity), 11)], got)
		}
	}
}

func TestGoodTerm(t *testing.T) {
	s := sampleSign()
	tests := []struct {
		s    impl.Sign
		t    []int
		want bool
	}{
		{s, []int{5, 3, -1, 1}, true},
		{s, []int{0}, true},
		{s, []int{2}, true},
		{s, []int{-1}, true},
		{s, []int{-12}, true},
		{s, []int{-13}, false},
		{s, []int{3, -12}, true},
		{s, []int{3, -13}, false},
		{s, []int{5, -13, 0}, false},
		{s, []int{5, 4, 5, -12, 2, 3, 0}, true},
		{s, nil, false},
		{s, []int{}, false},
		{s, []int{3}, false},
		{s, []int{5, 0}, false},
		{s, []int{5, 3, -1}, false},
		{s, []int{0, 0}, false},
		{s, []int{-1, -1}, false},
		{s, []int{3, -1, 1}, false},
		{s, []int{5, 0, 0, 0}, false},
		{s, []int{6}, false},
		{s, []int{3, 6}, false},
		{s, []int{0, 6}, false},
		{s, []int{0, -13}, false},
		{s, []int{greatestInt}, false},
		{s, []int{leastInt}, false},
		{s, []int{3, greatestInt}, false},
		{s, []int{3, leastInt}, false},
		{s, chain(39, 0), true},
		{s, chain(39, -12), true},
		{s, chain(40, 0), false},
		{s, chain(40, -1), false},
		{s, chain(39, 3), false},
		{s, chain(1<<20, 0), false},
		{wideSign(3), []int{9, 8, -1, 0}, true},
		{wideSign(3), []int{9, 8, -1}, false},
		{wideSign(0), []int{9}, true},
		{wideSign(0), []int{10}, false},
		{impl.Sign{Arity: []int{0}}, []int{0}, true},
		{impl.Sign{Arity: []int{0}}, []int{1}, false},
		{impl.Sign{}, []int{0}, false},
		{impl.Sign{}, []int{-1}, false},
		{impl.Sign{}, nil, false},
		{impl.Sign{Arity: make([]int, 11)}, []int{0}, false},
		{impl.Sign{Arity: []int{1, 0}}, []int{1}, false},
		{impl.Sign{Arity: []int{0, 4}}, []int{0}, false},
		{impl.Sign{Arity: []int{0, 4}}, []int{1, 0, 0, 0, 0}, false},
		{impl.Sign{Arity: []int{0, -1}}, []int{0}, false},
	}
	for _, c := range tests {
		if got := impl.GoodTerm(c.s, c.t); got != c.want {
			t.Errorf("GoodTerm(%v, %d integers, first %v): %v", c.s, len(c.t), c.t[:min(len(c.t), 8)], got)
		}
	}
}

func TestTermExamples(t *testing.T) {
	s, w := sampleSign(), []int{5, 3, -1, 1}
	if got, ok := impl.EndOf(s, w, 1); got != 3 || !ok {
		t.Error("EndOf", got, ok)
	}
	if got, ok := impl.ArgsAt(s, w, 0); !slices.Equal(got, []int{1, 3}) || !ok {
		t.Error("ArgsAt", got, ok)
	}
	if got, ok := impl.PartAt(s, w, 1); !slices.Equal(got, []int{3, -1}) || !ok {
		t.Error("PartAt", got, ok)
	}
	if got, ok := impl.ReplaceAt(s, w, 1, []int{2}); !slices.Equal(got, []int{5, 2, 1}) || !ok {
		t.Error("ReplaceAt", got, ok)
	}
	if got, ok := impl.VarsOf(s, w); !slices.Equal(got, []int{0}) || !ok {
		t.Error("VarsOf", got, ok)
	}
	if got, ok := impl.CountOf(s, w, 3); got != 1 || !ok {
		t.Error("CountOf", got, ok)
	}
	if got, ok := impl.DepthOf(s, w); got != 3 || !ok {
		t.Error("DepthOf", got, ok)
	}
	if got, ok := impl.ShiftVars(s, w, 2); !slices.Equal(got, []int{5, 3, -3, 1}) || !ok {
		t.Error("ShiftVars", got, ok)
	}
	if got, ok := impl.TermText(s, w); got != "f(d(A),b)" || !ok {
		t.Error("TermText", got, ok)
	}
	if got, at, ok := impl.ReadTerm(s, "f(d(A),b)"); !slices.Equal(got, w) || at != 9 || !ok {
		t.Error("ReadTerm", got, at, ok)
	}
}

func TestEndOf(t *testing.T) {
	s := sampleSign()
	deep := []int{5, 4, 5, -12, 2, 3, 0}
	tests := []struct {
		t    []int
		at   int
		want int
		ok   bool
	}{
		{[]int{5, 3, -1, 1}, 0, 4, true},
		{[]int{5, 3, -1, 1}, 2, 3, true},
		{[]int{5, 3, -1, 1}, 3, 4, true},
		{[]int{5, 3, -1, 1}, 4, 0, false},
		{[]int{5, 3, -1, 1}, 5, 0, false},
		{[]int{5, 3, -1, 1}, -1, 0, false},
		{[]int{5, 3, -1, 1}, greatestInt, 0, false},
		{[]int{5, 3, -1, 1}, leastInt, 0, false},
		{deep, 0, 7, true},
		{deep, 1, 5, true},
		{deep, 2, 5, true},
		{deep, 3, 4, true},
		{deep, 5, 7, true},
		{[]int{-1}, 0, 1, true},
		{[]int{0}, 0, 1, true},
		{[]int{0}, 1, 0, false},
		{chain(39, -1), 0, 40, true},
		{chain(39, -1), 39, 40, true},
		{chain(40, -1), 0, 0, false},
		{chain(40, -1), 40, 0, false},
		{nil, 0, 0, false},
		{[]int{0, 0}, 0, 0, false},
		{[]int{3}, 0, 0, false},
		{[]int{-13}, 0, 0, false},
	}
	for _, c := range tests {
		if got, ok := impl.EndOf(s, c.t, c.at); got != c.want || ok != c.ok {
			t.Errorf("EndOf(%v, %d): %d, %v", c.t, c.at, got, ok)
		}
	}
}

func TestArgsAndParts(t *testing.T) {
	s := impl.Sign{Arity: []int{0, 1, 2, 3}}
	w := []int{3, 2, -12, 1, 0, -1, 3, 0, 1, -2, 2, 0, 0}
	tests := []struct {
		at   int
		args []int
		part []int
		ok   bool
	}{
		{0, []int{1, 5, 6}, w, true},
		{1, []int{2, 3}, []int{2, -12, 1, 0}, true},
		{2, nil, []int{-12}, true},
		{3, []int{4}, []int{1, 0}, true},
		{4, nil, []int{0}, true},
		{5, nil, []int{-1}, true},
		{6, []int{7, 8, 10}, []int{3, 0, 1, -2, 2, 0, 0}, true},
		{10, []int{11, 12}, []int{2, 0, 0}, true},
		{12, nil, []int{0}, true},
		{13, nil, nil, false},
		{14, nil, nil, false},
		{-1, nil, nil, false},
		{greatestInt, nil, nil, false},
		{leastInt, nil, nil, false},
	}
	for _, c := range tests {
		if got, ok := impl.ArgsAt(s, w, c.at); !slices.Equal(got, c.args) || ok != c.ok {
			t.Errorf("ArgsAt %d: %v, %v", c.at, got, ok)
		}
		if got, ok := impl.PartAt(s, w, c.at); !slices.Equal(got, c.part) || ok != c.ok {
			t.Errorf("PartAt %d: %v, %v", c.at, got, ok)
		}
	}
}

func TestReplaceAt(t *testing.T) {
	s := sampleSign()
	w := []int{5, 3, -1, 1}
	tests := []struct {
		t    []int
		at   int
		u    []int
		want []int
	}{
		{w, 0, []int{-12}, []int{-12}},
		{w, 0, w, w},
		{w, 2, []int{5, 0, -2}, []int{5, 3, 5, 0, -2, 1}},
		{w, 3, []int{3, 3, 0}, []int{5, 3, -1, 3, 3, 0}},
		{w, 4, []int{0}, nil},
		{w, 5, []int{0}, nil},
		{w, -1, []int{0}, nil},
		{w, greatestInt, []int{0}, nil},
		{w, leastInt, []int{0}, nil},
		{w, 1, nil, nil},
		{w, 1, []int{3}, nil},
		{w, 1, []int{0, 0}, nil},
		{w, 1, []int{-13}, nil},
		{w, 1, []int{6}, nil},
		{w, 1, []int{leastInt}, nil},
		{[]int{5, 3, -1}, 1, []int{0}, nil},
		{[]int{5, 3, -1}, 2, []int{0}, nil},
		// A result may have 40 integers and no more.
		{[]int{5, 0, 0}, 2, chain(37, 1), append([]int{5, 0}, chain(37, 1)...)},
		{[]int{5, 0, 0}, 2, chain(38, 1), nil},
		{[]int{5, 0, 0}, 1, chain(37, 1), slices.Concat([]int{5}, chain(37, 1), []int{0})},
		{[]int{5, 0, 0}, 1, chain(38, 1), nil},
		{[]int{0}, 0, chain(39, 1), chain(39, 1)},
		{chain(39, 0), 0, chain(39, 1), chain(39, 1)},
		{chain(39, 0), 39, []int{2}, chain(39, 2)},
		{chain(39, 0), 39, []int{3, 0}, nil},
		// Neither argument may be too long, even where the result would not be.
		{[]int{0}, 0, chain(40, 1), nil},
		{chain(40, 0), 0, []int{0}, nil},
		{chain(40, 0), 30, []int{0}, nil},
	}
	for _, c := range tests {
		got, ok := impl.ReplaceAt(s, c.t, c.at, c.u)
		if !slices.Equal(got, c.want) || ok != (c.want != nil) {
			t.Errorf("ReplaceAt(%v, %d, %v): %v, %v", c.t, c.at, c.u, got, ok)
		}
	}
}

func TestVarsOf(t *testing.T) {
	s := impl.Sign{Arity: []int{0, 1, 2, 3}}
	tests := []struct {
		t    []int
		want []int
		ok   bool
	}{
		{[]int{0}, nil, true},
		{[]int{2, 0, 0}, nil, true},
		{[]int{-1}, []int{0}, true},
		{[]int{-12}, []int{11}, true},
		{[]int{-13}, nil, false},
		{[]int{3, -12, -1, -12}, []int{0, 11}, true},
		{[]int{3, -6, -2, -4}, []int{1, 3, 5}, true},
		{[]int{2, -1, 2, -2, 2, -3, 2, -4, 2, -5, 2, -6, 2, -7, 2, -8, 2, -9, 2, -10, 2, -11, -12}, []int{0, 1, 2, 3, 4, 5, 6, 7, 8, 9, 10, 11}, true},
		{[]int{2, -1}, nil, false},
		{nil, nil, false},
	}
	for _, c := range tests {
		if got, ok := impl.VarsOf(s, c.t); !slices.Equal(got, c.want) || ok != c.ok {
			t.Errorf("VarsOf(%v): %v, %v", c.t, got, ok)
		}
	}
}

func TestCountOf(t *testing.T) {
	s := sampleSign()
	w := []int{5, 5, -1, -12, 5, -1, 3, -1}
	tests := []struct {
		t    []int
		n    int
		want int
		ok   bool
	}{
		{w, 5, 3, true},
		{w, -1, 3, true},
		{w, -12, 1, true},
		{w, 3, 1, true},
		{w, 0, 0, true},
		// Any integer may be counted: one that is in no term occurs 0 times.
		{w, 6, 0, true},
		{w, -13, 0, true},
		{w, greatestInt, 0, true},
		{w, leastInt, 0, true},
		{chain(39, 0), 3, 39, true},
		{chain(40, 0), 3, 0, false},
		{[]int{5, 5}, 5, 0, false},
		{[]int{leastInt}, leastInt, 0, false},
		{nil, 0, 0, false},
	}
	for _, c := range tests {
		if got, ok := impl.CountOf(s, c.t, c.n); got != c.want || ok != c.ok {
			t.Errorf("CountOf(%v, %d): %d, %v", c.t, c.n, got, ok)
		}
	}
}

func TestDepthOf(t *testing.T) {
	s := impl.Sign{Arity: []int{0, 1, 2, 3}}
	tests := []struct {
		t    []int
		want int
		ok   bool
	}{
		{[]int{0}, 1, true},
		{[]int{-12}, 1, true},
		{[]int{1, -1}, 2, true},
		{[]int{3, 0, 0, 0}, 2, true},
		{[]int{3, 1, 1, 0, 0, 1, 0}, 4, true},
		{[]int{3, 0, 1, 1, 0, 1, 0}, 4, true},
		{[]int{3, 0, 1, 0, 1, 1, 0}, 4, true},
		{[]int{2, 2, 2, 0, 0, 0, 0}, 4, true},
		{append(slices.Repeat([]int{1}, 39), 0), 40, true},
		{append(slices.Repeat([]int{1}, 40), 0), 0, false},
		{[]int{1}, 0, false},
		{[]int{0, 0}, 0, false},
		{nil, 0, false},
	}
	for _, c := range tests {
		if got, ok := impl.DepthOf(s, c.t); got != c.want || ok != c.ok {
			t.Errorf("DepthOf(%v): %d, %v", c.t, got, ok)
		}
	}
}

func TestShiftVars(t *testing.T) {
	s := sampleSign()
	tests := []struct {
		t    []int
		by   int
		want []int
	}{
		{[]int{5, -1, 3, -2}, 0, []int{5, -1, 3, -2}},
		{[]int{5, -1, 3, -2}, 1, []int{5, -2, 3, -3}},
		{[]int{5, -1, 3, -2}, 10, []int{5, -11, 3, -12}},
		{[]int{5, -1, 3, -2}, 11, nil},
		{[]int{5, -1, 3, -2}, 12, nil},
		{[]int{-1}, 11, []int{-12}},
		{[]int{-1}, 12, nil},
		{[]int{-12}, 0, []int{-12}},
		{[]int{-12}, 1, nil},
		// A term without variables may be shifted by every number that is allowed, and by no other.
		{[]int{5, 0, 2}, 12, []int{5, 0, 2}},
		{[]int{5, 0, 2}, 13, nil},
		{[]int{5, 0, 2}, -1, nil},
		{[]int{5, 0, 2}, greatestInt, nil},
		{[]int{5, 0, 2}, leastInt, nil},
		{[]int{-2}, -1, nil},
		{[]int{-1}, 13, nil},
		{[]int{-1}, greatestInt, nil},
		{[]int{-1}, leastInt, nil},
		{chain(39, -1), 1, chain(39, -2)},
		{chain(40, -1), 1, nil},
		{[]int{5, -1}, 1, nil},
		{[]int{-13}, 0, nil},
		{nil, 0, nil},
	}
	for _, c := range tests {
		got, ok := impl.ShiftVars(s, c.t, c.by)
		if !slices.Equal(got, c.want) || ok != (c.want != nil) {
			t.Errorf("ShiftVars(%v, %d): %v, %v", c.t, c.by, got, ok)
		}
	}
}

func TestTermText(t *testing.T) {
	tests := []struct {
		s    impl.Sign
		t    []int
		want string
	}{
		{sampleSign(), []int{0}, "a"},
		{sampleSign(), []int{-1}, "A"},
		{sampleSign(), []int{-12}, "L"},
		{sampleSign(), []int{5, 4, 5, -12, 2, 3, 0}, "f(e(f(L,c)),d(a))"},
		{sampleSign(), chain(39, 0), strings.Repeat("d(", 39) + "a" + strings.Repeat(")", 39)},
		{sampleSign(), chain(40, 0), ""},
		{sampleSign(), []int{-13}, ""},
		{sampleSign(), []int{6}, ""},
		{sampleSign(), []int{5, 0}, ""},
		{sampleSign(), []int{0, 0}, ""},
		{sampleSign(), nil, ""},
		{wideSign(0), []int{9}, "j"},
		{wideSign(3), []int{9, -3, 8, 1}, "j(C,i,b)"},
		{wideSign(3), []int{9, 9, 7, 6, 5, -11, 9, 4, 3, 2}, "j(j(h,g,f),K,j(e,d,c))"},
		{impl.Sign{}, []int{-1}, ""},
		{impl.Sign{Arity: []int{1, 0}}, []int{1}, ""},
	}
	for _, c := range tests {
		got, ok := impl.TermText(c.s, c.t)
		if got != c.want || ok != (c.want != "") {
			t.Errorf("TermText(%v): %q, %v", c.t, got, ok)
		}
	}
}
