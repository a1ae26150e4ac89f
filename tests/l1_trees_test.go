package tests

import (
	"slices"
	"testing"

	"loop.example/g00682/impl"
)

// eachTerm calls the function with all small terms of a few signatures and with larger ones of many signatures.
func eachTerm(visit func(s impl.Sign, x *tree)) {
	signs := []impl.Sign{
		{Arity: []int{0}},
		{Arity: []int{0, 1}},
		{Arity: []int{0, 2, 0}},
		{Arity: []int{0, 3, 1}},
		sampleSign(),
	}
	for _, s := range signs {
		for size := 1; size <= 5; size++ {
			for _, x := range treesOf(s, []int{0, 11}, size) {
				visit(s, x)
			}
		}
	}
	d := &dice{state: 1}
	for range 2000 {
		s := d.sign()
		visit(s, d.tree(s, 1+d.below(40)))
	}
}

// TestPromise1Replace: replacing a subterm by itself changes nothing.
func TestPromise1Replace(t *testing.T) {
	eachTerm(func(s impl.Sign, x *tree) {
		w := x.list()
		for at := range w {
			part, ok := impl.PartAt(s, w, at)
			if !ok {
				t.Fatalf("PartAt(%v, %v, %d) fails", s, w, at)
			}
			if got, ok := impl.ReplaceAt(s, w, at, part); !slices.Equal(got, w) || !ok {
				t.Fatalf("ReplaceAt(%v, %v, %d, %v): %v, %v", s, w, at, part, got, ok)
			}
		}
	})
}

// TestPromise1Text: parsing inverts formatting.
func TestPromise1Text(t *testing.T) {
	longest := 0
	eachTerm(func(s impl.Sign, x *tree) {
		w := x.list()
		text, ok := impl.TermText(s, w)
		if text != x.text() || !ok {
			t.Fatalf("TermText(%v, %v): %q, %v", s, w, text, ok)
		}
		longest = max(longest, len(text))
		if got, at, ok := impl.ReadTerm(s, text); !slices.Equal(got, w) || at != len(text) || !ok {
			t.Fatalf("ReadTerm(%v, %q): %v, %d, %v", s, text, got, at, ok)
		}
	})
	if longest < 60 {
		t.Error("no long text was tried, the longest has", longest)
	}
}

// TestTermTrees compares every function with trees.
func TestTermTrees(t *testing.T) {
	d := &dice{state: 2}
	eachTerm(func(s impl.Sign, x *tree) {
		w := x.list()
		if !impl.GoodTerm(s, w) {
			t.Fatalf("GoodTerm(%v, %v)", s, w)
		}
		nodes := x.nodes()
		at := d.below(len(nodes))
		checkPlace(t, s, x, nodes, at)
		if got, ok := impl.VarsOf(s, w); !slices.Equal(got, x.vars()) || !ok {
			t.Fatalf("VarsOf(%v, %v): %v, %v", s, w, got, ok)
		}
		if got, ok := impl.CountOf(s, w, w[at]); got != x.count(w[at]) || !ok {
			t.Fatalf("CountOf(%v, %v, %d): %v, %v", s, w, w[at], got, ok)
		}
		if got, ok := impl.DepthOf(s, w); got != x.depth() || !ok {
			t.Fatalf("DepthOf(%v, %v): %v, %v", s, w, got, ok)
		}
		by := d.below(13)
		want := x.shifted(by).list()
		if slices.Min(want) < -12 {
			want = nil
		}
		if got, ok := impl.ShiftVars(s, w, by); !slices.Equal(got, want) || ok != (want != nil) {
			t.Fatalf("ShiftVars(%v, %v, %d): %v, %v", s, w, by, got, ok)
		}
		by2 := d.tree(s, 1+d.below(40))
		want = x.replaced(nodes[at], by2).list()
		if len(want) > 40 {
			want = nil
		}
		if got, ok := impl.ReplaceAt(s, w, at, by2.list()); !slices.Equal(got, want) || ok != (want != nil) {
			t.Fatalf("ReplaceAt(%v, %v, %d, %v): %v, %v", s, w, at, by2.list(), got, ok)
		}
	})
}

func checkPlace(t *testing.T, s impl.Sign, x *tree, nodes []*tree, at int) {
	w := x.list()
	if got, ok := impl.EndOf(s, w, at); got != at+nodes[at].size() || !ok {
		t.Fatalf("EndOf(%v, %v, %d): %v, %v", s, w, at, got, ok)
	}
	if got, ok := impl.PartAt(s, w, at); !slices.Equal(got, nodes[at].list()) || !ok {
		t.Fatalf("PartAt(%v, %v, %d): %v, %v", s, w, at, got, ok)
	}
	var args []int
	next := at + 1
	for _, a := range nodes[at].args {
		args = append(args, next)
		next += a.size()
	}
	if got, ok := impl.ArgsAt(s, w, at); !slices.Equal(got, args) || !ok {
		t.Fatalf("ArgsAt(%v, %v, %d): %v, %v", s, w, at, got, ok)
	}
}

// TestAllLists compares GoodTerm with trees for every list of at most 5 integers around the limits.
func TestAllLists(t *testing.T) {
	s := impl.Sign{Arity: []int{0, 1, 2, 3}}
	numbers := []int{leastInt, -13, -12, -1, 0, 1, 2, 3, 4, greatestInt}
	lists := [][]int{nil}
	for len(lists) > 0 {
		l := lists[0]
		lists = lists[1:]
		want := treeOf(s, l) != nil
		if got := impl.GoodTerm(s, l); got != want {
			t.Fatalf("GoodTerm(%v): %v", l, got)
		}
		if _, ok := impl.TermText(s, l); ok != want {
			t.Fatalf("TermText(%v): %v", l, ok)
		}
		if len(l) < 5 {
			for _, n := range numbers {
				lists = append(lists, append(slices.Clone(l), n))
			}
		}
	}
}
