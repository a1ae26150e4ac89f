package tests

import (
	"slices"
	"testing"

	"loop.example/g00682/impl"
)

func calls3() []call2 {
	return []call2{
		{"CompareTerms", func(x args2) (r results2) { r.n, r.ok = impl.CompareTerms(x.s, x.t, x.u); return }},
		{"CompareLists", func(x args2) (r results2) { r.n, r.ok = impl.CompareLists(x.s, x.a, x.b); return }},
		{"IsFalling", func(x args2) (r results2) { r.is, r.ok = impl.IsFalling(x.s, x.a); return }},
		{"LeastGround", func(x args2) results2 { return oneList(impl.LeastGround(x.s)) }},
		{"WeighsMore", func(x args2) (r results2) { r.is, r.ok = impl.WeighsMore(x.s, x.t, x.u); return }},
	}
}

// goodRow holds the trees of a list of at most 8 terms.
func goodRow(s impl.Sign, l [][]int) ([]*tree, bool) {
	if len(l) > 8 || !goodSign(s) {
		return nil, false
	}
	var row []*tree
	for _, t := range l {
		x := goodTree(s, t)
		if x == nil {
			return nil, false
		}
		row = append(row, x)
	}
	return row, true
}

// wanted3 is the expected result, computed from trees.
func wanted3(name string, x args2) results2 {
	a, goodA := goodRow(x.s, x.a)
	b, goodB := goodRow(x.s, x.b)
	t, u := goodTree(x.s, x.t), goodTree(x.s, x.u)
	switch {
	case name == "LeastGround" && goodSign(x.s):
		return results2{lists: [][]int{{0}}, ok: true}
	case name == "CompareTerms" && t != nil && u != nil:
		return results2{n: ordered(t, u), ok: true}
	case name == "WeighsMore" && t != nil && u != nil:
		return results2{is: above(t, u) && t.size() > u.size(), ok: true}
	case name == "CompareLists" && goodA && goodB:
		return results2{n: orderedLists(a, b), ok: true}
	case name == "IsFalling" && goodA:
		falls := true
		for i := 1; i < len(a); i++ {
			falls = falls && above(a[i-1], a[i])
		}
		return results2{is: falls, ok: true}
	}
	return results2{}
}

// eachArgs3 visits combinations of ordinary, invalid and very large arguments.
func eachArgs3(visit func(x args2)) {
	signs := [][]int{
		nil, {0}, {1}, {0, 0, 0, 1, 1, 2}, {0, 0, 0, 1, 1, 2, 4}, {0, 0, 0, 1, 1, -2}, {0, 2, 3, 1, 1, 2}, {0, greatestInt}, {leastInt},
		make([]int, 10), make([]int, 11),
	}
	many := [][]int{
		nil, {0}, {1}, {2}, {-1}, {-2}, {-12}, {-13}, {3, -1}, {4, -1}, {3, 2}, {5, -1, -1}, {5, -1, 1}, {5, -2, 3, -1}, {3}, {0, 0}, {10},
		{leastInt}, {greatestInt}, {5, greatestInt, 0}, {3, leastInt}, chain(39, -1), chain(38, -1), chain(40, -1), chain(300, 0),
	}
	rows := [][][]int{nil, terms("c", "b"), terms("b", "b", "b"), terms("d(A)", "A"), terms("d(b)", "c", "b"), terms("f(A,B)", "d(C)"), terms("a")}
	rows = append(rows, slices.Repeat(terms("d(A)", "b"), 4), slices.Repeat(terms("a"), 8), append(terms("A", "B"), chain(39, -1)))
	rows = append(rows, badLists()...)
	for i, arity := range signs {
		s := impl.Sign{Arity: arity}
		for j, t := range many {
			for k, u := range many {
				visit(args2{s, rows[(i+j+k)%len(rows)], rows[k%len(rows)], t, u})
			}
		}
		for j, a := range rows {
			for k, b := range rows {
				visit(args2{s, a, b, many[(j+k)%len(many)], many[k%len(many)]})
			}
		}
	}
}

func TestPromise19AllArguments3(t *testing.T) {
	checkAll2(t, calls3(), eachArgs3, wanted3)
}

func TestPromise19Memory3(t *testing.T) {
	eachArgs3(func(x args2) {
		for _, c := range calls3() {
			checkMemory2(t, c, x)
		}
	})
}

// TestPromise19Self3: one list may be several arguments, and one term may stand several times in a list.
func TestPromise19Self3(t *testing.T) {
	s := sampleSign()
	w := term("f(A,d(B))")
	l := [][]int{w, w, term("c"), w}
	for range 2 {
		if n, ok := impl.CompareTerms(s, w, w); n != 0 || !ok {
			t.Error("CompareTerms", n, ok)
		}
		if is, ok := impl.WeighsMore(s, w, w); is || !ok {
			t.Error("WeighsMore", is, ok)
		}
		if n, ok := impl.CompareLists(s, l, l); n != 0 || !ok {
			t.Error("CompareLists", n, ok)
		}
		if n, ok := impl.CompareLists(s, l, l[1:]); n != 1 || !ok {
			t.Error("CompareLists", n, ok)
		}
		if n, ok := impl.CompareLists(s, l[:2], l[1:]); n != -1 || !ok {
			t.Error("CompareLists", n, ok)
		}
		if is, ok := impl.IsFalling(s, l); is || !ok {
			t.Error("IsFalling", is, ok)
		}
	}
	if !slices.Equal(w, term("f(A,d(B))")) || !sameLists(l, [][]int{w, w, term("c"), w}) {
		t.Error("an argument is modified", l)
	}
}

// TestPromise19Own: a result of LeastGround may be overwritten without an effect on later results.
func TestPromise19Own(t *testing.T) {
	s := sampleSign()
	for range 2 {
		got, ok := impl.LeastGround(s)
		if !slices.Equal(got, []int{0}) || !ok {
			t.Fatal("LeastGround", got, ok)
		}
		fill(got[:cap(got)])
	}
}

func TestPromise19Huge3(t *testing.T) {
	checkHuge2(t, calls3(), args2{s: sampleSign(), a: terms("d(b)", "c"), b: terms("c", "b"), t: term("f(A,b)"), u: term("d(A)")}, wanted3)
}
