package tests

import (
	"slices"
	"testing"

	"loop.example/g00682/impl"
)

// args2 are the arguments of a call of chapter 2 or 3; each function takes those that it needs.
type args2 struct {
	s    impl.Sign
	a, b [][]int
	t, u []int
}

// results2 are the results of such a call: lists, a number, or whether something is so, and whether it succeeded.
type results2 struct {
	lists  [][]int
	n      int
	is, ok bool
}

func (r results2) equal(q results2) bool {
	return sameLists(r.lists, q.lists) && r.n == q.n && r.is == q.is && r.ok == q.ok
}

// oneList keeps an empty list apart from a list of one empty list.
func oneList(l []int, ok bool) results2 {
	if len(l) == 0 {
		return results2{ok: ok}
	}
	return results2{lists: [][]int{l}, ok: ok}
}

type call2 struct {
	name string
	run  func(x args2) results2
}

func calls2() []call2 {
	return []call2{
		{"GoodSubst", func(x args2) results2 { return results2{ok: impl.GoodSubst(x.s, x.a)} }},
		{"Apply", func(x args2) results2 { return oneList(impl.Apply(x.s, x.a, x.t)) }},
		{"Compose", func(x args2) (r results2) { r.lists, r.ok = impl.Compose(x.s, x.a, x.b); return }},
		{"Match", func(x args2) (r results2) { r.lists, r.ok = impl.Match(x.s, x.t, x.u); return }},
		{"Unify", func(x args2) (r results2) { r.lists, r.ok = impl.Unify(x.s, x.t, x.u); return }},
		{"RenameOf", func(x args2) (r results2) { r.lists, r.ok = impl.RenameOf(x.s, x.a); return }},
		{"SameUpTo", func(x args2) (r results2) { r.is, r.ok = impl.SameUpTo(x.s, x.t, x.u); return }},
		{"IsUnifier", func(x args2) (r results2) { r.is, r.ok = impl.IsUnifier(x.s, x.a, x.t, x.u); return }},
	}
}

// goodTree is nil unless the list is a valid term, and everything is invalid for an invalid signature.
func goodTree(s impl.Sign, t []int) *tree {
	if !goodSign(s) || len(t) > 40 {
		return nil
	}
	return treeOf(s, t)
}

// goodTrees holds a list with one tree for each variable that is replaced.
func goodTrees(s impl.Sign, b [][]int) ([][]*tree, bool) {
	if len(b) != 12 || !goodSign(s) {
		return nil, false
	}
	l := make([][]*tree, 12)
	for v, t := range b {
		if len(t) == 0 {
			continue
		}
		x := goodTree(s, t)
		if x == nil {
			return nil, false
		}
		l[v] = []*tree{x}
	}
	return l, true
}

func wantedRename(s impl.Sign, l [][]int) results2 {
	if len(l) > 20 || !goodSign(s) {
		return results2{}
	}
	names := map[int]int{}
	var out [][]int
	for _, t := range l {
		if goodTree(s, t) == nil {
			return results2{}
		}
		u := slices.Clone(t)
		for i, n := range t {
			if _, seen := names[n]; n < 0 && !seen {
				names[n] = -1 - len(names)
			}
			if n < 0 {
				u[i] = names[n]
			}
		}
		out = append(out, u)
	}
	return results2{lists: out, ok: true}
}

// wanted2 is the expected result, computed from trees.
func wanted2(name string, x args2) results2 {
	p, goodA := goodTrees(x.s, x.a)
	q, goodB := goodTrees(x.s, x.b)
	t, u := goodTree(x.s, x.t), goodTree(x.s, x.u)
	none := results2{}
	switch name {
	case "GoodSubst":
		return results2{ok: goodA}
	case "RenameOf":
		return wantedRename(x.s, x.a)
	case "Compose":
		if !goodA || !goodB {
			return none
		}
		l := composed(p, q)
		return results2{lists: l, ok: l != nil}
	}
	if t == nil || u == nil && name != "Apply" {
		return none
	}
	switch name {
	case "Match":
		l := matched(t, u)
		return results2{lists: l, ok: l != nil}
	case "Unify":
		l := solved(t, u)
		return results2{lists: l, ok: l != nil}
	case "SameUpTo":
		return results2{is: matched(t, u) != nil && matched(u, t) != nil, ok: true}
	}
	if !goodA {
		return none
	}
	y := put(p, t)
	if name == "Apply" {
		if y.size() > 40 {
			return none
		}
		return results2{lists: [][]int{y.list()}, ok: true}
	}
	z := put(p, u)
	if y.size() > 40 || z.size() > 40 {
		return none
	}
	return results2{is: slices.Equal(y.list(), z.list()), ok: true}
}

// eachArgs2 visits combinations of ordinary, invalid and very large arguments.
func eachArgs2(visit func(x args2)) {
	signs := [][]int{nil, {0}, {1}, {0, 0, 0, 1, 1, 2}, {0, 0, 0, 1, 1, 2, 4}, {0, 0, 0, 1, 1, -2}, {0, greatestInt}, make([]int, 10), make([]int, 11)}
	terms := [][]int{
		nil, {0}, {1}, {-1}, {-3}, {-12}, {-13}, {5, -1, 3, -2}, {5, 3, -3, -1}, {5, -1, -1}, {5, -2, 3, -2}, {5, 3, -1, 1}, {3}, {0, 0}, {10},
		{leastInt}, {greatestInt}, {5, greatestInt, 0}, {3, leastInt}, chain(39, -1), chain(38, -2), chain(40, -1), chain(300, 0),
	}
	row := func(v int, t []int) [][]int {
		b := make([][]int, 12)
		b[v] = t
		return b
	}
	substs := [][][]int{
		nil, make([][]int, 12), make([][]int, 11), make([][]int, 13), subst("A=b B=d(A)"), subst("A=B B=A"), subst("A=A L=d(L)"), subst(everyVar), subst(everyVar)[:11],
		row(0, []int{-13}), row(0, []int{3}), row(11, []int{leastInt}), row(11, []int{greatestInt}), row(0, chain(39, -1)), row(0, chain(40, -1)), row(1, chain(20, -1)), row(11, chain(300, 0)),
		slices.Repeat([][]int{{5, -12, -3}}, 20), slices.Repeat([][]int{{5, -12, -3}}, 21), slices.Repeat([][]int{{0}}, 500), {{-5}, {5, -4, -5}, {0}},
	}
	for _, arity := range signs {
		s := impl.Sign{Arity: arity}
		for i, t := range terms {
			for j, u := range terms {
				visit(args2{s, substs[(i+j)%len(substs)], substs[j%len(substs)], t, u})
			}
		}
		for i, a := range substs {
			for j, b := range substs {
				visit(args2{s, a, b, terms[i%len(terms)], terms[(i+j)%len(terms)]})
			}
			for j, t := range terms {
				visit(args2{s, a, a, t, terms[(j+1)%len(terms)]})
			}
		}
	}
}

func TestPromise19AllArguments2(t *testing.T) {
	checkAll2(t, calls2(), eachArgs2, wanted2)
}

// checkAll2 compares all calls with all arguments, of which enough must be valid for each call.
func checkAll2(t *testing.T, calls []call2, each func(visit func(x args2)), wanted func(name string, x args2) results2) {
	t.Helper()
	succeeded := map[string]int{}
	each(func(x args2) {
		for _, c := range calls {
			got := c.run(x)
			if want := wanted(c.name, x); !got.equal(want) {
				t.Fatalf("%s: %v instead of %v for %v", c.name, got, want, x)
			}
			if got.ok {
				succeeded[c.name]++
			}
		}
	})
	for _, c := range calls {
		if succeeded[c.name] < 100 {
			t.Errorf("%s succeeds only %d times", c.name, succeeded[c.name])
		}
	}
}

// guardedLists puts each of the lists, and the list of them, into a guard. What stands behind the list of lists would
// make a substitution of the wrong length right.
func guardedLists(l [][]int, guards []*guard) ([][]int, []*guard) {
	var all [][]int
	for _, t := range l {
		g := guarded(t)
		guards = append(guards, g)
		all = append(all, g.list)
	}
	many := len(all)
	all = append(all, nil, []int{0}, nil)
	return all[:many], guards
}

func guardedArgs2(x args2) (args2, []*guard) {
	arity, t, u := guarded(x.s.Arity), guarded(x.t), guarded(x.u)
	guards := []*guard{arity, t, u}
	a, guards := guardedLists(x.a, guards)
	b, guards := guardedLists(x.b, guards)
	return args2{impl.Sign{Arity: arity.list}, a, b, t.list, u.list}, guards
}

func TestPromise19Memory2(t *testing.T) {
	calls := calls2()
	i := 0
	eachArgs2(func(x args2) {
		// Two calls for each combination, so that each function gets many of them in little time.
		for range 2 {
			checkMemory2(t, calls[i%len(calls)], x)
			i += 3
		}
	})
}

// checkMemory2 calls a function with guarded arguments. It reports an argument that is modified, a result that depends on
// what stands behind an argument or on an earlier call, and a result that shares memory with an argument or with itself.
func checkMemory2(t *testing.T, c call2, x args2) {
	y, guards := guardedArgs2(x)
	heads := slices.Clone(y.a[:cap(y.a)])
	heads2 := slices.Clone(y.b[:cap(y.b)])
	plain, got := c.run(x), c.run(y)
	if !got.equal(plain) {
		t.Fatalf("%s of %v: %v, then %v", c.name, x, plain, got)
	}
	if !got.ok && !got.equal(results2{}) {
		t.Fatalf("%s of %v fails with %v", c.name, x, got)
	}
	if !sameLists(y.a[:cap(y.a)], heads) || !sameLists(y.b[:cap(y.b)], heads2) {
		t.Fatalf("%s of %v modifies a list of lists", c.name, x)
	}
	reportChanged(t, c.name, guards)
	checkOwn(t, c.name, got.lists)
	reportChanged(t, c.name+", result overwritten", guards)
	again := c.run(y)
	if !again.equal(plain) {
		t.Fatalf("%s of %v: %v, then %v", c.name, x, plain, again)
	}
	for _, g := range guards {
		fill(g.array)
	}
	clear(y.a)
	clear(y.b)
	if !again.equal(plain) {
		t.Fatalf("%s of %v shares memory", c.name, x)
	}
}

// checkOwn overwrites each list of a result, up to its capacity, and reports another list of the result that changes.
func checkOwn(t *testing.T, name string, lists [][]int) {
	for i, l := range lists {
		var was [][]int
		for _, m := range lists {
			was = append(was, slices.Clone(m))
		}
		fill(l[:cap(l)])
		for j, m := range lists {
			if j != i && !slices.Equal(m, was[j]) {
				t.Fatalf("%s: lists %d and %d of the result share memory", name, i, j)
			}
		}
	}
	clear(lists[:cap(lists)])
}

// TestPromise19Shared: terms of a result that are equal, or part of one another, share no memory either.
func TestPromise19Shared(t *testing.T) {
	s := wideSample()
	w := term("d(b)")
	calls := []struct {
		name string
		run  func() ([][]int, bool)
	}{
		{"Unify", func() ([][]int, bool) { return impl.Unify(s, term("f(A,f(A,B))"), term("f(C,f(d(b),A))")) }},
		{"Unify", func() ([][]int, bool) { return impl.Unify(s, term("g(A,B,C)"), term("g(B,C,d(D))")) }},
		{"Match", func() ([][]int, bool) { return impl.Match(s, term("g(A,B,C)"), term("g(d(b),d(b),d(b))")) }},
		{"Compose", func() ([][]int, bool) { return impl.Compose(s, subst("A=D B=D"), subst("C=d(b) D=d(b)")) }},
		{"Compose", func() ([][]int, bool) {
			return impl.Compose(s, [][]int{w, w, w, w, w, w, w, w, w, w, w, w}, subst(""))
		}},
		{"RenameOf", func() ([][]int, bool) { return impl.RenameOf(s, [][]int{w, w, w}) }},
	}
	for _, c := range calls {
		first, ok := c.run()
		second, ok2 := c.run()
		if !ok || !ok2 || !sameLists(first, second) {
			t.Fatal(c.name, first, second)
		}
		checkOwn(t, c.name, first)
		if third, _ := c.run(); !sameLists(second, third) {
			t.Error(c.name, second, third)
		}
	}
	if !slices.Equal(w, term("d(b)")) {
		t.Error("an argument is modified", w)
	}
}

// TestPromise19Self2: one list may be several arguments.
func TestPromise19Self2(t *testing.T) {
	s := sampleSign()
	w, b := term("f(A,d(B))"), subst("A=B B=d(A)")
	for range 2 {
		if got, ok := impl.Unify(s, w, w); !sameLists(got, subst("")) || !ok {
			t.Error("Unify", got, ok)
		}
		if got, ok := impl.Match(s, w, w); !sameLists(got, subst("")) || !ok {
			t.Error("Match", got, ok)
		}
		if got, ok := impl.Compose(s, b, b); !sameLists(got, subst("A=d(A) B=d(B)")) || !ok {
			t.Error("Compose", got, ok)
		}
		if is, ok := impl.IsUnifier(s, b, w, w); !is || !ok {
			t.Error("IsUnifier", is, ok)
		}
		if is, ok := impl.SameUpTo(s, w, w); !is || !ok {
			t.Error("SameUpTo", is, ok)
		}
	}
	if !slices.Equal(w, term("f(A,d(B))")) || !sameLists(b, subst("A=B B=d(A)")) {
		t.Error("an argument is modified", w, b)
	}
}

// TestPromise19Huge2: arguments far above the limits.
func TestPromise19Huge2(t *testing.T) {
	checkHuge2(t, calls2(), args2{s: sampleSign(), a: subst("A=b"), b: subst("B=c"), t: term("f(A,b)"), u: term("f(B,b)")}, wanted2)
}

// checkHuge2 replaces each of the good arguments in turn.
func checkHuge2(t *testing.T, calls []call2, good args2, wanted func(name string, x args2) results2) {
	t.Helper()
	huge := make([]int, 1<<20)
	lists := make([][]int, 1<<20)
	full := slices.Repeat([][]int{huge}, len(good.a))
	for _, c := range calls {
		for i := range 7 {
			x := good
			switch i {
			case 0:
				x.s.Arity = huge
			case 1:
				x.a = lists
			case 2:
				x.b = lists
			case 3:
				x.a = full
			case 4:
				x.b = full
			case 5:
				x.t = huge
			case 6:
				x.u = huge
			}
			if got, want := c.run(x), wanted(c.name, x); !got.equal(want) {
				t.Errorf("%s with huge argument %d: %v instead of %v", c.name, i, got, want)
			}
		}
	}
}
