package tests

import (
	"slices"
	"testing"

	"loop.example/g00682/impl"
)

// above is the second implementation of the ordering: it compares terms argument by argument.
func above(x, y *tree) bool {
	for _, v := range y.vars() {
		if x.count(-1-v) < y.count(-1-v) {
			return false
		}
	}
	return x.size() > y.size() || x.size() == y.size() && x.wins(y)
}

func (x *tree) wins(y *tree) bool {
	if x.n != y.n {
		return x.n >= 0 && y.n >= 0 && x.n > y.n
	}
	for i, a := range x.args {
		if a.text() != y.args[i].text() {
			return a.wins(y.args[i])
		}
	}
	return false
}

// outcome is the number that the document has for the case.
func outcome(equal, greater, less bool) int {
	switch {
	case equal:
		return 0
	case greater:
		return 1
	case less:
		return -1
	}
	return 2
}

func ordered(x, y *tree) int {
	return outcome(x.text() == y.text(), above(x, y), above(y, x))
}

// orderedLists removes common elements by counting.
func orderedLists(a, b []*tree) int {
	balance := map[string]int{}
	all := map[string]*tree{}
	for _, x := range a {
		balance[x.text()]++
		all[x.text()] = x
	}
	for _, y := range b {
		balance[y.text()]--
		all[y.text()] = y
	}
	var left, right []*tree
	for text, n := range balance {
		if n > 0 {
			left = append(left, all[text])
		} else if n < 0 {
			right = append(right, all[text])
		}
	}
	beats := func(a, b []*tree) bool {
		for _, y := range b {
			if !slices.ContainsFunc(a, func(x *tree) bool { return above(x, y) }) {
				return false
			}
		}
		return len(a) > 0
	}
	return outcome(len(left)+len(right) == 0, beats(left, right), beats(right, left))
}

func converse(n int) int {
	if n == 2 {
		return 2
	}
	return -n
}

func compare(t *testing.T, s impl.Sign, a, b []int) int {
	t.Helper()
	n, ok := impl.CompareTerms(s, a, b)
	if !ok {
		t.Fatalf("CompareTerms(%v, %v, %v) fails", s, a, b)
	}
	return n
}

func smallTrees(s impl.Sign, vars []int, most int) []*tree {
	var all []*tree
	for size := 1; size <= most; size++ {
		all = append(all, treesOf(s, vars, size)...)
	}
	return all
}

func prefixLists(all []*tree) [][]int {
	var l [][]int
	for _, x := range all {
		l = append(l, x.list())
	}
	return l
}

// TestOrderSmall compares all pairs of small terms with trees, and checks that the ordering is strict and transitive.
func TestOrderSmall(t *testing.T) {
	s := sampleSign()
	all := smallTrees(s, []int{0, 1}, 4)
	lists := prefixLists(all)
	greater := make([][]bool, len(all))
	for i, x := range all {
		greater[i] = make([]bool, len(all))
		for j, y := range all {
			n := compare(t, s, lists[i], lists[j])
			if n != ordered(x, y) {
				t.Fatalf("CompareTerms(%s, %s): %d", x.text(), y.text(), n)
			}
			more, ok := impl.WeighsMore(s, lists[i], lists[j])
			if more != (above(x, y) && x.size() > y.size()) || !ok {
				t.Fatalf("WeighsMore(%s, %s): %v, %v", x.text(), y.text(), more, ok)
			}
			greater[i][j] = n == 1
		}
	}
	for i := range all {
		for j := range all {
			if !greater[i][j] {
				continue
			}
			for k := range all {
				if greater[j][k] && !greater[i][k] {
					t.Fatalf("not transitive: %s, %s, %s", all[i].text(), all[j].text(), all[k].text())
				}
			}
		}
	}
}

// TestOrderLarge compares larger terms with trees: unrelated ones, ones that differ in a few subterms, and ones of which
// one is a rearrangement of the other, so that their weights are equal.
func TestOrderLarge(t *testing.T) {
	seen := map[int]int{}
	heavier := 0
	d := &dice{state: 31}
	check := func(s impl.Sign, x, y *tree) {
		a, b := x.list(), y.list()
		n := compare(t, s, a, b)
		if n != ordered(x, y) || compare(t, s, b, a) != converse(n) {
			t.Fatalf("CompareTerms(%v, %s, %s): %d", s, x.text(), y.text(), n)
		}
		more, ok := impl.WeighsMore(s, a, b)
		if more != (n == 1 && x.size() > y.size()) || !ok {
			t.Fatalf("WeighsMore(%v, %s, %s): %v, %v", s, x.text(), y.text(), more, ok)
		}
		if more {
			heavier++
		}
		seen[n]++
	}
	pairsOf(32, func(s impl.Sign, x, y *tree) {
		check(s, x, y)
		check(s, x, d.exchanged(x))
	})
	if seen[0] < 1000 || seen[1] < 1000 || seen[-1] < 1000 || seen[2] < 1000 || heavier < 1000 {
		t.Error("too few cases of a kind", seen, heavier)
	}
}

// exchanged exchanges two arguments of one subterm.
func (d *dice) exchanged(x *tree) *tree {
	nodes := x.nodes()
	part := nodes[d.below(len(nodes))]
	if len(part.args) < 2 {
		return x
	}
	args := slices.Clone(part.args)
	args[0], args[1] = args[1], args[0]
	return x.replaced(part, &tree{part.n, args})
}

// TestPromise3Substitution: what is greater remains greater under every substitution, and what weighs more still does.
func TestPromise3Substitution(t *testing.T) {
	s := impl.Sign{Arity: []int{0, 0, 1, 2}}
	all := prefixLists(smallTrees(s, []int{0, 1}, 3))
	values := prefixLists(smallTrees(s, []int{0, 2}, 3))
	for _, a := range all {
		for _, b := range all {
			if compare(t, s, a, b) != 1 {
				continue
			}
			for _, u := range values {
				for _, v := range values {
					checkInstances(t, s, a, b, append([][]int{u, v}, make([][]int, 10)...))
				}
			}
		}
	}
}

// checkInstances reports whether both instances are terms.
func checkInstances(t *testing.T, s impl.Sign, a, b []int, by [][]int) bool {
	t.Helper()
	c, ok := impl.Apply(s, by, a)
	e, ok2 := impl.Apply(s, by, b)
	if !ok || !ok2 {
		return false
	}
	if n := compare(t, s, c, e); n != 1 {
		t.Fatalf("%v is greater than %v, but under %v the result is %d", a, b, by, n)
	}
	if n := compare(t, s, e, c); n != -1 {
		t.Fatalf("%v is greater than %v, but under %v the converse result is %d", a, b, by, n)
	}
	before, _ := impl.WeighsMore(s, a, b)
	after, _ := impl.WeighsMore(s, c, e)
	if before && !after {
		t.Fatalf("%v weighs more than %v, but not under %v", a, b, by)
	}
	return true
}

// greaterOf visits pairs of larger terms of which the first one is greater.
func greaterOf(t *testing.T, seed uint64, visit func(s impl.Sign, a, b []int)) {
	d := &dice{state: seed + 1000}
	try := func(s impl.Sign, x, y *tree) {
		a, b := x.list(), y.list()
		switch compare(t, s, a, b) {
		case 1:
			visit(s, a, b)
		case -1:
			visit(s, b, a)
		}
	}
	pairsOf(seed, func(s impl.Sign, x, y *tree) {
		try(s, x, y)
		try(s, x, d.exchanged(x))
	})
}

func TestPromise3SubstitutionLarge(t *testing.T) {
	applied := 0
	d := &dice{state: 33}
	greaterOf(t, 34, func(s impl.Sign, a, b []int) {
		by := make([][]int, 12)
		for v := range by {
			if d.below(3) > 0 {
				by[v] = d.tree(s, 1+d.below(5)).list()
			}
		}
		if checkInstances(t, s, a, b, by) {
			applied++
		}
	})
	if applied < 3000 {
		t.Error("too few substitutions could be applied", applied)
	}
}

// TestPromise3Context: a term becomes greater if one of its subterms is replaced by a greater one.
func TestPromise3Context(t *testing.T) {
	s := impl.Sign{Arity: []int{0, 0, 1, 2}}
	all := prefixLists(smallTrees(s, []int{0, 1}, 3))
	for _, a := range all {
		for _, b := range all {
			if compare(t, s, a, b) != 1 {
				continue
			}
			for _, w := range all {
				for at := range w {
					checkContext(t, s, a, b, w, at)
				}
			}
		}
	}
}

// checkContext reports whether both results are terms.
func checkContext(t *testing.T, s impl.Sign, a, b, w []int, at int) bool {
	t.Helper()
	c, ok := impl.ReplaceAt(s, w, at, a)
	e, ok2 := impl.ReplaceAt(s, w, at, b)
	if !ok || !ok2 {
		return false
	}
	if n := compare(t, s, c, e); n != 1 {
		t.Fatalf("%v is greater than %v, but at %d of %v the result is %d", a, b, at, w, n)
	}
	if n := compare(t, s, e, c); n != -1 {
		t.Fatalf("%v is greater than %v, but at %d of %v the converse result is %d", a, b, at, w, n)
	}
	return true
}

func TestPromise3ContextLarge(t *testing.T) {
	replaced := 0
	d := &dice{state: 35}
	greaterOf(t, 36, func(s impl.Sign, a, b []int) {
		w := d.large(s).list()
		if checkContext(t, s, a, b, w, d.below(len(w))) {
			replaced++
		}
	})
	if replaced < 3000 {
		t.Error("too few subterms could be replaced", replaced)
	}
}

// TestPromise3Subterm: a term is greater than each of its proper subterms, and weighs more.
func TestPromise3Subterm(t *testing.T) {
	eachTerm(func(s impl.Sign, x *tree) {
		w := x.list()
		for at := range w {
			part, _ := impl.PartAt(s, w, at)
			want := 1
			if at == 0 {
				want = 0
			}
			if n := compare(t, s, w, part); n != want {
				t.Fatalf("CompareTerms(%v, %s) with the subterm at %d: %d", s, x.text(), at, n)
			}
			if more, ok := impl.WeighsMore(s, w, part); more != (at > 0) || !ok {
				t.Fatalf("WeighsMore(%v, %s) with the subterm at %d: %v, %v", s, x.text(), at, more, ok)
			}
		}
	})
}

// TestPromise3Ground: of two different terms without variables one is greater, and none is less than the least.
func TestPromise3Ground(t *testing.T) {
	for _, s := range []impl.Sign{{Arity: []int{0, 1, 2}}, {Arity: []int{0, 2, 0, 1}}, {Arity: []int{0, 3, 0}}} {
		all := prefixLists(smallTrees(s, nil, 6))
		least, _ := impl.LeastGround(s)
		for i, a := range all {
			for j, b := range all {
				checkTotal(t, s, a, b, i == j)
			}
			if n := compare(t, s, least, a); n != -1 && i > 0 {
				t.Fatalf("the least term and %v: %d", a, n)
			}
		}
	}
}

func checkTotal(t *testing.T, s impl.Sign, a, b []int, equal bool) {
	t.Helper()
	n := compare(t, s, a, b)
	if equal != (n == 0) || n != 0 && n != 1 && n != -1 || compare(t, s, b, a) != -n {
		t.Fatalf("CompareTerms(%v, %v, %v): %d", s, a, b, n)
	}
}

// TestPromise3GroundLarge puts symbols of arity 0 for the variables of larger terms.
func TestPromise3GroundLarge(t *testing.T) {
	d := &dice{state: 37}
	equalWeights := 0
	pairsOf(38, func(s impl.Sign, x, y *tree) {
		values := make([][]*tree, 12)
		for v := range values {
			n := d.below(len(s.Arity))
			if s.Arity[n] > 0 {
				n = 0
			}
			values[v] = []*tree{leaf(n)}
		}
		x, y = put(values, x), put(values, y)
		for _, z := range []*tree{y, d.exchanged(x)} {
			checkTotal(t, s, x.list(), z.list(), x.text() == z.text())
			if x.size() == z.size() && x.text() != z.text() {
				equalWeights++
			}
		}
		least, ok := impl.LeastGround(s)
		if n := compare(t, s, x.list(), least); !ok || n != 1 && (n != 0 || x.size() > 1) {
			t.Fatalf("%v: %s and the least term: %d", s, x.text(), n)
		}
	})
	if equalWeights < 500 {
		t.Error("too few pairs of equal weight", equalWeights)
	}
}

// checkLists compares CompareLists with trees, in both directions, and reports its result.
func checkLists(t *testing.T, s impl.Sign, a, b []*tree) int {
	t.Helper()
	n, ok := impl.CompareLists(s, prefixLists(a), prefixLists(b))
	if n != orderedLists(a, b) || !ok {
		t.Fatalf("CompareLists(%v, %v, %v): %d, %v", s, prefixLists(a), prefixLists(b), n, ok)
	}
	m, ok := impl.CompareLists(s, prefixLists(b), prefixLists(a))
	if m != converse(n) || !ok {
		t.Fatalf("CompareLists(%v, %v, %v): %d, and conversely %d", s, prefixLists(a), prefixLists(b), n, m)
	}
	return n
}

// rowsUpTo are all lists of at most that many of the elements.
func rowsUpTo(all []*tree, most int) [][]*tree {
	rows := [][]*tree{nil}
	if most == 0 {
		return rows
	}
	for _, row := range rowsUpTo(all, most-1) {
		for _, x := range all {
			rows = append(rows, append(slices.Clone(row), x))
		}
	}
	return rows
}

// TestListsSmall compares all pairs of small lists of a few terms, some of which are incomparable.
func TestListsSmall(t *testing.T) {
	s := sampleSign()
	var all []*tree
	for _, l := range terms("A", "b", "c", "d(A)", "f(A,B)") {
		all = append(all, treeOf(s, l))
	}
	rows := rowsUpTo(all, 3)
	for i, a := range rows {
		for _, b := range rows[i:] {
			checkLists(t, s, a, b)
		}
	}
}

// TestListsLarge: the result does not depend on the order of a list, and a common element more or less changes nothing.
func TestListsLarge(t *testing.T) {
	seen := map[int]int{}
	d := &dice{state: 39}
	for range 5000 {
		s := d.sign()
		pool := []*tree{d.large(s), d.tree(s, 6), leaf(-1), leaf(0)}
		pool = append(pool, d.changed(s, pool[0]), d.exchanged(pool[0]))
		pick := func(most int) []*tree {
			var l []*tree
			for range d.below(most + 1) {
				l = append(l, pool[d.below(len(pool))])
			}
			return l
		}
		a, b := pick(8), pick(8)
		n := checkLists(t, s, a, b)
		seen[n]++
		if m := checkLists(t, s, d.shuffled(a), d.shuffled(b)); m != n {
			t.Fatalf("CompareLists(%v, %v, %v): %d, in another order %d", s, prefixLists(a), prefixLists(b), n, m)
		}
		if len(a) == 8 || len(b) == 8 {
			continue
		}
		x := pool[d.below(len(pool))]
		if m := checkLists(t, s, append(a, x), append([]*tree{x}, b...)); m != n {
			t.Fatalf("CompareLists(%v, %v, %v): %d, with %s %d", s, prefixLists(a), prefixLists(b), n, x.text(), m)
		}
	}
	if seen[0] < 50 || seen[1] < 500 || seen[-1] < 500 || seen[2] < 500 {
		t.Error("too few cases of a kind", seen)
	}
}

func (d *dice) shuffled(l []*tree) []*tree {
	l = slices.Clone(l)
	for i := range l {
		j := d.below(i + 1)
		l[i], l[j] = l[j], l[i]
	}
	return l
}

// TestFallingLarge: a list falls exactly if each element is greater than the next one.
func TestFallingLarge(t *testing.T) {
	falling, not := 0, 0
	check := func(s impl.Sign, l []*tree) {
		want := true
		for i := 1; i < len(l); i++ {
			want = want && ordered(l[i-1], l[i]) == 1
		}
		if got, ok := impl.IsFalling(s, prefixLists(l)); got != want || !ok {
			t.Fatalf("IsFalling(%v, %v): %v, %v", s, prefixLists(l), got, ok)
		}
		if want && len(l) > 2 {
			falling++
		} else if !want {
			not++
		}
	}
	d := &dice{state: 40}
	for range 3000 {
		s := d.sign()
		// The way down from a term to a leaf falls; one exchange on it makes most lists not fall.
		x := d.large(s)
		l := []*tree{x}
		for len(x.args) > 0 && len(l) < 8 {
			x = x.args[d.below(len(x.args))]
			l = append(l, x)
		}
		check(s, l)
		check(s, d.shuffled(l))
		i := d.below(len(l))
		l[i] = d.changed(s, l[i])
		check(s, l)
	}
	if falling < 1000 || not < 1000 {
		t.Error("too few cases of a kind", falling, not)
	}
}
