package tests

import (
	"slices"
	"testing"

	"loop.example/g00682/impl"
)

func TestUnify(t *testing.T) {
	one := func(t []int) [][]int { return append([][]int{t}, subst("")[1:]...) }
	tests := []struct {
		a, b []int
		want [][]int
	}{
		{term("f(A,d(B))"), term("f(d(C),A)"), subst("A=d(B) C=B")},
		{term("a"), term("a"), subst("")},
		{term("f(A,B)"), term("f(A,B)"), subst("")},
		{term("A"), term("b"), subst("A=b")},
		{term("b"), term("A"), subst("A=b")},
		{term("L"), term("d(K)"), subst("L=d(K)")},
		{term("d(K)"), term("L"), subst("L=d(K)")},
		// Of two variables, the one with the greater number is replaced, on whichever side it is.
		{term("A"), term("C"), subst("C=A")},
		{term("C"), term("A"), subst("C=A")},
		{term("K"), term("L"), subst("L=K")},
		{term("f(A,B)"), term("f(B,A)"), subst("B=A")},
		{term("f(C,B)"), term("f(B,A)"), subst("C=A B=A")},
		{term("f(A,f(B,C))"), term("f(B,f(C,D))"), subst("B=A C=A D=A")},
		{term("f(D,f(C,B))"), term("f(C,f(B,A))"), subst("B=A C=A D=A")},
		// There is no unifier.
		{term("a"), term("b"), nil},
		{term("d(A)"), term("e(A)"), nil},
		{term("d(A)"), term("b"), nil},
		{term("f(A,b)"), term("f(c,c)"), nil},
		{term("f(A,A)"), term("f(b,c)"), nil},
		{term("f(b,c)"), term("f(A,A)"), nil},
		{term("f(A,f(B,A))"), term("f(b,f(c,B))"), nil},
		// Occurs checks, directly and by way of other variables.
		{term("A"), term("d(A)"), nil},
		{term("d(A)"), term("A"), nil},
		{term("f(A,B)"), term("f(B,d(A))"), nil},
		{term("f(A,B)"), term("f(d(B),d(A))"), nil},
		{term("f(A,A)"), term("f(B,d(B))"), nil},
		{term("f(A,f(B,C))"), term("f(d(B),f(d(C),d(A)))"), nil},
		{term("f(L,a)"), term("f(f(a,L),a)"), nil},
		// The current substitution counts on both sides.
		{term("f(A,A)"), term("f(d(B),d(c))"), subst("A=d(c) B=c")},
		{term("f(d(B),d(c))"), term("f(A,A)"), subst("A=d(c) B=c")},
		{term("f(A,d(A))"), term("f(b,B)"), subst("A=b B=d(b)")},
		{term("f(A,B)"), term("f(d(B),b)"), subst("A=d(b) B=b")},
		{term("f(A,f(A,B))"), term("f(B,f(c,A))"), subst("A=c B=c")},
		{term("f(A,f(B,C))"), term("f(d(B),f(d(C),b))"), subst("A=d(d(b)) B=d(b) C=b")},
		{term("g(A,B,A)"), term("g(B,c,c)"), subst("A=c B=c")},
		{term("g(A,B,f(A,B))"), term("g(f(B,B),d(C),D)"), subst("A=f(d(C),d(C)) B=d(C) D=f(f(d(C),d(C)),d(C))")},
		// A term that becomes too long.
		{chain(39, -1), chain(39, -2), subst("B=A")},
		{chain(39, -1), chain(39, 1), subst("A=b")},
		{chain(38, -1), chain(39, -2), subst("A=d(B)")},
		{chain(39, -2), term("A"), one(chain(39, -2))},
		{chain(39, -1), term("A"), nil},
		{chain(38, 0), term("d(A)"), one(chain(37, 0))},
		// Invalid arguments.
		{chain(40, -1), chain(40, -1), nil},
		{term("A"), chain(40, -2), nil},
		{chain(40, -2), term("A"), nil},
		{nil, nil, nil},
		{term("A"), nil, nil},
		{nil, term("A"), nil},
		{[]int{-13}, []int{-13}, nil},
		{[]int{-13}, term("A"), nil},
		{term("A"), []int{-13}, nil},
		{[]int{5, -1}, []int{5, -1}, nil},
		{[]int{-1, -1}, []int{0, 0}, nil},
		{term("f(A,B)"), []int{5, 0}, nil},
		{[]int{7}, []int{7}, nil},
		{term("A"), []int{greatestInt}, nil},
		{[]int{leastInt}, term("A"), nil},
	}
	for _, c := range tests {
		got, ok := impl.Unify(wideSample(), c.a, c.b)
		if !sameLists(got, c.want) || ok != (c.want != nil) {
			t.Errorf("Unify(%v, %v): %v, %v", c.a, c.b, got, ok)
		}
	}
	if got, ok := impl.Unify(impl.Sign{}, term("A"), term("A")); got != nil || ok {
		t.Error("Unify without symbols", got, ok)
	}
}

// TestUnifyAtMaxTerm meets the limit exactly, and passes it by one, with a result that is longer than both arguments.
func TestUnifyAtMaxTerm(t *testing.T) {
	s := sampleSign()
	// f(A,d^18(A)) and f(d^n(a),B) become f(d^n(a),d^(18+n)(a)), of 21 + 2n integers.
	left := slices.Concat([]int{5, -1}, chain(18, -1))
	right := func(n int) []int { return slices.Concat([]int{5}, chain(n, 0), []int{-2}) }
	if got, ok := impl.Unify(s, left, right(9)); !ok || len(got[1]) != 28 {
		t.Error("39 integers", got, ok)
	}
	for _, pair := range [][2][]int{{left, right(10)}, {right(10), left}} {
		if got, ok := impl.Unify(s, pair[0], pair[1]); ok || got != nil {
			t.Error("41 integers", got, ok)
		}
	}
	left = slices.Concat([]int{5, -1}, chain(17, -1))
	if got, ok := impl.Unify(s, left, right(10)); !ok || len(got[1]) != 28 {
		t.Error("40 integers", got, ok)
	}
}

// binds is a substitution of the second representation: it is applied by following it.
type binds map[int]*tree

func (b binds) at(x *tree) *tree {
	for x.n < 0 && b[x.n] != nil {
		x = b[x.n]
	}
	return x
}

func (b binds) has(x *tree, n int) bool {
	x = b.at(x)
	return x.n == n || slices.ContainsFunc(x.args, func(a *tree) bool { return b.has(a, n) })
}

func (b binds) full(x *tree) *tree {
	x = b.at(x)
	y := leaf(x.n)
	for _, a := range x.args {
		y.args = append(y.args, b.full(a))
	}
	return y
}

// solve unifies two trees argument by argument.
func (b binds) solve(x, y *tree) bool {
	x, y = b.at(x), b.at(y)
	if x.n == y.n {
		for i := range x.args {
			if !b.solve(x.args[i], y.args[i]) {
				return false
			}
		}
		return true
	}
	if y.n < 0 && (x.n >= 0 || y.n < x.n) {
		x, y = y, x
	}
	if x.n >= 0 || b.has(y, x.n) {
		return false
	}
	b[x.n] = y
	return true
}

func (b binds) list() [][]int {
	l := make([][]int, 12)
	for n := range b {
		l[-1-n] = b.full(leaf(n)).list()
	}
	return l
}

func solved(x, y *tree) [][]int {
	b := binds{}
	if !b.solve(x, y) || b.full(x).size() > 40 {
		return nil
	}
	return b.list()
}

// put replaces all variables of a tree simultaneously.
func put(b [][]*tree, x *tree) *tree {
	if x.n < 0 && len(b[-1-x.n]) > 0 {
		return b[-1-x.n][0]
	}
	y := leaf(x.n)
	for _, a := range x.args {
		y.args = append(y.args, put(b, a))
	}
	return y
}

// matched is the second implementation of Match.
func matched(p, t *tree) [][]int {
	all := map[int]*tree{}
	var walk func(p, t *tree) bool
	walk = func(p, t *tree) bool {
		if p.n < 0 {
			old := all[p.n]
			all[p.n] = t
			return old == nil || slices.Equal(old.list(), t.list())
		}
		for i := range p.args {
			if p.n != t.n || !walk(p.args[i], t.args[i]) {
				return false
			}
		}
		return p.n == t.n
	}
	if !walk(p, t) {
		return nil
	}
	l := make([][]int, 12)
	for n, x := range all {
		if x.n != n {
			l[-1-n] = x.list()
		}
	}
	return l
}

// TestPromise2Small: for all pairs of small terms and all small substitutions, a unifier of the terms is an instance of
// what Unify returns, and Unify fails only if there is none.
func TestPromise2Small(t *testing.T) {
	s := impl.Sign{Arity: []int{0, 1, 2}}
	var all []*tree
	for size := 1; size <= 4; size++ {
		all = append(all, treesOf(s, []int{0, 1}, size)...)
	}
	var values [][]int
	for size := 1; size <= 3; size++ {
		for _, x := range treesOf(s, []int{0, 1}, size) {
			values = append(values, x.list())
		}
	}
	for i, x := range all {
		for _, y := range all[i:] {
			checkMost(t, s, x, y, values)
		}
	}
}

func checkMost(t *testing.T, s impl.Sign, x, y *tree, values [][]int) {
	t.Helper()
	most, ok := impl.Unify(s, x.list(), y.list())
	if ok != (solved(x, y) != nil) || ok && !sameLists(most, solved(x, y)) {
		t.Fatalf("Unify(%s, %s): %v, %v", x.text(), y.text(), most, ok)
	}
	trees := make([][]*tree, 12)
	for _, a := range values {
		for _, b := range values {
			trees[0], trees[1] = []*tree{treeOf(s, a)}, []*tree{treeOf(s, b)}
			if !slices.Equal(put(trees, x).list(), put(trees, y).list()) {
				continue
			}
			if !ok {
				t.Fatalf("Unify(%s, %s) fails, but %v and %v unify", x.text(), y.text(), a, b)
			}
			other := append([][]int{a, b}, make([][]int, 10)...)
			checkInstance(t, s, most, other)
		}
	}
}

// checkInstance: applying the most general unifier first does not change what another unifier does.
func checkInstance(t *testing.T, s impl.Sign, most, other [][]int) {
	t.Helper()
	for v := range 12 {
		first := most[v]
		if len(first) == 0 {
			first = []int{-1 - v}
		}
		got, ok := impl.Apply(s, other, first)
		want, ok2 := impl.Apply(s, other, []int{-1 - v})
		if !slices.Equal(got, want) || ok != ok2 {
			t.Fatalf("%v is no instance of %v", other, most)
		}
	}
}

// pairsOf visits pairs of larger terms: unrelated ones, and ones that have a common instance.
func pairsOf(seed uint64, visit func(s impl.Sign, x, y *tree)) {
	d := &dice{state: seed}
	for range 6000 {
		s := d.sign()
		x := d.large(s)
		visit(s, x, d.large(s))
		visit(s, x, d.changed(s, x))
		visit(s, d.changed(s, x), d.changed(s, x))
	}
}

// large is the largest of a few terms, because most terms of the dice are small.
func (d *dice) large(s impl.Sign) *tree {
	x := d.tree(s, 1+d.below(20))
	for range 4 {
		if y := d.tree(s, 1+d.below(20)); y.size() > x.size() {
			x = y
		}
	}
	return x
}

// changed replaces a few subterms, mostly by variables.
func (d *dice) changed(s impl.Sign, x *tree) *tree {
	for range 1 + d.below(4) {
		nodes := x.nodes()
		by := leaf(-1 - d.below(12))
		if d.below(4) == 0 {
			by = d.tree(s, 1+d.below(8))
		}
		y := x.replaced(nodes[d.below(len(nodes))], by)
		if y.size() <= 40 {
			x = y
		}
	}
	return x
}

// TestPromise2Large compares Unify with the second implementation, and checks that the result unifies.
func TestPromise2Large(t *testing.T) {
	unified, failed, long := 0, 0, 0
	pairsOf(3, func(s impl.Sign, x, y *tree) {
		a, b := x.list(), y.list()
		got, ok := impl.Unify(s, a, b)
		want := solved(x, y)
		if !sameLists(got, want) || ok != (want != nil) {
			t.Fatalf("Unify(%v, %s, %s): %v, %v", s, x.text(), y.text(), got, ok)
		}
		if !ok {
			failed++
			return
		}
		unified++
		if !impl.GoodSubst(s, got) {
			t.Fatalf("Unify(%v, %s, %s): %v is not valid", s, x.text(), y.text(), got)
		}
		if is, ok := impl.IsUnifier(s, got, a, b); !is || !ok {
			t.Fatalf("IsUnifier(%v, %v, %s, %s): %v, %v", s, got, x.text(), y.text(), is, ok)
		}
		c, _ := impl.Apply(s, got, a)
		if e, _ := impl.Apply(s, got, b); !slices.Equal(c, e) {
			t.Fatalf("%v does not unify %s and %s", got, x.text(), y.text())
		}
		if len(c) > max(len(a), len(b)) {
			long++
		}
		if twice, ok := impl.Compose(s, got, got); !sameLists(twice, got) || !ok {
			t.Fatalf("Unify(%v, %s, %s): %v is not idempotent", s, x.text(), y.text(), got)
		}
	})
	if unified < 2000 || failed < 2000 || long < 100 {
		t.Error("too few cases of a kind", unified, failed, long)
	}
}

// TestMatchLarge compares Match with the second implementation, and checks that the pattern becomes equal to the term.
func TestMatchLarge(t *testing.T) {
	found, failed := 0, 0
	check := func(s impl.Sign, x, y *tree) {
		got, ok := impl.Match(s, x.list(), y.list())
		want := matched(x, y)
		if !sameLists(got, want) || ok != (want != nil) {
			t.Fatalf("Match(%v, %s, %s): %v, %v", s, x.text(), y.text(), got, ok)
		}
		if !ok {
			failed++
			return
		}
		found++
		if c, ok := impl.Apply(s, got, x.list()); !slices.Equal(c, y.list()) || !ok {
			t.Fatalf("Match(%v, %s, %s): %v yields %v", s, x.text(), y.text(), got, c)
		}
		for v, u := range got {
			if len(u) > 0 && !slices.Contains(x.vars(), v) {
				t.Fatalf("Match(%v, %s, %s) replaces variable %d", s, x.text(), y.text(), v)
			}
		}
	}
	d := &dice{state: 5}
	pairsOf(4, func(s impl.Sign, x, y *tree) {
		check(s, x, y)
		check(s, y, x)
		if z := put(d.values(s), x); z.size() <= 40 {
			check(s, x, z)
		}
	})
	if found < 10000 || failed < 10000 {
		t.Error("too few cases of a kind", found, failed)
	}
}

// values is a substitution of trees, with small terms.
func (d *dice) values(s impl.Sign) [][]*tree {
	b := make([][]*tree, 12)
	for v := range b {
		if d.below(3) > 0 {
			b[v] = []*tree{d.large(s)}
		}
	}
	return b
}

func listsOf(b [][]*tree) [][]int {
	l := make([][]int, len(b))
	for v, x := range b {
		if len(x) > 0 {
			l[v] = x[0].list()
		}
	}
	return l
}

// TestApplyLarge compares Apply, Compose and IsUnifier with trees.
func TestApplyLarge(t *testing.T) {
	short, long := 0, 0
	d := &dice{state: 6}
	pairsOf(7, func(s impl.Sign, x, y *tree) {
		p, q := d.values(s), d.values(s)
		a, b := listsOf(p), listsOf(q)
		c, e := put(p, x), put(p, y)
		got, ok := impl.Apply(s, a, x.list())
		if ok != (c.size() <= 40) || ok && !slices.Equal(got, c.list()) {
			t.Fatalf("Apply(%v, %v, %s): %v, %v", s, a, x.text(), got, ok)
		}
		fits := c.size() <= 40 && e.size() <= 40
		if is, ok := impl.IsUnifier(s, a, x.list(), y.list()); ok != fits || is != (fits && slices.Equal(c.list(), e.list())) {
			t.Fatalf("IsUnifier(%v, %v, %s, %s): %v, %v", s, a, x.text(), y.text(), is, ok)
		}
		both, ok := impl.Compose(s, a, b)
		if want := composed(p, q); !sameLists(both, want) || ok != (want != nil) {
			t.Fatalf("Compose(%v, %v, %v): %v, %v", s, a, b, both, ok)
		}
		if fits {
			short++
		} else {
			long++
		}
	})
	if short < 1000 || long < 1000 {
		t.Error("too few cases of a kind", short, long)
	}
}

func composed(p, q [][]*tree) [][]int {
	l := make([][]int, 12)
	for v := range l {
		x := put(q, put(p, leaf(-1-v)))
		if x.size() > 40 {
			return nil
		}
		if x.n != -1-v {
			l[v] = x.list()
		}
	}
	return l
}

// TestRenameLarge: what is renamed is the same up to renaming, the variables occur in order, and renaming is idempotent.
func TestRenameLarge(t *testing.T) {
	d := &dice{state: 8}
	for range 3000 {
		s := d.sign()
		var l [][]int
		for range d.below(21) {
			l = append(l, d.tree(s, 1+d.below(12)).list())
		}
		got, ok := impl.RenameOf(s, l)
		if !ok || len(got) != len(l) {
			t.Fatalf("RenameOf(%v, %v): %v, %v", s, l, got, ok)
		}
		there, back := map[int]int{}, map[int]int{}
		for i := range l {
			if len(got[i]) != len(l[i]) {
				t.Fatalf("RenameOf(%v, %v): %v", s, l, got)
			}
			for j, n := range l[i] {
				m := got[i][j]
				if n >= 0 {
					there[n] = n
				} else if _, seen := there[n]; !seen {
					there[n] = -1 - len(back)
					back[there[n]] = n
				}
				if m != there[n] {
					t.Fatalf("RenameOf(%v, %v): %v", s, l, got)
				}
			}
		}
		if again, ok := impl.RenameOf(s, got); !sameLists(again, got) || !ok {
			t.Fatalf("RenameOf(%v, %v): %v, and again %v", s, l, got, again)
		}
	}
}

// TestSameUpToLarge: two terms are the same up to renaming exactly if each of them matches the other.
func TestSameUpToLarge(t *testing.T) {
	same := 0
	check := func(s impl.Sign, x, y *tree) {
		want := matched(x, y) != nil && matched(y, x) != nil
		if got, ok := impl.SameUpTo(s, x.list(), y.list()); got != want || !ok {
			t.Fatalf("SameUpTo(%v, %s, %s): %v, %v", s, x.text(), y.text(), got, ok)
		}
		if want && !slices.Equal(x.list(), y.list()) {
			same++
		}
	}
	d := &dice{state: 9}
	pairsOf(10, func(s impl.Sign, x, y *tree) {
		check(s, x, y)
		turned := make([][]*tree, 12)
		by := 1 + d.below(11)
		for v := range turned {
			turned[v] = []*tree{leaf(-1 - (v+by)%12)}
		}
		check(s, x, put(turned, x))
	})
	if same < 1000 {
		t.Error("too few terms are the same", same)
	}
}
