package tests

import (
	"slices"
	"strings"
	"testing"

	"loop.example/g00682/impl"
)

// args1 are the arguments of a call of chapter 1; each function takes those that it needs.
type args1 struct {
	s    impl.Sign
	t, u []int
	at   int
	text string
}

// results1 are the results of such a call: a list, a number, a text, and whether it succeeded.
type results1 struct {
	list []int
	n    int
	text string
	ok   bool
}

func (r results1) equal(q results1) bool {
	return slices.Equal(r.list, q.list) && r.n == q.n && r.text == q.text && r.ok == q.ok
}

type call1 struct {
	name string
	run  func(a args1) results1
}

func calls1() []call1 {
	return []call1{
		{"GoodSign", func(a args1) results1 { return results1{ok: impl.GoodSign(a.s)} }},
		{"GoodTerm", func(a args1) results1 { return results1{ok: impl.GoodTerm(a.s, a.t)} }},
		{"EndOf", func(a args1) (r results1) { r.n, r.ok = impl.EndOf(a.s, a.t, a.at); return }},
		{"ArgsAt", func(a args1) (r results1) { r.list, r.ok = impl.ArgsAt(a.s, a.t, a.at); return }},
		{"PartAt", func(a args1) (r results1) { r.list, r.ok = impl.PartAt(a.s, a.t, a.at); return }},
		{"ReplaceAt", func(a args1) (r results1) { r.list, r.ok = impl.ReplaceAt(a.s, a.t, a.at, a.u); return }},
		{"VarsOf", func(a args1) (r results1) { r.list, r.ok = impl.VarsOf(a.s, a.t); return }},
		{"CountOf", func(a args1) (r results1) { r.n, r.ok = impl.CountOf(a.s, a.t, a.at); return }},
		{"DepthOf", func(a args1) (r results1) { r.n, r.ok = impl.DepthOf(a.s, a.t); return }},
		{"ShiftVars", func(a args1) (r results1) { r.list, r.ok = impl.ShiftVars(a.s, a.t, a.at); return }},
		{"TermText", func(a args1) (r results1) { r.text, r.ok = impl.TermText(a.s, a.t); return }},
		{"ReadTerm", func(a args1) (r results1) { r.list, r.n, r.ok = impl.ReadTerm(a.s, a.text); return }},
	}
}

// wanted1 is the expected result, computed from trees (ReadTerm has tests of its own).
func wanted1(name string, a args1) results1 {
	if !goodSign(a.s) || name == "GoodSign" {
		return results1{ok: goodSign(a.s)}
	}
	none := results1{}
	if len(a.t) > 40 {
		return none
	}
	x := treeOf(a.s, a.t)
	if x == nil || name == "GoodTerm" {
		return results1{ok: x != nil}
	}
	switch name {
	case "VarsOf":
		return results1{list: x.vars(), ok: true}
	case "CountOf":
		return results1{n: x.count(a.at), ok: true}
	case "DepthOf":
		return results1{n: x.depth(), ok: true}
	case "TermText":
		return results1{text: x.text(), ok: true}
	case "ShiftVars":
		if a.at < 0 || a.at > 12 || slices.Min(x.shifted(a.at).list()) < -12 {
			return none
		}
		return results1{list: x.shifted(a.at).list(), ok: true}
	}
	nodes := x.nodes()
	if a.at < 0 || a.at >= len(nodes) {
		return none
	}
	part := nodes[a.at]
	switch name {
	case "EndOf":
		return results1{n: a.at + part.size(), ok: true}
	case "PartAt":
		return results1{list: part.list(), ok: true}
	case "ArgsAt":
		var l []int
		next := a.at + 1
		for _, y := range part.args {
			l = append(l, next)
			next += y.size()
		}
		return results1{list: l, ok: true}
	}
	if len(a.u) > 40 {
		return none
	}
	by := treeOf(a.s, a.u)
	if by == nil || x.size()-part.size()+by.size() > 40 {
		return none
	}
	return results1{list: x.replaced(part, by).list(), ok: true}
}

// eachArgs visits combinations of ordinary, invalid and very large arguments.
func eachArgs(visit func(a args1)) {
	arities := [][]int{
		nil, {0}, {1}, {0, 1}, {0, 0, 0, 1, 1, 2}, {0, 3, 2, 1}, {0, 4}, {0, -1}, {0, greatestInt}, {0, leastInt},
		make([]int, 10), make([]int, 11), {0, 0, 0, 0, 0, 0, 0, 0, 0, 3}, {0, 0, 0, 0, 0, 0, 0, 0, 0, 4}, {leastInt, 0},
		make([]int, 300),
	}
	terms := [][]int{
		nil, {0}, {-1}, {-12}, {-13}, {5, 3, -1, 1}, {5, -12, -2}, {1, 0, -1, 0}, {3, 0}, {3}, {0, 0}, {9, 0, 0, 0}, {10},
		{leastInt}, {greatestInt}, {3, leastInt}, {1, greatestInt, 0, 0}, chain(39, -1), chain(40, -1), chain(37, 0), chain(300, 0),
	}
	others := [][]int{nil, {0}, {-13}, {5, 3, -1, 1}, {3}, {0, 0}, {greatestInt}, chain(37, -12), chain(39, 0), chain(40, 0)}
	numbers := []int{leastInt, leastInt + 1, -13, -1, 0, 1, 2, 3, 4, 12, 13, 39, 40, greatestInt - 1, greatestInt}
	texts := []string{"", "a", "d(b", "d(M)", "f(d(A),b)", "a\xff", strings.Repeat("d(", 100), strings.Repeat("d(", 101), strings.Repeat("f", 1<<16)}
	for _, arity := range arities {
		for i, t := range terms {
			for j, at := range numbers {
				for k, u := range others {
					visit(args1{impl.Sign{Arity: arity}, t, u, at, texts[(i+j+k)%len(texts)]})
				}
			}
		}
	}
}

func TestPromise19AllArguments(t *testing.T) {
	calls := calls1()
	eachArgs(func(a args1) {
		for _, c := range calls {
			if c.name == "ReadTerm" {
				continue
			}
			if got := c.run(a); !got.equal(wanted1(c.name, a)) {
				t.Fatalf("%s: %v for %d symbols, terms %v and %v, number %d", c.name, got, len(a.s.Arity), a.t, a.u, a.at)
			}
		}
	})
}

// guardedArgs copies the arguments into guards.
func guardedArgs(a args1) (args1, []*guard) {
	l := []*guard{guarded(a.s.Arity), guarded(a.t), guarded(a.u)}
	return args1{impl.Sign{Arity: l[0].list}, l[1].list, l[2].list, a.at, a.text}, l
}

func TestPromise19Memory(t *testing.T) {
	calls := calls1()
	eachArgs(func(a args1) {
		for _, c := range calls {
			checkMemory(t, c, a)
		}
	})
}

// checkMemory calls a function with guarded arguments. It reports an argument that is modified, a result that depends on
// what stands behind an argument or on an earlier call, and a result that shares memory with an argument.
func checkMemory(t *testing.T, c call1, a args1) {
	b, guards := guardedArgs(a)
	plain, got := c.run(a), c.run(b)
	if !got.equal(plain) {
		t.Fatalf("%s of %v: %v, then %v", c.name, a, plain, got)
	}
	if !got.ok && c.name != "ReadTerm" && !got.equal(results1{}) {
		t.Fatalf("%s of %v fails with %v", c.name, a, got)
	}
	reportChanged(t, c.name, guards)
	fill(got.list[:cap(got.list)])
	reportChanged(t, c.name+", result overwritten", guards)
	again := c.run(b)
	if !again.equal(plain) {
		t.Fatalf("%s of %v: %v, then %v", c.name, a, plain, again)
	}
	for _, g := range guards {
		fill(g.array)
	}
	if !again.equal(plain) {
		t.Fatalf("%s of %v shares memory", c.name, a)
	}
}

func reportChanged(t *testing.T, what string, guards []*guard) {
	for _, g := range guards {
		if g.changed() {
			t.Fatalf("%s: an argument is modified: %v, was %v", what, g.array, g.was)
		}
	}
}

// TestPromise19Capacity: what stands behind the length would complete each of these arguments, but is not read.
func TestPromise19Capacity(t *testing.T) {
	s := sampleSign()
	open := []int{5, 3, -1, 1}[:3]
	if impl.GoodTerm(s, open) || impl.GoodTerm(s, []int{0}[:0]) {
		t.Error("GoodTerm reads behind the length")
	}
	if got, ok := impl.ReplaceAt(s, []int{5, 0, 0}, 1, open); len(got) != 0 || ok {
		t.Error("ReplaceAt reads behind the length", got, ok)
	}
	short := impl.Sign{Arity: []int{0, 1}[:1]}
	if _, _, ok := impl.ReadTerm(short, "b(a)"); ok || impl.GoodTerm(short, []int{1, 0}) {
		t.Error("the signature is read behind its length")
	}
	if impl.GoodSign(impl.Sign{Arity: []int{0}[:0]}) || !impl.GoodSign(impl.Sign{Arity: []int{0, 9}[:1]}) {
		t.Error("GoodSign reads behind the length")
	}
}

// TestPromise19Huge: arguments far above the limits.
func TestPromise19Huge(t *testing.T) {
	huge := make([]int, 1<<22)
	good := args1{s: sampleSign(), t: []int{5, 3, -1, 1}, u: []int{2}, at: 1, text: "a"}
	for _, c := range calls1() {
		a, b, d, e := good, good, good, good
		a.s.Arity, b.t, d.u, e.text = huge, huge, huge, strings.Repeat("d(", 1<<22)
		if got := c.run(a); !got.equal(results1{}) {
			t.Error(c.name, "with a huge signature", got)
		}
		if c.name == "ReadTerm" {
			if got := c.run(e); !got.equal(results1{}) {
				t.Error(c.name, "with a huge text", got)
			}
			continue
		}
		if got := c.run(b); !got.equal(wanted1(c.name, b)) {
			t.Error(c.name, "with a huge term", got)
		}
		if got := c.run(d); !got.equal(wanted1(c.name, d)) {
			t.Error(c.name, "with a huge second term", got)
		}
	}
}

// TestPromise19Self: one list may be two arguments.
func TestPromise19Self(t *testing.T) {
	s := sampleSign()
	w := []int{5, 3, -1, 1}
	want := []int{5, 3, 5, 3, -1, 1, 1}
	for range 2 {
		if got, ok := impl.ReplaceAt(s, w, 2, w); !slices.Equal(got, want) || !ok {
			t.Fatal("ReplaceAt", got, ok)
		}
	}
	if !slices.Equal(w, []int{5, 3, -1, 1}) {
		t.Error("ReplaceAt modified its argument", w)
	}
}
