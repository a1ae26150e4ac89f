package tests

import (
	"slices"
	"testing"

	"loop.example/g00682/impl"
)

// args6 are the arguments of a call of chapter 6; each function takes those that it needs.
type args6 struct {
	s    impl.Sign
	c, d []impl.Lit
	w    impl.Way
	i    int
}

// results6 are the results of such a call: a clause, a code, a list, ways, and whether it succeeded.
type results6 struct {
	c    []impl.Lit
	code int
	list []int
	ways []impl.Way
	ok   bool
}

func (r results6) equal(q results6) bool {
	return sameClauses(r.c, q.c) && r.code == q.code && slices.Equal(r.list, q.list) && slices.Equal(r.ways, q.ways) && r.ok == q.ok
}

func (r results6) succeeded() bool { return r.ok }

func (r results6) finds() bool { return len(r.c)+len(r.list)+len(r.ways) > 0 }

func (r results6) parts() [][]int { return append(listsIn(r.c[:cap(r.c)]), r.list) }

func (r results6) wipe() {
	clear(r.c[:cap(r.c)])
	clear(r.ways[:cap(r.ways)])
}

type call6 = callOf[args6, results6]

func calls6() []call6 {
	return []call6{
		{"ApartClauses", func(x args6) (r results6) { r.c, r.ok = impl.ApartClauses(x.s, x.c, x.d); return }},
		{"Superpose", func(x args6) (r results6) { r.c, r.code, r.ok = impl.Superpose(x.s, x.c, x.d, x.w); return }},
		{"Resolve", func(x args6) (r results6) { r.c, r.code, r.ok = impl.Resolve(x.s, x.c, x.i); return }},
		{"Factor", func(x args6) (r results6) { r.c, r.code, r.ok = impl.Factor(x.s, x.c, x.w); return }},
		{"WaysInto", func(x args6) (r results6) { r.ways, r.ok = impl.WaysInto(x.s, x.c, x.d); return }},
		{"SingleWays", func(x args6) (r results6) { r.list, r.ways, r.ok = impl.SingleWays(x.s, x.c); return }},
	}
}

// wanted6 is the expected result, computed from trees.
func wanted6(name string, x args6) results6 {
	c, good := goodLits(x.s, x.c)
	d, good2 := goodLits(x.s, x.d)
	if !good || !good2 && (name == "ApartClauses" || name == "Superpose" || name == "WaysInto") {
		return results6{}
	}
	r := results6{ok: true}
	switch name {
	case "ApartClauses":
		if d, good = shiftedLits(c, d); !good {
			return results6{}
		}
		r.c = madeOf(d)
	case "Superpose":
		r.c, r.code = superposedLits(c, d, x.w)
	case "Resolve":
		r.c, r.code = resolvedLits(c, x.i)
	case "Factor":
		r.c, r.code = factoredLits(c, x.w)
	case "WaysInto":
		r.ways = waysOfLits(c, d)
	case "SingleWays":
		r.list, r.ways = singleWaysOfLits(c)
	}
	return r
}

// goodArgs6 returns valid arguments for that signature.
func (d *dice) goodArgs6(s impl.Sign) args6 {
	c, e, w := d.premises(s, 6)
	x := args6{s: s, c: madeOf(c), d: madeOf(e), w: w, i: d.below(2)}
	if d.below(2) == 0 {
		c, x.w = d.single(s, 6)
		x.c = madeOf(c)
	}
	x.w.At *= d.below(2)
	return x
}

// changes6 put another value, mostly an invalid one, for each of the arguments.
func changes6() []func(x *args6) {
	changes := []func(x *args6){func(x *args6) {}, func(x *args6) { x.c, x.d = x.d, x.c }}
	add := func(change func(x *args6)) { changes = append(changes, change) }
	for _, s := range append(badSigns()[:8], sampleSign(), mixedSign(), constants(10)) {
		add(func(x *args6) { x.s = s })
	}
	texts := []string{
		"-", "a=a", "a#a", "L=a", "K=L", "A#A", "A=A|A=B", "A=B|C#D|L=A", eightLits, eight("A=B", "C=D"), eight("A#B", "C=C"),
	}
	for _, text := range texts {
		add(func(x *args6) { x.c = clause(text) })
		add(func(x *args6) { x.d = clause(text) })
	}
	for i, c := range badClauses() {
		if i%3 > 0 {
			add(func(x *args6) { x.c = c })
		} else {
			add(func(x *args6) { x.d = c })
		}
	}
	for _, n := range []int{leastInt, -1 << 32, -2, -1, 0, 1, 2, 3, 5, 8, 40, 1 << 32, greatestInt} {
		add(func(x *args6) { x.i = n })
		add(func(x *args6) { x.w.I = n })
		add(func(x *args6) { x.w.Side = n })
		add(func(x *args6) { x.w.J = n })
		add(func(x *args6) { x.w.Other = n })
		add(func(x *args6) { x.w.At = n })
		add(func(x *args6) { x.w = wayOf(n, n, n, n, n) })
	}
	return changes
}

// eachArgs6 visits ordinary arguments, and ones with one that is invalid or very large.
func eachArgs6(visit func(x args6)) {
	d := &dice{state: 68}
	changes := changes6()
	for i := range 20 {
		s := d.sign()
		if i%2 > 0 {
			s = impl.Sign{Arity: [][]int{{0}, {0, 0, 1}, {0, 2}, {0, 3}, {0, 1, 1}, {0, 0, 0, 1, 1, 2}}[d.below(6)]}
		}
		for _, change := range changes {
			x := d.goodArgs6(s)
			change(&x)
			visit(x)
		}
	}
}

func TestPromise19AllArguments6(t *testing.T) {
	checkArguments(t, calls6(), eachArgs6, wanted6, atLeast{1000, 500, 100})
}

func (x args6) clauses() [][]impl.Lit { return [][]impl.Lit{x.c, x.d} }

func (x args6) guarded() (args6, []*guard) {
	arity := guarded(x.s.Arity)
	c, guards := guardedClause(x.c, []*guard{arity})
	d, guards := guardedClause(x.d, guards)
	return args6{s: impl.Sign{Arity: arity.list}, c: c, d: d, w: x.w, i: x.i}, guards
}

func TestPromise19Memory6(t *testing.T) {
	calls := calls6()
	eachArgs6(func(x args6) {
		for _, c := range calls {
			checkKept(t, c, x)
		}
	})
}

// TestPromise19Own6: conclusions and clauses made apart have memory of their own, also where they equal an argument, and may
// be overwritten without an effect on later results.
func TestPromise19Own6(t *testing.T) {
	w := term("d(b)")
	same := impl.Lit{Pos: true, L: w, R: w}
	other := impl.Lit{Pos: false, L: w, R: w}
	x := args6{s: sampleSign(), c: []impl.Lit{{Pos: true, L: []int{-1}, R: w}, same, {Pos: true, L: []int{-1}, R: w}}, d: []impl.Lit{same, {Pos: false, L: []int{-3}, R: w}}}
	x.w = wayOf(0, 0, 1, 1, 0)
	y := args6{s: sampleSign(), c: []impl.Lit{other, same, {Pos: true, L: w, R: []int{-1}}}, d: x.d, w: wayOf(1, 0, 2, 0, 0)}
	checkRepeated(t, calls6(), x, wanted6, "")
	checkRepeated(t, calls6(), y, wanted6, "")
	if !slices.Equal(w, term("d(b)")) {
		t.Error("an argument is modified", w)
	}
}

// TestPromise19Self6: one list may be several arguments, or stand several times in one.
func TestPromise19Self6(t *testing.T) {
	zeros := make([]int, 10)
	s := impl.Sign{Arity: zeros}
	same := impl.Lit{Pos: true, L: zeros[:1], R: zeros[:1]}
	c := []impl.Lit{same, {Pos: false, L: zeros[:1], R: zeros[:1]}, same}
	for range 2 {
		if got, ok := impl.ApartClauses(s, c, c); !sameClauses(got, clause("a=a|a#a|a=a")) || !ok {
			t.Error("ApartClauses", got, ok)
		}
		if got, code, ok := impl.Superpose(s, c, c, wayOf(0, 1, 1, 1)); !sameClauses(got, clause("a=a")) || code != impl.InOrder || !ok {
			t.Error("Superpose", got, code, ok)
		}
		if got, code, ok := impl.Resolve(s, c, 1); !sameClauses(got, clause("a=a")) || code != impl.InDone || !ok {
			t.Error("Resolve", got, code, ok)
		}
		if got, code, ok := impl.Factor(s, c, wayOf(0, 0, 2)); !sameClauses(got, clause("a=a")) || code != impl.InOrder || !ok {
			t.Error("Factor", got, code, ok)
		}
		if ways, ok := impl.WaysInto(s, c, c); ways != nil || !ok {
			t.Error("WaysInto", ways, ok)
		}
		if at, ways, ok := impl.SingleWays(s, c); !slices.Equal(at, []int{1}) || ways != nil || !ok {
			t.Error("SingleWays", at, ways, ok)
		}
	}
	if !slices.Equal(zeros, make([]int, 10)) || !sameClauses(c, clause("a=a|a#a|a=a")) {
		t.Error("an argument is modified", zeros, c)
	}
}

// TestPromise19Capacity6: what stands behind the length would change the result, but is not read.
func TestPromise19Capacity6(t *testing.T) {
	s := sampleSign()
	c, d := clause("d(A)=b|e(A)=b")[:1], clause("e(d(c))=c|L=c")[:1]
	for range 2 {
		if got, code, ok := impl.Superpose(s, c, d, wayOf(0, 0, 0, 0, 1)); !sameClauses(got, clause("e(b)=c")) || code != impl.InDone || !ok {
			t.Error("Superpose reads behind the length", got, code, ok)
		}
		if got, code, ok := impl.Superpose(s, c, d, wayOf(1, 0, 0, 0, 1)); got != nil || code != impl.InNone || !ok {
			t.Error("Superpose reads behind the length", got, code, ok)
		}
		if got, ok := impl.ApartClauses(s, d, c); !sameClauses(got, clause("d(A)=b")) || !ok {
			t.Error("ApartClauses reads behind the length", got, ok)
		}
		if ways, ok := impl.WaysInto(s, c, d); len(ways) != 1 || !ok {
			t.Error("WaysInto reads behind the length", ways, ok)
		}
	}
	if !sameClauses(c[:2], clause("d(A)=b|e(A)=b")) || !sameClauses(d[:2], clause("e(d(c))=c|L=c")) {
		t.Error("an argument is modified behind the length", c[:2], d[:2])
	}
	e := clause("A#b|B#b")[:1]
	if got, code, ok := impl.Resolve(s, e, 1); got != nil || code != impl.InNone || !ok {
		t.Error("Resolve reads behind the length", got, code, ok)
	}
	if at, _, ok := impl.SingleWays(s, e); !slices.Equal(at, []int{0}) || !ok {
		t.Error("SingleWays reads behind the length", at, ok)
	}
	if got, code, ok := impl.Factor(s, clause("A=b|A=b")[:1], wayOf(0, 0, 1)); got != nil || code != impl.InNone || !ok {
		t.Error("Factor reads behind the length", got, code, ok)
	}
}

// TestPromise19Huge6: arguments far above the limits.
func TestPromise19Huge6(t *testing.T) {
	huge := make([]int, 1<<20)
	hugeLit := impl.Lit{Pos: true, L: huge, R: huge}
	good := args6{s: sampleSign(), c: clause("d(A)=b|A#c|d(c)=a"), d: clause("e(d(c))=c|B=b"), w: wayOf(0, 0, 0, 0, 1), i: 1}
	changes := []func(x *args6){
		func(x *args6) {},
		func(x *args6) { x.s.Arity = huge },
		func(x *args6) { x.c = slices.Repeat(clause("b=c"), 1<<20) },
		func(x *args6) { x.d = slices.Repeat(clause("b=c"), 1<<20) },
		func(x *args6) { x.c = slices.Repeat([]impl.Lit{hugeLit}, 8) },
		func(x *args6) { x.d = slices.Repeat([]impl.Lit{hugeLit}, 8) },
		func(x *args6) { x.c = append(clause("b=c"), impl.Lit{Pos: true, L: []int{0}, R: huge}) },
		func(x *args6) { x.d = append(clause("b=c"), impl.Lit{Pos: true, L: []int{0}, R: huge}) },
		func(x *args6) { x.i = 1 << 62 },
		func(x *args6) { x.w = wayOf(1<<62, 1<<62, 1<<62, 1<<62, 1<<62) },
		func(x *args6) { x.w.At = 1 << 62 },
	}
	checkChanged(t, calls6(), good, changes, wanted6)
}
