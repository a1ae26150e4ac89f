package tests

import (
	"slices"
	"testing"

	"loop.example/g00682/impl"
)

// args7 are the arguments of a call of chapter 7; each function takes those that it needs.
type args7 struct {
	s           impl.Sign
	t           []int
	c, d, units []impl.Lit
}

// results7 are the results of such a call: a clause, a term, a substitution, numbers, whether something is so, and whether it
// succeeded.
type results7 struct {
	c      []impl.Lit
	term   []int
	b      [][]int
	n, m   int
	is, ok bool
}

func (r results7) equal(q results7) bool {
	same := sameClauses(r.c, q.c) && slices.Equal(r.term, q.term) && sameLists(r.b, q.b)
	return same && r.n == q.n && r.m == q.m && r.is == q.is && r.ok == q.ok
}

func (r results7) succeeded() bool { return r.ok }

func (r results7) finds() bool { return len(r.b) > 0 || r.n > 0 || r.is }

func (r results7) parts() [][]int {
	return slices.Concat(listsIn(r.c[:cap(r.c)]), [][]int{r.term}, r.b)
}

func (r results7) wipe() {
	clear(r.c[:cap(r.c)])
	clear(r.b[:cap(r.b)])
}

type call7 = callOf[args7, results7]

func calls7() []call7 {
	return []call7{
		{"IsUnit", func(x args7) (r results7) { r.is, r.ok = impl.IsUnit(x.s, x.c); return }},
		{"StepTerm", func(x args7) (r results7) { r.term, r.n, r.m, r.ok = impl.StepTerm(x.s, x.t, x.units); return }},
		{"NormalTerm", func(x args7) (r results7) { r.term, r.n, r.ok = impl.NormalTerm(x.s, x.t, x.units); return }},
		{"NormalClause", func(x args7) (r results7) { r.c, r.n, r.ok = impl.NormalClause(x.s, x.c, x.units); return }},
		{"IsNormal", func(x args7) (r results7) { r.is, r.ok = impl.IsNormal(x.s, x.t, x.units); return }},
		{"Subsumes", func(x args7) (r results7) { r.b, r.ok = impl.Subsumes(x.s, x.c, x.d); return }},
		{"SameClause", func(x args7) (r results7) { r.is, r.ok = impl.SameClause(x.s, x.c, x.d); return }},
	}
}

// wanted7 is the expected result, computed from trees.
func wanted7(name string, x args7) (r results7) {
	tr := goodTree(x.s, x.t)
	c, goodC := goodLits(x.s, x.c)
	d, goodD := goodLits(x.s, x.d)
	units, good := goodUnits(x.s, x.units)
	switch {
	case name == "IsUnit" && goodC:
		return results7{is: len(c) == 1 && c[0].pos, ok: true}
	case name == "Subsumes" && goodC && goodD:
		b := subsumedBy(c, d)
		return results7{b: b, ok: b != nil}
	case name == "SameClause" && goodC && goodD:
		return results7{is: sameClauses(wantedRenameClause(x.c), wantedRenameClause(x.d)), ok: true}
	case name == "NormalClause" && good && goodC:
		r.c, r.n = normalLits(x.s, c, units)
		r.ok = true
		return r
	case !good || tr == nil:
		return results7{}
	}
	step, at, unit := stepOf(x.s, tr, units)
	switch {
	case name == "IsNormal":
		return results7{is: step == nil, ok: true}
	case name == "StepTerm" && step != nil:
		return results7{term: step.list(), n: at, m: unit, ok: true}
	case name == "NormalTerm":
		form, steps := normalOf(x.s, tr, units)
		return results7{term: form.list(), n: steps, ok: true}
	}
	return results7{}
}

// goodArgs7 returns valid arguments for that signature.
func (d *dice) goodArgs7(s impl.Sign) args7 {
	row := d.lits(s, 4, 6)
	if d.below(8) == 0 {
		row = d.lits(s, 8, 6)
	}
	tr := d.tree(s, 1+d.below(20))
	if len(row) > 0 && d.below(2) == 0 {
		tr = row[d.below(len(row))].r
	}
	x := args7{s: s, t: tr.list(), c: madeOf(row), d: madeOf(d.lits(s, 5, 5))}
	x.units = madeOf(d.units(s, tr, d.below(5)))
	switch d.below(4) {
	case 0, 1:
		x.c, x.d = madeOf(d.covered(s, row, 1+d.below(4))), x.c
	case 2:
		x.c, x.d = madeOf(someVars(row, d.order(12))), x.c
	}
	return x
}

// changes7 put another value, mostly an invalid one, for each of the arguments.
func changes7() []func(x *args7) {
	changes := []func(x *args7){func(x *args7) {}, func(x *args7) { x.c, x.d = x.d, x.c }}
	add := func(change func(x *args7)) { changes = append(changes, change) }
	for _, s := range append(badSigns()[:8], sampleSign(), mixedSign(), constants(10)) {
		add(func(x *args7) { x.s = s })
	}
	texts := []string{"-", "a=a", "a#a", "A#A", "A=A", "A=A|A=B", "L=a", "a=K|b#b", "A=a|B#a|C=D|a=E", "A=a|B#a|C=D|a=E|b#b", eightLits, eight("A=B", "C=D")}
	for _, text := range texts {
		add(func(x *args7) { x.c = clause(text) })
		add(func(x *args7) { x.d = clause(text) })
		add(func(x *args7) { x.c, x.d = clause(text), clause(text) })
		add(func(x *args7) { x.units = clause(text) })
	}
	for i, c := range append(badClauses(), badUnits()...) {
		add(func(x *args7) {
			for k, p := range []*[]impl.Lit{&x.c, &x.d, &x.units} {
				if k == i%3 {
					*p = c
				}
			}
		})
	}
	for n := range 12 {
		add(func(x *args7) { x.units = append(slices.Repeat(clause("a=a"), n), x.units...) })
		add(func(x *args7) { x.units = append(x.units, slices.Repeat(clause("A=a"), n)...) })
	}
	for _, t := range [][]int{nil, {0}, {1}, {-1}, {-12}, {-13}, {0, 0}, {3}, {10}, {leastInt}, {greatestInt}, {1, greatestInt}, {3, leastInt}, chain(39, -1), chain(40, -1), chain(300, 0)} {
		add(func(x *args7) { x.t = t })
	}
	return changes
}

// eachArgs7 visits ordinary arguments, and ones with one that is invalid or very large.
func eachArgs7(visit func(x args7)) {
	d := &dice{state: 81}
	changes := changes7()
	for i := range 12 {
		s := d.sign()
		if i%2 > 0 {
			s = impl.Sign{Arity: [][]int{{0}, {0, 0, 1}, {0, 2}, {0, 3}, {0, 1, 1}, {0, 0, 0, 1, 1, 2}}[d.below(6)]}
		}
		for _, change := range changes {
			x := d.goodArgs7(s)
			change(&x)
			visit(x)
		}
	}
}

func TestPromise19AllArguments7(t *testing.T) {
	checkArguments(t, calls7(), eachArgs7, wanted7, atLeast{200, 300, 100})
}

func (x args7) clauses() [][]impl.Lit { return [][]impl.Lit{x.c, x.d, x.units} }

func (x args7) guarded() (args7, []*guard) {
	arity, tr := guarded(x.s.Arity), guarded(x.t)
	c, guards := guardedClause(x.c, []*guard{arity, tr})
	d, guards := guardedClause(x.d, guards)
	units, guards := guardedClause(x.units, guards)
	return args7{s: impl.Sign{Arity: arity.list}, t: tr.list, c: c, d: d, units: units}, guards
}

func TestPromise19Memory7(t *testing.T) {
	calls := calls7()
	eachArgs7(func(x args7) {
		for _, c := range calls {
			checkKept(t, c, x)
		}
	})
}

// TestPromise19Own7: results have memory of their own, also where they equal an argument or each other, and may be
// overwritten without an effect on later results.
func TestPromise19Own7(t *testing.T) {
	w, v := term("d(e(b))"), []int{-1}
	same, other := impl.Lit{Pos: true, L: w, R: w}, impl.Lit{Pos: false, L: v, R: w}
	x := args7{s: sampleSign(), t: w, c: []impl.Lit{{Pos: true, L: v, R: []int{-2}}, other}, d: []impl.Lit{same, {Pos: false, L: w, R: w}, other}}
	y := args7{s: sampleSign(), t: w, c: []impl.Lit{same, {Pos: true, L: v, R: w}, same}, d: []impl.Lit{same, {Pos: true, L: v, R: w}, same}}
	x.units, y.units = []impl.Lit{{Pos: true, L: w, R: []int{1}}}, []impl.Lit{{Pos: true, L: []int{3, -1}, R: v}}
	z := y
	z.units = nil
	for _, z := range []args7{x, y, z} {
		checkRepeated(t, calls7(), z, wanted7, "StepTerm")
	}
	if !slices.Equal(w, term("d(e(b))")) || !slices.Equal(v, []int{-1}) {
		t.Error("an argument is modified", w, v)
	}
}

// TestPromise19Self7: one list may be several arguments, or stand several times in one.
func TestPromise19Self7(t *testing.T) {
	zeros := make([]int, 10)
	s := impl.Sign{Arity: zeros}
	same := impl.Lit{Pos: true, L: zeros[:1], R: zeros[:1]}
	c := []impl.Lit{same, same}
	for range 2 {
		if got, _, _, ok := impl.StepTerm(s, zeros[:1], c); got != nil || ok {
			t.Error("StepTerm", got, ok)
		}
		if got, n, ok := impl.NormalTerm(s, zeros[:1], c); !slices.Equal(got, zeros[:1]) || n != 0 || !ok {
			t.Error("NormalTerm", got, n, ok)
		}
		if got, n, ok := impl.NormalClause(s, c, c); !sameClauses(got, clause("a=a")) || n != 0 || !ok {
			t.Error("NormalClause", got, n, ok)
		}
		if is, ok := impl.IsNormal(s, zeros[:1], c); !is || !ok {
			t.Error("IsNormal", is, ok)
		}
		if got, ok := impl.Subsumes(s, c, c); !sameLists(got, subst("")) || !ok {
			t.Error("Subsumes", got, ok)
		}
		if is, ok := impl.SameClause(s, c, c); !is || !ok {
			t.Error("SameClause", is, ok)
		}
		if is, ok := impl.IsUnit(s, c[:1]); !is || !ok {
			t.Error("IsUnit", is, ok)
		}
	}
	if !slices.Equal(zeros, make([]int, 10)) || !sameClauses(c, clause("a=a|a=a")) {
		t.Error("an argument is modified", zeros, c)
	}
	// A unit that rewrites itself.
	unit := clause("d(c)=b")
	if got, n, ok := impl.NormalClause(sampleSign(), unit, unit); !sameClauses(got, clause("b=b")) || n != 1 || !ok {
		t.Error("NormalClause of a unit", got, n, ok)
	}
	if got, at, k, ok := impl.StepTerm(sampleSign(), unit[0].L, unit); !slices.Equal(got, term("b")) || at != 0 || k != 0 || !ok {
		t.Error("StepTerm of a side of a unit", got, at, k, ok)
	}
	if !sameClauses(unit, clause("d(c)=b")) {
		t.Error("an argument is modified", unit)
	}
}

// TestPromise19Capacity7: what stands behind the length would change the result, but is not read.
func TestPromise19Capacity7(t *testing.T) {
	s := sampleSign()
	one, units := clause("c=a|b#c")[:1], clause("c=b|b=a|b#a")
	for range 2 {
		if got, _, _, ok := impl.StepTerm(s, term("b"), units[:1]); got != nil || ok {
			t.Error("StepTerm reads behind the length", got, ok)
		}
		if got, n, ok := impl.NormalTerm(s, []int{3, 2, 2}[:2], units[:1]); !slices.Equal(got, term("d(b)")) || n != 1 || !ok {
			t.Error("NormalTerm reads behind the length", got, n, ok)
		}
		if got, n, ok := impl.NormalClause(s, one, units[:2]); !sameClauses(got, clause("a=a")) || n != 2 || !ok {
			t.Error("NormalClause reads behind the length", got, n, ok)
		}
		if is, ok := impl.IsNormal(s, term("b"), units[:1]); !is || !ok {
			t.Error("IsNormal reads behind the length", is, ok)
		}
		if is, ok := impl.IsUnit(s, one); !is || !ok {
			t.Error("IsUnit reads behind the length", is, ok)
		}
		if got, ok := impl.Subsumes(s, clause("A#c"), one); got != nil || ok {
			t.Error("Subsumes reads behind the length", got, ok)
		}
		if got, ok := impl.Subsumes(s, one, clause("a=c")); !sameLists(got, subst("")) || !ok {
			t.Error("Subsumes reads behind the length", got, ok)
		}
		if is, ok := impl.SameClause(s, one, clause("c=a")); !is || !ok {
			t.Error("SameClause reads behind the length", is, ok)
		}
	}
	if !sameClauses(one[:2], clause("c=a|b#c")) || !sameClauses(units, clause("c=b|b=a|b#a")) {
		t.Error("an argument is modified behind the length", one[:2], units)
	}
	if _, _, ok := impl.NormalTerm(s, []int{3, 2}[:1], units[:1]); ok {
		t.Error("NormalTerm reads a term behind its length")
	}
}

// TestPromise19Huge7: arguments far above the limits.
func TestPromise19Huge7(t *testing.T) {
	huge := make([]int, 1<<20)
	hugeLit := impl.Lit{Pos: true, L: huge, R: huge}
	good := args7{s: sampleSign(), t: term("d(c)"), c: clause("d(A)=c"), d: clause("c=a|d(c)=c"), units: clause("d(A)=A|c=b")}
	changes := []func(x *args7){
		func(x *args7) {},
		func(x *args7) { x.s.Arity = huge },
		func(x *args7) { x.t = huge },
		func(x *args7) { x.c = slices.Repeat(clause("c=b"), 1<<20) },
		func(x *args7) { x.d = slices.Repeat(clause("c=b"), 1<<20) },
		func(x *args7) { x.units = slices.Repeat(clause("c=b"), 1<<20) },
		func(x *args7) { x.c = slices.Repeat([]impl.Lit{hugeLit}, 4) },
		func(x *args7) { x.d = slices.Repeat([]impl.Lit{hugeLit}, 8) },
		func(x *args7) { x.units = slices.Repeat([]impl.Lit{hugeLit}, 10) },
		func(x *args7) { x.c = append(clause("b=c"), hugeLit) },
		func(x *args7) { x.d = append(clause("b=c"), hugeLit) },
		func(x *args7) { x.units = append(clause("b=c"), hugeLit) },
	}
	checkChanged(t, calls7(), good, changes, wanted7)
}
