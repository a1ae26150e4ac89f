package tests

import (
	"fmt"
	"slices"
	"testing"

	"loop.example/g00682/impl"
)

// args8 are the arguments of a call of chapter 8; each function takes those that it needs. The list at is the passive or the
// active steps.
type args8 struct {
	s            impl.Sign
	inputs       [][]impl.Lit
	steps        []impl.Step
	rule         int
	parents, way []int
	at           []int
	round, fuel  int
	c            []impl.Lit
	l            [][]impl.Lit
}

// results8 are the results of such a call: a step, a number, a list, whether something is so, a derivation, and whether it
// succeeded.
type results8 struct {
	step   impl.Step
	n      int
	list   []int
	is, ok bool
	proof  impl.Result
}

func (r results8) equal(q results8) bool {
	same := sameStep(r.step, q.step) && slices.Equal(r.list, q.list) && sameResults(r.proof, q.proof)
	return same && r.n == q.n && r.is == q.is && r.ok == q.ok
}

func (r results8) succeeded() bool { return r.ok }

func (r results8) finds() bool {
	return len(r.step.Clause) > 0 || r.n > 0 || len(r.list) > 0 || r.is || r.proof.Code == impl.PvNo
}

func (r results8) parts() [][]int {
	lists := [][]int{r.list, r.proof.Active}
	for _, x := range append(r.proof.Steps[:cap(r.proof.Steps)], r.step) {
		lists = append(lists, x.Parents, x.Way)
		lists = append(lists, listsIn(x.Clause[:cap(x.Clause)])...)
	}
	return lists
}

func (r results8) wipe() {
	for _, x := range append(r.proof.Steps[:cap(r.proof.Steps)], r.step) {
		clear(x.Clause[:cap(x.Clause)])
	}
	clear(r.proof.Steps[:cap(r.proof.Steps)])
}

type call8 = callOf[args8, results8]

func calls8() []call8 {
	return []call8{
		{"MakeStep", func(x args8) (r results8) {
			r.step, r.ok = impl.MakeStep(x.s, x.inputs, x.steps, x.rule, x.parents, x.way)
			return
		}},
		{"ChooseOf", func(x args8) (r results8) { r.n, r.ok = impl.ChooseOf(x.s, x.steps, x.at, x.round); return }},
		{"UnitsOf", func(x args8) (r results8) { r.list, r.ok = impl.UnitsOf(x.s, x.steps, x.at); return }},
		{"IsRedundant", func(x args8) (r results8) { r.is, r.ok = impl.IsRedundant(x.s, x.c, x.l); return }},
		{"Prove", func(x args8) (r results8) { r.proof, r.ok = impl.Prove(x.s, x.inputs, x.fuel); return }},
	}
}

// wanted8 is the expected result, computed from trees.
func wanted8(name string, x args8) (r results8) {
	switch name {
	case "IsRedundant":
		row, good := goodLits(x.s, x.c)
		l, good2 := goodRows(x.s, x.l, 200)
		if good && good2 {
			return results8{is: redundantLits(row, l), ok: true}
		}
		return results8{}
	case "Prove":
		inputs, good := goodRows(x.s, x.inputs, 12)
		if good && x.fuel >= 0 && x.fuel <= 40 {
			return results8{proof: provedLits(x.s, inputs, x.fuel), ok: true}
		}
		return results8{}
	}
	if len(x.steps) > 200 {
		return results8{}
	}
	rows, good := goodRows(x.s, clausesOf(x.steps), 200)
	inputs, good2 := goodRows(x.s, x.inputs, 12)
	switch {
	case !good:
	case name == "MakeStep" && good2 && areWithin(x.parents, len(rows)):
		if c, made := madeLits(x.s, inputs, rows, x.rule, x.parents, x.way); made {
			return results8{step: impl.Step{Rule: x.rule, Parents: x.parents, Way: x.way, Clause: c}, ok: true}
		}
	case name == "ChooseOf" && areWithin(x.at, len(rows)) && len(x.at) > 0 && x.round > 0:
		return results8{n: chosenOf(rows, x.at, x.round), ok: true}
	case name == "UnitsOf" && areWithin(x.at, len(rows)):
		return results8{list: unitsIn(rows, x.at), ok: true}
	}
	return results8{}
}

// goodArgs8 returns valid arguments for that signature.
func (d *dice) goodArgs8(s impl.Sign) args8 {
	x := args8{s: s, rule: 1 + d.below(5), round: 1 + d.below(8), fuel: d.below(4)}
	for _, row := range d.problem(s)[:1] {
		x.inputs = append(x.inputs, madeOf(row), madeOf(d.lits(s, 2, 3)))
	}
	c, e, w := d.premises(s, 5)
	single, v := d.single(s, 5)
	rows := [][]lit{c, e, single}
	for range d.below(6) {
		rows = append(rows, []lit{d.unit(s, d.tree(s, 8))})
	}
	var l [][]impl.Lit
	for _, row := range rows {
		l = append(l, madeOf(row))
	}
	x.steps, x.l = stepsOf(l), l[1:]
	x.at = d.elements(1+d.below(8), len(rows))
	x.c = madeOf(c)
	switch d.below(3) {
	case 0:
		x.l[0] = madeOf(d.covered(s, c, 1+d.below(3)))
	case 1:
		x.l = append(x.l, x.c)
	}
	switch x.rule {
	case impl.StInput:
		x.way = []int{d.below(2)}
	case impl.StSuper:
		x.parents, x.way = []int{0, 1}, listOfWay(w)
	case impl.StResolve:
		x.parents, x.way = []int{2}, []int{max(slices.IndexFunc(single, func(y lit) bool { return !y.pos }), 0)}
	case impl.StFactor:
		x.parents, x.way = []int{2}, listOfWay(v)[:4]
	default:
		x.parents = append([]int{d.below(3)}, unitsIn(rows, []int{3, 4, 5, 6, 7, 8}[:len(rows)-3])...)
	}
	return x
}

// changes8 put another value, mostly an invalid one, for each of the arguments.
func changes8() []func(x *args8) {
	changes := []func(x *args8){func(x *args8) {}, func(x *args8) {}}
	add := func(change func(x *args8)) { changes = append(changes, change) }
	for _, s := range append(badSigns()[:8], sampleSign(), mixedSign(), constants(10)) {
		add(func(x *args8) { x.s = s })
	}
	for _, text := range []string{"-", "a=a", "a#a", "A#A", "a=A", "A=B", "L=a", "A#a", "A=a|B#a|C=D", "- - a=a", "a=a a#a A=a|B#a"} {
		add(func(x *args8) { x.inputs = clauses(text) })
		add(func(x *args8) { x.steps = stepsOf(clauses(text)) })
		add(func(x *args8) { x.c = clauses(text)[0] })
		add(func(x *args8) { x.l = clauses(text) })
		add(func(x *args8) { x.inputs, x.fuel = clauses(text), 40 })
	}
	for i, c := range badClauses() {
		add(func(x *args8) {
			switch i % 5 {
			case 0:
				x.inputs = append(x.inputs, c)
			case 1:
				x.steps = append(x.steps, impl.Step{Clause: c})
			case 2:
				x.steps[0].Clause = c
			case 3:
				x.c = c
			case 4:
				x.l = append(x.l, c)
			}
		})
	}
	for _, n := range []int{0, 9, 10, 11, 12, 195, 200, 201} {
		add(func(x *args8) { x.inputs, x.fuel = slices.Repeat(clauses("a=a"), n), 40 })
		add(func(x *args8) { x.steps = append(x.steps, stepsOf(slices.Repeat(clauses("a=a"), n))...) })
		add(func(x *args8) { x.l = append(x.l, slices.Repeat(clauses("a=a"), n)...) })
	}
	for _, n := range []int{leastInt, -1 << 32, -2, -1, 0, 1, 2, 3, 4, 5, 6, 8, 11, 40, 41, 200, 1 << 32, greatestInt} {
		add(func(x *args8) { x.rule = n })
		add(func(x *args8) { x.round = n })
		add(func(x *args8) { x.parents = append(x.parents, n) })
		add(func(x *args8) { x.way = append(x.way, n) })
		add(func(x *args8) { x.at = append(x.at, n) })
		add(func(x *args8) { x.parents, x.way, x.at = []int{n}, []int{n}, []int{n} })
		add(func(x *args8) {
			if x.fuel = n; n > 5 {
				x.inputs = clauses("a=A a#A")
			}
		})
	}
	for n := range 14 {
		add(func(x *args8) { x.parents, x.way, x.at = make([]int, n), make([]int, n), make([]int, n) })
	}
	return changes
}

// eachArgs8 visits ordinary arguments, and ones with one that is invalid or very large.
func eachArgs8(visit func(x args8)) {
	d := &dice{state: 95}
	changes := changes8()
	for i := range 8 {
		s := d.sign()
		if i%2 > 0 {
			s = impl.Sign{Arity: [][]int{{0}, {0, 0, 1}, {0, 2}, {0, 3}, {0, 1, 1}, {0, 0, 0, 1, 1, 2}}[d.below(6)]}
		}
		for _, change := range changes {
			x := d.goodArgs8(s)
			change(&x)
			visit(x)
		}
	}
}

func TestPromise19AllArguments8(t *testing.T) {
	checkArguments(t, calls8(), eachArgs8, wanted8, atLeast{500, 200, 100})
}

func (x args8) clauses() [][]impl.Lit {
	return slices.Concat(x.inputs[:cap(x.inputs)], clausesOf(x.steps[:cap(x.steps)]), [][]impl.Lit{x.c}, x.l[:cap(x.l)])
}

func (x args8) guarded() (args8, []*guard) {
	arity, parents, way, at := guarded(x.s.Arity), guarded(x.parents), guarded(x.way), guarded(x.at)
	c, guards := guardedClause(x.c, []*guard{arity, parents, way, at})
	inputs, guards := guardedClauses(x.inputs, guards)
	l, guards := guardedClauses(x.l, guards)
	steps, guards := guardedSteps(x.steps, guards)
	y := x
	y.s.Arity, y.inputs, y.steps, y.parents, y.way, y.at, y.c, y.l = arity.list, inputs, steps, parents.list, way.list, at.list, c, l
	return y, guards
}

// guardedSteps puts the lists of each step, and the list of steps, into a guard. What stands behind that list would make
// indexes valid, and the list invalid.
func guardedSteps(steps []impl.Step, guards []*guard) ([]impl.Step, []*guard) {
	var all []impl.Step
	for _, x := range steps {
		parents, way := guarded(x.Parents), guarded(x.Way)
		guards = append(guards, parents, way)
		x.Parents, x.Way = parents.list, way.list
		x.Clause, guards = guardedClause(x.Clause, guards)
		all = append(all, x)
	}
	many := len(all)
	all = append(all, stepsOf(clauses("a=a A=a"))...)
	all = append(all, impl.Step{Clause: []impl.Lit{{}}})
	return all[:many], guards
}

// lists is a text of all lists of lists among the arguments.
func (x args8) lists() string {
	return fmt.Sprint(x.inputs[:cap(x.inputs)], x.steps[:cap(x.steps)], x.l[:cap(x.l)])
}

func TestPromise19Memory8(t *testing.T) {
	calls, i := watched(t, calls8()), 0
	eachArgs8(func(x args8) {
		// Three calls for each combination, so that each function gets many of them in little time.
		for range 3 {
			checkKept(t, calls[i%len(calls)], x)
			i += 2
		}
	})
}

// TestPromise19Own8: results have memory of their own, also where they equal an argument or each other, and may be overwritten
// without an effect on later results.
func TestPromise19Own8(t *testing.T) {
	w, v, zeros := term("d(e(b))"), []int{-1}, []int{0}
	same := []impl.Lit{{Pos: true, L: w, R: v}, {Pos: false, L: v, R: w}}
	unit, goal := []impl.Lit{{Pos: true, L: v, R: w}}, []impl.Lit{{Pos: false, L: w, R: v}}
	step := func(c []impl.Lit) impl.Step {
		return impl.Step{Rule: impl.StInput, Parents: zeros, Way: zeros, Clause: c}
	}
	x := args8{s: sampleSign(), inputs: [][]impl.Lit{same, unit, same, goal, unit}, steps: []impl.Step{step(unit), step(same), step(unit)}}
	x.at, x.round, x.fuel, x.c, x.l = []int{2, 0, 2}, 1, 6, unit, [][]impl.Lit{goal, unit}
	x.rule, x.way = impl.StInput, zeros
	checkRepeated(t, calls8(), x, wanted8, "")
	x.rule, x.parents, x.way = impl.StNormal, []int{1, 0, 0, 2}, nil
	x.inputs, x.round = clauses("A=b|A=c a#b a#c d(A)=A"), 4
	checkRepeated(t, calls8(), x, wanted8, "")
	x.rule, x.parents, x.way = impl.StSuper, []int{0, 0}, []int{0, 1, 0, 1, 0}
	x.inputs = clauses("f(A,f(B,C))=f(f(A,B),C)")
	checkRepeated(t, calls8(), x, wanted8, "")
	if !slices.Equal(w, term("d(e(b))")) || !slices.Equal(v, []int{-1}) || !slices.Equal(zeros, []int{0}) {
		t.Error("an argument is modified", w, v, zeros)
	}
}

// TestPromise19Self8: one list may be several arguments, or stand several times in one.
func TestPromise19Self8(t *testing.T) {
	zeros := make([]int, 10)
	s := impl.Sign{Arity: zeros}
	same := impl.Lit{Pos: true, L: zeros[:1], R: zeros[:1]}
	c := []impl.Lit{same, {Pos: false, L: zeros[:1], R: zeros[:1]}, same}
	l := [][]impl.Lit{c, c[:1], c}
	step := impl.Step{Parents: zeros, Way: zeros, Clause: c}
	steps := []impl.Step{step, step}
	for range 2 {
		for rule, want := range map[int]impl.Step{
			impl.StSuper:  {Rule: 2, Parents: zeros[:2], Way: zeros[:5], Clause: clause("a=a")},
			impl.StNormal: {Rule: 5, Parents: zeros[:1], Clause: clause("a=a")},
			impl.StInput:  {Rule: 1, Way: zeros[:1], Clause: clause("a=a")},
		} {
			if got, ok := impl.MakeStep(s, l, steps, rule, zeros[:len(want.Parents)], zeros[:len(want.Way)]); !sameStep(got, want) || !ok {
				t.Error("MakeStep", rule, got, ok)
			}
		}
		if k, ok := impl.ChooseOf(s, steps, zeros, 3); k != 0 || !ok {
			t.Error("ChooseOf", k, ok)
		}
		if units, ok := impl.UnitsOf(s, []impl.Step{{Clause: c[:1]}}, zeros); !slices.Equal(units, zeros) || !ok {
			t.Error("UnitsOf", units, ok)
		}
		if is, ok := impl.IsRedundant(s, c, l); !is || !ok {
			t.Error("IsRedundant", is, ok)
		}
		if r, ok := impl.Prove(s, l, 3); r.Code != impl.PvSat || len(r.Steps) != 3 || len(r.Active) > 0 || !ok {
			t.Error("Prove", r, ok)
		}
	}
	if !slices.Equal(zeros, make([]int, 10)) || !sameClauses(c, clause("a=a|a#a|a=a")) {
		t.Error("an argument is modified", zeros, c)
	}
	// A derivation whose own steps are the arguments.
	r, _ := impl.Prove(sampleSign(), exampleInputs(), 10)
	x := r.Steps[2]
	got, ok := impl.MakeStep(sampleSign(), clausesOf(r.Steps[:2]), r.Steps, x.Rule, x.Parents, x.Way)
	if !sameStep(got, x) || !ok || !sameStep(x, impl.Step{Rule: impl.StNormal, Parents: []int{1, 0}}) {
		t.Error("MakeStep", got, ok, x)
	}
	again, ok := impl.Prove(sampleSign(), clausesOf(r.Steps), 10)
	if again.Code != impl.PvNo || len(again.Steps) != 3 || len(again.Active) > 0 || !ok {
		t.Error("Prove", again, ok)
	}
}

// TestPromise19Capacity8: what stands behind the length would change the result, but is not read.
func TestPromise19Capacity8(t *testing.T) {
	s, zeros := sampleSign(), make([]int, 12)
	all := clauses("d(A)=b d(c)#b c=b -")
	steps := stepsOf(all)
	for range 2 {
		if got, ok := impl.MakeStep(s, all[:2], steps, impl.StInput, zeros[:0], []int{2}); ok {
			t.Error("MakeStep reads behind the inputs", got)
		}
		if got, ok := impl.MakeStep(s, all, steps[:2], impl.StNormal, []int{2}, nil); ok {
			t.Error("MakeStep reads behind the steps", got)
		}
		if got, ok := impl.MakeStep(s, all, steps, impl.StNormal, []int{1, 0, 1}[:2], zeros[:0]); !ok || len(got.Clause) > 0 || len(got.Parents) != 2 {
			t.Error("MakeStep reads behind the parents", got, ok)
		}
		if got, ok := impl.MakeStep(s, all, steps, impl.StSuper, zeros[:2], zeros[:4]); ok {
			t.Error("MakeStep reads behind the way", got)
		}
		if k, ok := impl.ChooseOf(s, steps, []int{0, 1, 3}[:2], 1); k != 0 || !ok {
			t.Error("ChooseOf reads behind the length", k, ok)
		}
		if k, ok := impl.ChooseOf(s, steps, zeros[:0], 1); k != 0 || ok {
			t.Error("ChooseOf reads behind the length", k, ok)
		}
		if l, ok := impl.UnitsOf(s, steps[:3], []int{1, 2, 0}[:2]); !slices.Equal(l, []int{2}) || !ok {
			t.Error("UnitsOf reads behind the length", l, ok)
		}
		if is, ok := impl.IsRedundant(s, clause("d(c)=a|a#a|b=b")[:2], all[:1]); is || !ok {
			t.Error("IsRedundant reads behind the length", is, ok)
		}
		if is, ok := impl.IsRedundant(s, clause("c=b"), all[:2]); is || !ok {
			t.Error("IsRedundant reads behind the length", is, ok)
		}
		if r, ok := impl.Prove(s, all[:1], 10); r.Code != impl.PvSat || len(r.Steps) != 1 || !ok {
			t.Error("Prove reads behind the length", r, ok)
		}
	}
	if !slices.EqualFunc(all, clauses("d(A)=b d(c)#b c=b -"), sameClauses) || !slices.EqualFunc(steps, stepsOf(all), sameStep) {
		t.Error("an argument is modified behind the length", all, steps)
	}
}

// TestPromise19Huge8: arguments far above the limits.
func TestPromise19Huge8(t *testing.T) {
	huge := make([]int, 1<<20)
	long := []impl.Lit{{Pos: true, L: huge, R: huge}}
	good := args8{s: sampleSign(), inputs: exampleInputs(), steps: stepsOf(exampleInputs()), rule: 5, parents: []int{1, 0}}
	good.at, good.round, good.fuel, good.c, good.l = []int{1, 0}, 1, 10, clause("b=c"), exampleInputs()
	changes := []func(x *args8){
		func(x *args8) {},
		func(x *args8) { x.s.Arity = huge },
		func(x *args8) { x.inputs = slices.Repeat(clauses("b=c"), 1<<20) },
		func(x *args8) { x.inputs = append(exampleInputs(), long) },
		func(x *args8) { x.inputs = [][]impl.Lit{slices.Repeat(clause("b=c"), 1<<20)} },
		func(x *args8) { x.steps = slices.Repeat(stepsOf(clauses("b=c")), 1<<20) },
		func(x *args8) { x.steps = stepsOf(append(exampleInputs(), long)) },
		func(x *args8) { x.steps = stepsOf([][]impl.Lit{slices.Repeat(clause("b=c"), 1<<20)}) },
		func(x *args8) { x.steps[0].Parents, x.steps[1].Way = huge, huge },
		func(x *args8) { x.parents = huge },
		func(x *args8) { x.rule, x.parents, x.way = 1, nil, huge },
		func(x *args8) { x.rule, x.parents, x.way = 2, huge, huge },
		func(x *args8) { x.rule = 1 << 62 },
		func(x *args8) { x.at = huge },
		func(x *args8) { x.round = 1 << 62 },
		func(x *args8) { x.fuel = 1 << 62 },
		func(x *args8) { x.c = slices.Repeat(clause("b=c"), 1<<20) },
		func(x *args8) { x.c = long },
		func(x *args8) { x.l = slices.Repeat(clauses("b=c"), 1<<20) },
		func(x *args8) { x.l = append(exampleInputs(), long) },
	}
	checkChanged(t, calls8(), good, changes, wanted8)
}
