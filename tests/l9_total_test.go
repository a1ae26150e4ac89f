package tests

import (
	"fmt"
	"slices"
	"testing"

	"loop.example/g00682/impl"
)

// args9 are the arguments of a call of chapter 9; each function takes those that it needs.
type args9 struct {
	s      impl.Sign
	inputs [][]impl.Lit
	steps  []impl.Step
	k      int
}

// results9 are the results of such a call: a code, an index, a list, steps, whether something is so, and whether it succeeded.
type results9 struct {
	code, n int
	list    []int
	steps   []impl.Step
	is, ok  bool
}

func (r results9) equal(q results9) bool {
	same := slices.Equal(r.list, q.list) && sameSteps(r.steps, q.steps)
	return same && r.code == q.code && r.n == q.n && r.is == q.is && r.ok == q.ok
}

func (r results9) succeeded() bool { return r.ok }

func (r results9) finds() bool {
	return r.code > 0 || r.n > 0 || len(r.list) > 0 || len(r.steps) > 0 || r.is
}

func (r results9) parts() [][]int {
	lists := [][]int{r.list}
	for _, x := range r.steps[:cap(r.steps)] {
		lists = append(lists, x.Parents, x.Way)
		lists = append(lists, listsIn(x.Clause[:cap(x.Clause)])...)
	}
	return lists
}

func (r results9) wipe() {
	for _, x := range r.steps[:cap(r.steps)] {
		clear(x.Clause[:cap(x.Clause)])
	}
	clear(r.steps[:cap(r.steps)])
}

type call9 = callOf[args9, results9]

func calls9() []call9 {
	return []call9{
		{"CheckSteps", func(x args9) (r results9) { r.code, r.n, r.ok = impl.CheckSteps(x.s, x.inputs, x.steps); return }},
		{"NeededBy", func(x args9) (r results9) { r.list, r.ok = impl.NeededBy(x.s, x.steps, x.k); return }},
		{"FirstEmpty", func(x args9) (r results9) { r.n, r.ok = impl.FirstEmpty(x.s, x.steps); return }},
		{"TrimSteps", func(x args9) (r results9) { r.steps, r.ok = impl.TrimSteps(x.s, x.steps); return }},
		{"InputsOf", func(x args9) (r results9) { r.list, r.ok = impl.InputsOf(x.s, x.steps); return }},
		{"IsRefuted", func(x args9) (r results9) { r.is, r.ok = impl.IsRefuted(x.s, x.inputs, x.steps); return }},
	}
}

// wanted9 is the expected result, computed from trees.
func wanted9(name string, x args9) (r results9) {
	inputs, good := goodRows(x.s, x.inputs, 12)
	if name == "CheckSteps" {
		if good {
			r.code, r.n = faultOf(x.s, inputs, x.steps)
		}
		return results9{code: r.code, n: r.n, ok: good}
	}
	if !goodLinks(x.s, x.steps) {
		return results9{}
	}
	empty := slices.IndexFunc(x.steps, isEmptyStep)
	switch {
	case name == "NeededBy" && x.k >= 0 && x.k < len(x.steps):
		return results9{list: neededOf(x.steps, x.k), ok: true}
	case name == "FirstEmpty" && empty >= 0:
		return results9{n: empty, ok: true}
	case name == "TrimSteps" && empty >= 0:
		return results9{steps: trimmedOf(x.steps), ok: true}
	case name == "InputsOf":
		return results9{list: numbersIn(x.steps), ok: true}
	case name == "IsRefuted" && good:
		code, _ := faultOf(x.s, inputs, x.steps)
		return results9{is: code == 0 && empty >= 0, ok: true}
	}
	return results9{}
}

// goodArgs9 returns valid arguments for that signature, with an accepted derivation.
func (d *dice) goodArgs9(s impl.Sign) args9 {
	inputs, steps := d.derived(s, 8)
	return args9{s: s, inputs: madeRows(inputs), steps: steps, k: d.below(len(steps))}
}

// eachStep9 adds changes that put a value, mostly an invalid one, for something of the first, a middle or the last step.
func eachStep9(add func(change func(x *args9))) {
	for _, part := range []int{0, 1, 2} {
		put := func(change func(y *impl.Step)) {
			add(func(x *args9) {
				if len(x.steps) > 0 {
					change(&x.steps[part*(len(x.steps)-1)/2])
				}
			})
		}
		for _, n := range []int{leastInt, -1 << 32, -2, -1, 0, 1, 2, 3, 4, 5, 6, 11, 199, 200, 1 << 32, greatestInt} {
			put(func(y *impl.Step) { y.Rule = n })
			put(func(y *impl.Step) { y.Parents = append(y.Parents, n) })
			put(func(y *impl.Step) { y.Way = append(y.Way, n) })
			put(func(y *impl.Step) { y.Parents, y.Way = []int{n}, []int{n} })
		}
		for n := range 6 {
			put(func(y *impl.Step) { y.Parents = make([]int, n) })
			put(func(y *impl.Step) { y.Way = make([]int, n) })
		}
		put(func(y *impl.Step) { *y = impl.Step{} })
		for _, text := range []string{"-", "a=a", "a#a", "A#A", "A=B", "L=a", "A=a|B#a|C=D"} {
			put(func(y *impl.Step) { y.Clause = clause(text) })
		}
		for i, c := range badClauses() {
			if i%3 == part {
				put(func(y *impl.Step) { y.Clause = c })
			}
		}
	}
}

// changes9 put another value, mostly an invalid one, for each of the arguments.
func changes9() []func(x *args9) {
	changes := []func(x *args9){func(x *args9) {}, func(x *args9) {}}
	add := func(change func(x *args9)) { changes = append(changes, change) }
	for _, s := range append(badSigns()[:8], sampleSign(), mixedSign(), constants(10)) {
		add(func(x *args9) { x.s = s })
	}
	for _, text := range []string{"", "-", "a=a", "a#a", "A#A", "a=A", "A=B", "A=a|B#a|C=D", "- - a=a", "a=a a#a A=a|B#a"} {
		add(func(x *args9) { x.inputs = clauses(text) })
		add(func(x *args9) { x.inputs = append(x.inputs, clauses(text)...) })
		add(func(x *args9) { x.steps = stepsOf(clauses(text)) })
		add(func(x *args9) { x.steps = append(x.steps, stepsOf(clauses(text))...) })
	}
	for i, c := range badClauses() {
		if i%4 == 0 {
			add(func(x *args9) { x.inputs = append(x.inputs, c) })
			add(func(x *args9) { x.steps = append(x.steps, impl.Step{Clause: c}) })
		}
	}
	for _, n := range []int{0, 1, 11, 12, 13, 100, 200, 201} {
		add(func(x *args9) { x.inputs = slices.Repeat(clauses("a=a"), n) })
		add(func(x *args9) { x.steps = slices.Repeat(derivation("input : 0 : a=a"), n) })
		add(func(x *args9) { x.steps = append(x.steps, slices.Repeat(derivation("normal 0 : : -"), n)...) })
		add(func(x *args9) {
			x.inputs, x.steps = clauses("- a=a"), slices.Repeat(derivation("input : 1 : a=a; input : 0 : -"), n)
		})
	}
	for _, n := range []int{leastInt, -1 << 32, -2, -1, 0, 1, 2, 3, 4, 5, 6, 8, 11, 199, 200, 1 << 32, greatestInt} {
		add(func(x *args9) { x.k = n })
		add(func(x *args9) { x.k += n })
		add(func(x *args9) { x.steps, x.k = x.steps[:min(max(n, 0), len(x.steps))], n-1 })
	}
	eachStep9(add)
	return changes
}

// eachArgs9 visits ordinary arguments, and ones with one that is invalid or very large.
func eachArgs9(visit func(x args9)) {
	d := &dice{state: 106}
	changes := changes9()
	for i := range 6 {
		s := d.sign()
		if i%2 > 0 {
			s = impl.Sign{Arity: [][]int{{0}, {0, 0, 1}, {0, 2}, {0, 3}, {0, 1, 1}, {0, 0, 0, 1, 1, 2}}[d.below(6)]}
		}
		for _, change := range changes {
			x := d.goodArgs9(s)
			change(&x)
			visit(x)
		}
	}
}

func TestPromise19AllArguments9(t *testing.T) {
	checkArguments(t, calls9(), eachArgs9, wanted9, atLeast{500, 200, 100})
}

func (x args9) clauses() [][]impl.Lit {
	return slices.Concat(x.inputs[:cap(x.inputs)], clausesOf(x.steps[:cap(x.steps)]))
}

func (x args9) guarded() (args9, []*guard) {
	arity := guarded(x.s.Arity)
	inputs, guards := guardedClauses(x.inputs, []*guard{arity})
	steps, guards := guardedSteps(x.steps, guards)
	return args9{s: impl.Sign{Arity: arity.list}, inputs: inputs, steps: steps, k: x.k}, guards
}

// lists is a text of all lists of lists among the arguments.
func (x args9) lists() string { return fmt.Sprint(x.inputs[:cap(x.inputs)], x.steps[:cap(x.steps)]) }

func TestPromise19Memory9(t *testing.T) {
	calls, i := watched(t, calls9()), 0
	eachArgs9(func(x args9) {
		// Two calls for each combination, so that each function gets many of them in little time.
		for range 2 {
			checkKept(t, calls[i%len(calls)], x)
			i += 5
		}
	})
}

// TestPromise19Own9: results have memory of their own, also where parts of the arguments share it, and may be overwritten
// without an effect on later results.
func TestPromise19Own9(t *testing.T) {
	w, v, zeros := term("d(e(b))"), []int{-1}, []int{0}
	same := []impl.Lit{{Pos: true, L: w, R: v}, {Pos: false, L: v, R: w}, {Pos: true, L: w, R: v}}
	first := impl.Step{Rule: impl.StInput, Way: zeros, Clause: same[:2]}
	next := impl.Step{Rule: impl.StNormal, Parents: zeros, Way: zeros, Clause: same}
	last := impl.Step{Rule: impl.StResolve, Parents: []int{1, 1, 2}, Way: zeros}
	x := args9{s: sampleSign(), inputs: [][]impl.Lit{same, same}, k: 3}
	x.steps = []impl.Step{first, next, next, last, last}
	checkRepeated(t, calls9(), x, wanted9, "")
	x.steps, x.k = []impl.Step{first, last, first, next, next}, 1
	x.steps[1].Parents = zeros
	checkRepeated(t, calls9(), x, wanted9, "")
	x.inputs, x.steps, x.k = checkedInputs(), checkedSteps(), 3
	x.steps[0].Clause, x.steps[2].Clause = x.inputs[0], x.inputs[2]
	checkRepeated(t, calls9(), x, wanted9, "")
	if !slices.Equal(w, term("d(e(b))")) || !slices.Equal(v, []int{-1}) || !slices.Equal(zeros, []int{0}) {
		t.Error("an argument is modified", w, v, zeros)
	}
}

// TestPromise19Self9: one list may be several arguments, or stand several times in one.
func TestPromise19Self9(t *testing.T) {
	zeros := make([]int, 10)
	s := impl.Sign{Arity: zeros}
	same := impl.Lit{Pos: true, L: zeros[:1], R: zeros[:1]}
	c := []impl.Lit{same, {Pos: false, L: zeros[:1], R: zeros[:1]}}
	step := impl.Step{Rule: impl.StInput, Parents: zeros[:0], Way: zeros[:1], Clause: c[:1]}
	end := impl.Step{Rule: impl.StNormal, Parents: zeros[:1], Way: zeros[:0], Clause: c[:0]}
	steps := []impl.Step{step, step, end, end}
	for range 2 {
		if code, at, ok := impl.CheckSteps(s, [][]impl.Lit{c, c}, steps[:2]); code != impl.ChNone || at != 0 || !ok {
			t.Error("CheckSteps", code, at, ok)
		}
		if code, at, ok := impl.CheckSteps(s, [][]impl.Lit{c, c}, steps); code != impl.ChClause || at != 2 || !ok {
			t.Error("CheckSteps", code, at, ok)
		}
		if l, ok := impl.NeededBy(s, steps, 3); !slices.Equal(l, []int{0, 3}) || !ok {
			t.Error("NeededBy", l, ok)
		}
		if k, ok := impl.FirstEmpty(s, steps); k != 2 || !ok {
			t.Error("FirstEmpty", k, ok)
		}
		if l, ok := impl.TrimSteps(s, steps); !sameSteps(l, []impl.Step{step, end}) || !ok {
			t.Error("TrimSteps", l, ok)
		}
		if l, ok := impl.InputsOf(s, steps); !slices.Equal(l, zeros[:1]) || !ok {
			t.Error("InputsOf", l, ok)
		}
		if is, ok := impl.IsRefuted(s, [][]impl.Lit{c[1:], c}, slices.Concat(steps[3:3], []impl.Step{{Rule: impl.StInput, Way: zeros[:1]}})); !is || !ok {
			t.Error("IsRefuted", is, ok)
		}
	}
	if !slices.Equal(zeros, make([]int, 10)) || !sameClauses(c, clause("a=a|a#a")) {
		t.Error("an argument is modified", zeros, c)
	}
	// A derivation whose inputs are its own clauses.
	r, _ := impl.Prove(sampleSign(), exampleInputs(), 10)
	for n := range 4 {
		code, at, ok := impl.CheckSteps(sampleSign(), clausesOf(r.Steps[:n]), r.Steps)
		if want := min(n, 2); code != []int{impl.ChMade, impl.ChMade, impl.ChNone}[want] || at != []int{0, 1, 0}[want] || !ok {
			t.Error("CheckSteps", n, code, at, ok)
		}
	}
}

// TestPromise19Capacity9: what stands behind the length would change the result, but is not read.
func TestPromise19Capacity9(t *testing.T) {
	s := sampleSign()
	inputs, steps := checkedInputs(), checkedSteps()
	steps = append(steps, impl.Step{Rule: 9, Parents: []int{-1}, Clause: []impl.Lit{{}}})
	long := derivation("input 1 : 0 1 : d(A)=b|b=c; normal 0 1 : 0 : b=b")
	long[0].Parents, long[0].Way, long[0].Clause = long[0].Parents[:0], long[0].Way[:1], long[0].Clause[:1]
	long[1].Parents, long[1].Way, long[1].Clause = long[1].Parents[:1], long[1].Way[:0], long[0].Clause
	empty := copiedSteps(long)
	empty[1].Clause = clause("b=c")[:0]
	for range 2 {
		if code, at, ok := impl.CheckSteps(s, inputs, steps[:4]); code != impl.ChNone || at != 0 || !ok {
			t.Error("CheckSteps reads behind the steps", code, at, ok)
		}
		if code, at, ok := impl.CheckSteps(s, inputs[:2], steps[:4]); code != impl.ChMade || at != 2 || !ok {
			t.Error("CheckSteps reads behind the inputs", code, at, ok)
		}
		if code, at, ok := impl.CheckSteps(s, inputs, long); code != impl.ChNone || at != 0 || !ok {
			t.Error("CheckSteps reads behind a list of a step", code, at, ok)
		}
		if l, ok := impl.NeededBy(s, steps[:4], 3); !slices.Equal(l, []int{0, 2, 3}) || !ok {
			t.Error("NeededBy reads behind the steps", l, ok)
		}
		if l, ok := impl.NeededBy(s, steps[:3], 3); l != nil || ok {
			t.Error("NeededBy reads behind the steps", l, ok)
		}
		if k, ok := impl.FirstEmpty(s, steps[:3]); k != 0 || ok {
			t.Error("FirstEmpty reads behind the steps", k, ok)
		}
		if k, ok := impl.FirstEmpty(s, empty); k != 1 || !ok {
			t.Error("FirstEmpty reads behind a clause", k, ok)
		}
		if l, ok := impl.TrimSteps(s, empty); !sameSteps(l, derivation("input : 0 : d(A)=b; normal 0 : : -")) || !ok {
			t.Error("TrimSteps reads behind a list of a step", l, ok)
		}
		if l, ok := impl.TrimSteps(s, steps[:3]); l != nil || ok {
			t.Error("TrimSteps reads behind the steps", l, ok)
		}
		if l, ok := impl.InputsOf(s, slices.Concat(long, steps)[:2]); !slices.Equal(l, []int{0}) || !ok {
			t.Error("InputsOf reads behind the steps", l, ok)
		}
		if is, ok := impl.IsRefuted(s, inputs, steps[:4]); !is || !ok {
			t.Error("IsRefuted reads behind the steps", is, ok)
		}
	}
	if !slices.EqualFunc(inputs, checkedInputs(), sameClauses) || !sameSteps(steps[:4], checkedSteps()) {
		t.Error("an argument is modified behind the length", inputs, steps)
	}
}

// TestPromise19Huge9: arguments far above the limits. Lists of parents and ways have no limit of their own.
func TestPromise19Huge9(t *testing.T) {
	huge := make([]int, 1<<20)
	long := []impl.Lit{{Pos: true, L: huge, R: huge}}
	changes := []func(x *args9){
		func(x *args9) {},
		func(x *args9) { x.s.Arity = huge },
		func(x *args9) { x.inputs = slices.Repeat(clauses("b=c"), 1<<20) },
		func(x *args9) { x.inputs = append(checkedInputs(), long) },
		func(x *args9) { x.inputs = [][]impl.Lit{slices.Repeat(clause("b=c"), 1<<20)} },
		func(x *args9) { x.steps = slices.Repeat(checkedSteps(), 1<<18) },
		func(x *args9) { x.steps = make([]impl.Step, 1<<20) },
		func(x *args9) { x.steps[0].Clause = long },
		func(x *args9) { x.steps[3].Clause = long },
		func(x *args9) { x.steps[1].Clause = slices.Repeat(clause("c=b"), 1<<20) },
		func(x *args9) { x.steps[3].Parents = huge },
		func(x *args9) { x.steps[3].Parents = append(slices.Clone(huge), 2, 1, 0) },
		func(x *args9) { x.steps[3].Parents = append(slices.Clone(huge), 3) },
		func(x *args9) { x.steps[0].Parents = huge },
		func(x *args9) { x.steps[0].Way = huge },
		func(x *args9) { x.steps[3].Way = huge },
		func(x *args9) { x.steps[2].Rule = 1 << 62 },
		func(x *args9) { x.k = 1 << 62 },
		func(x *args9) { x.k = -1 << 62 },
	}
	for i, change := range changes {
		changes[i] = func(x *args9) {
			x.inputs, x.steps = checkedInputs(), checkedSteps()
			change(x)
		}
	}
	checkChanged(t, calls9(), args9{s: sampleSign(), k: 3}, changes, wanted9)
}
