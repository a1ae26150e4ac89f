package tests

import (
	"slices"
	"testing"

	"loop.example/g00682/impl"
)

func madeRows(rows [][]lit) [][]impl.Lit {
	var l [][]impl.Lit
	for _, row := range rows {
		l = append(l, madeOf(row))
	}
	return l
}

// checkHolds calls CheckSteps. If the steps are accepted, it reports a step that does not hold in some model of the inputs, and
// what is wrong with the trimmed steps. Clauses with many variables are not evaluated.
func (x *truths) checkHolds(t *testing.T, inputs [][]lit, steps []impl.Step) bool {
	t.Helper()
	l := madeRows(inputs)
	code, at, ok := impl.CheckSteps(x.s, l, steps)
	if want, k := faultOf(x.s, inputs, steps); code != want || at != k || !ok {
		t.Fatalf("CheckSteps(%v, %v, %v): %d, %d, %v instead of %d, %d", x.s, l, steps, code, at, ok, want, k)
	}
	x.checkTrimmed(t, inputs, steps, code == impl.ChNone)
	if code != impl.ChNone {
		return false
	}
	if !slices.ContainsFunc(inputs, hasManyVars) {
		for i, step := range steps {
			if !hasManyVars(rowOf(x.s, step.Clause)) {
				x.check(t, ruleWords()[step.Rule], i, impl.InDone, step.Clause, inputs...)
			}
		}
	}
	return true
}

// checkTrimmed reports trimmed steps that are not accepted although all steps are, that are not all needed, or whose inputs have
// a model although they are accepted.
func (x *truths) checkTrimmed(t *testing.T, inputs [][]lit, steps []impl.Step, accepted bool) {
	t.Helper()
	l := madeRows(inputs)
	empty := slices.ContainsFunc(steps, isEmptyStep)
	if is, ok := impl.IsRefuted(x.s, l, steps); is != (accepted && empty) || ok != goodLinks(x.s, steps) {
		t.Fatalf("IsRefuted(%v, %v, %v): %v, %v", x.s, l, steps, is, ok)
	}
	trimmed, ok := impl.TrimSteps(x.s, steps)
	if ok != (empty && goodLinks(x.s, steps)) || !ok && trimmed != nil {
		t.Fatalf("TrimSteps(%v, %v): %v, %v", x.s, steps, trimmed, ok)
	}
	if !ok {
		return
	}
	if want := trimmedOf(steps); !sameSteps(trimmed, want) {
		t.Fatalf("TrimSteps(%v, %v): %v instead of %v", x.s, steps, trimmed, want)
	}
	last := len(trimmed) - 1
	if k, ok := impl.FirstEmpty(x.s, trimmed); k != last || !ok {
		t.Fatalf("FirstEmpty of TrimSteps(%v, %v): %d, %v", x.s, steps, k, ok)
	}
	if needed, ok := impl.NeededBy(x.s, trimmed, last); len(needed) != last+1 || !ok {
		t.Fatalf("NeededBy of TrimSteps(%v, %v): %v, %v", x.s, steps, needed, ok)
	}
	code, at, _ := impl.CheckSteps(x.s, l, trimmed)
	is, _ := impl.IsRefuted(x.s, l, trimmed)
	if accepted && (code != impl.ChNone || !is) || is != (code == impl.ChNone) {
		t.Fatalf("TrimSteps(%v, %v) for %v: CheckSteps returns %d, %d, and IsRefuted %v", x.s, steps, l, code, at, is)
	}
	if len(trimmed) < len(steps) && is {
		x.seen["trimmed"]++
	}
	used, _ := impl.InputsOf(x.s, trimmed)
	if !is {
		return
	}
	x.seen["refuted"]++
	var some [][]lit
	for _, k := range used {
		some = append(some, inputs[k])
	}
	if !slices.ContainsFunc(some, hasManyVars) && x.hasModel(some) {
		t.Fatalf("TrimSteps(%v, %v) refutes inputs %v of %v, but there is a model", x.s, steps, used, l)
	}
}

// checkChanges changes an accepted derivation in several ways. What is still accepted must hold, too.
func (x *truths) checkChanges(t *testing.T, d *dice, inputs [][]lit, steps []impl.Step, many int) {
	t.Helper()
	for range many {
		wrong := d.changedStep(steps)
		if sameSteps(wrong, steps) {
			continue
		}
		if x.checkHolds(t, inputs, wrong) {
			x.seen["accepted"]++
			continue
		}
		x.seen["rejected"]++
		follows := func(step impl.Step) bool {
			row, good := goodLits(x.s, step.Clause)
			return !good || hasManyVars(row) || x.follows(row, inputs)
		}
		if !slices.ContainsFunc(inputs, hasManyVars) && slices.ContainsFunc(wrong, func(step impl.Step) bool { return !follows(step) }) {
			x.seen["unsound"]++
		}
	}
}

// follows reports whether the clause holds in all models of the premises.
func (x *truths) follows(row []lit, premises [][]lit) bool {
	holds := x.of(row)
	for i := range x.all {
		if !holds[i] && !slices.ContainsFunc(premises, func(p []lit) bool { return !x.of(p)[i] }) {
			return false
		}
	}
	return true
}

// checkedEnough expects that many informative steps of each rule and results of most kinds. Few changes leave a derivation
// accepted, or lead to a clause that does not follow.
func (x *truths) checkedEnough(t *testing.T, many int, rules ...string) {
	t.Helper()
	x.informed(t, many, rules...)
	for kind, least := range map[string]int{"trimmed": many, "refuted": many, "rejected": many, "accepted": many / 5, "unsound": many / 2} {
		if x.seen[kind] < least {
			t.Errorf("too few results of the kind %s: %v", kind, x.seen)
		}
	}
}

// TestPromise9Small: derivations from up to four small clauses, over all worlds of at most 3 elements.
func TestPromise9Small(t *testing.T) {
	x := truthsOf(impl.Sign{Arity: []int{0, 0, 1}}, 3)
	all := smallClauses(x.s)
	d := &dice{state: 101}
	for range 500 {
		g := &grower{s: x.s}
		for range 1 + d.below(4) {
			g.inputs = append(g.inputs, all[d.below(len(all))])
		}
		g.grow(d, 30)
		if !x.checkHolds(t, g.inputs, g.steps) {
			t.Fatalf("CheckSteps(%v, %v) rejects what the second implementation derives", madeRows(g.inputs), g.steps)
		}
		x.checkChanges(t, d, g.inputs, g.steps, 6)
	}
	x.checkedEnough(t, 100, ruleWords()[1:]...)
}

// TestPromise9Large: derivations from larger clauses, over worlds of several signatures.
func TestPromise9Large(t *testing.T) {
	d := &dice{state: 102}
	all := soundSigns()
	for _, x := range all {
		for range 80 {
			inputs, steps := d.derived(x.s, 50)
			if !x.checkHolds(t, inputs, steps) {
				t.Fatalf("CheckSteps(%v, %v) rejects what the second implementation derives", madeRows(inputs), steps)
			}
			x.checkChanges(t, d, inputs, steps, 4)
			clear(x.known)
		}
	}
	totalOf(all).checkedEnough(t, 40, ruleWords()[1:]...)
}

// TestPromise9Proved: derivations that Prove returns, and changed ones.
func TestPromise9Proved(t *testing.T) {
	d := &dice{state: 103}
	all := soundSigns()
	for _, x := range all {
		for range 200 {
			inputs := d.conflict(x.s, 3)
			for i, row := range inputs {
				inputs[i] = threeVars(row)
			}
			r, ok := impl.Prove(x.s, madeRows(inputs), d.below(12))
			if !ok || !x.checkHolds(t, inputs, r.Steps) {
				t.Fatalf("CheckSteps rejects what Prove returns for %v: %v", madeRows(inputs), r.Steps)
			}
			if r.Code == impl.PvNo {
				if is, ok := impl.IsRefuted(x.s, madeRows(inputs), r.Steps); !is || !ok {
					t.Fatalf("IsRefuted of what Prove returns for %v: %v, %v", madeRows(inputs), is, ok)
				}
			}
			x.checkChanges(t, d, inputs, r.Steps, 3)
			clear(x.known)
		}
	}
	totalOf(all).checkedEnough(t, 50, "input", "super", "normal")
}

// TestPromise9Prefix: the beginning of an accepted derivation is accepted, and so are the steps that one of them needs.
func TestPromise9Prefix(t *testing.T) {
	d := &dice{state: 104}
	seen := map[bool]int{}
	for range 300 {
		s := d.sign()
		inputs, steps := d.derived(s, 30)
		l := madeRows(inputs)
		for k := range len(steps) + 1 {
			if code, at, ok := impl.CheckSteps(s, l, steps[:k]); code != impl.ChNone || at != 0 || !ok {
				t.Fatalf("CheckSteps(%v, %v, %v): %d, %d, %v", s, l, steps[:k], code, at, ok)
			}
		}
		for k := range steps {
			// With this step as the only one with an empty clause, trimming keeps the steps that it needs.
			marked := copiedSteps(steps[:k+1])
			if slices.ContainsFunc(marked[:k], isEmptyStep) {
				break
			}
			marked[k].Clause = nil
			part, ok := impl.TrimSteps(s, marked)
			needed, ok2 := impl.NeededBy(s, steps, k)
			if !ok || !ok2 || len(part) != len(needed) || !slices.Equal(needed, neededOf(steps, k)) {
				t.Fatalf("TrimSteps(%v, %v): %v, %v, but NeededBy %d: %v, %v", s, marked, part, ok, k, needed, ok2)
			}
			part[len(part)-1].Clause = steps[k].Clause
			if code, at, ok := impl.CheckSteps(s, l, part); code != impl.ChNone || at != 0 || !ok {
				t.Fatalf("CheckSteps(%v, %v, %v): %d, %d, %v", s, l, part, code, at, ok)
			}
			seen[len(needed) < k+1]++
		}
	}
	if seen[true] < 1000 || seen[false] < 300 {
		t.Error("too few cases of a kind", seen)
	}
}

// TestCheckLarge compares all functions with the second implementation, for many signatures and changed derivations.
func TestCheckLarge(t *testing.T) {
	d := &dice{state: 105}
	codes, long := map[int]int{}, 0
	for i := range 3000 {
		s := d.sign()
		inputs, steps := d.derived(s, 20+200*(i%20/19))
		for range d.below(4) {
			steps = d.changedStep(steps)
		}
		code, at := faultOf(s, inputs, steps)
		if n, k, ok := impl.CheckSteps(s, madeRows(inputs), steps); n != code || k != at || !ok {
			t.Fatalf("CheckSteps(%v, %v, %v): %d, %d, %v instead of %d, %d", s, madeRows(inputs), steps, n, k, ok, code, at)
		}
		codes[code]++
		if at > 20 {
			long++
		}
		if !goodLinks(s, steps) {
			codes[-1]++
			continue
		}
		for k := range steps {
			if got, ok := impl.NeededBy(s, steps, k); !slices.Equal(got, neededOf(steps, k)) || !ok {
				t.Fatalf("NeededBy(%v, %v, %d): %v, %v", s, steps, k, got, ok)
			}
		}
		if got, ok := impl.InputsOf(s, steps); !slices.Equal(got, numbersIn(steps)) || !ok {
			t.Fatalf("InputsOf(%v, %v): %v, %v", s, steps, got, ok)
		}
		want := trimmedOf(steps)
		if got, ok := impl.TrimSteps(s, steps); !sameSteps(got, want) || ok != (want != nil) {
			t.Fatalf("TrimSteps(%v, %v): %v, %v", s, steps, got, ok)
		}
		if want != nil {
			codes[-2]++
		}
	}
	if codes[impl.ChNone] < 500 || codes[impl.ChParent] < 200 || codes[impl.ChMade] < 500 || codes[impl.ChClause] < 200 || codes[-1] < 200 || codes[-2] < 500 || long < 50 {
		t.Error("too few cases of a kind", codes, long)
	}
}
