package tests

import (
	"slices"
	"testing"

	"loop.example/g00682/impl"
)

// checkDerivation reports a result of Prove that is no accepted derivation, or whose code does not fit the steps.
func checkDerivation(t *testing.T, s impl.Sign, inputs [][]impl.Lit, r impl.Result) {
	t.Helper()
	for i, x := range r.Steps {
		if got, ok := impl.MakeStep(s, inputs, r.Steps[:i], x.Rule, x.Parents, x.Way); !sameStep(got, x) || !ok {
			t.Fatalf("Prove(%v, %v): step %d is %v, but MakeStep makes %v, %v", s, inputs, i, x, got, ok)
		}
		if input := i < len(inputs); input != (x.Rule == impl.StInput) || input && x.Way[0] != i {
			t.Fatalf("Prove(%v, %v): step %d of %d inputs is %v", s, inputs, i, len(inputs), x)
		}
	}
	if len(r.Steps) < len(inputs) || len(r.Steps) > 200 {
		t.Fatalf("Prove(%v, %v): %d steps", s, inputs, len(r.Steps))
	}
	checkGenerated(t, s, r.Steps)
	checkCode(t, s, inputs, r)
	checkActive(t, s, inputs, r)
}

// checkGenerated reports a generated step that violates an ordering restriction, is a tautology or repeats an earlier step.
func checkGenerated(t *testing.T, s impl.Sign, steps []impl.Step) {
	t.Helper()
	at, single, into := map[int][]int{}, map[int][]impl.Way{}, map[[2]int][]impl.Way{}
	earlier := map[string]bool{}
	for i, x := range steps {
		row := rowOf(s, x.Clause)
		text := textOfLits(row)
		if x.Rule != impl.StInput && x.Rule != impl.StNormal {
			first, last := x.Parents[0], x.Parents[len(x.Parents)-1]
			pair := [2]int{first, last}
			if _, known := into[pair]; !known {
				at[first], single[first], _ = impl.SingleWays(s, steps[first].Clause)
				into[pair], _ = impl.WaysInto(s, steps[first].Clause, steps[last].Clause)
			}
			possible := map[int]bool{
				impl.StResolve: slices.Contains(at[first], x.Way[0]),
				impl.StFactor:  slices.Contains(single[first], wayOf(x.Way...)),
				impl.StSuper:   slices.Contains(into[pair], wayOf(x.Way...)),
			}
			if !possible[x.Rule] || isTautology(row) || earlier[text] {
				t.Fatalf("step %d is not to be generated: %v", i, steps[:i+1])
			}
		}
		earlier[text] = true
	}
}

func isEmptyStep(x impl.Step) bool { return len(x.Clause) == 0 }

func checkCode(t *testing.T, s impl.Sign, inputs [][]impl.Lit, r impl.Result) {
	t.Helper()
	empty := slices.ContainsFunc(r.Steps, isEmptyStep)
	generated := slices.ContainsFunc(r.Steps[len(inputs):], isEmptyStep)
	switch {
	case r.Code == impl.PvNo && !empty:
		t.Fatalf("Prove(%v, %v): PvNo without the empty clause", s, inputs)
	case r.Code == impl.PvNo && generated && !isEmptyStep(r.Steps[len(r.Steps)-1]):
		t.Fatalf("Prove(%v, %v): steps after the empty clause", s, inputs)
	case r.Code == impl.PvSat && empty, r.Code == impl.PvOut && generated:
		t.Fatalf("Prove(%v, %v): the empty clause with the code %d", s, inputs, r.Code)
	case r.Code < impl.PvNo || r.Code > impl.PvOut:
		t.Fatalf("Prove(%v, %v): the code %d", s, inputs, r.Code)
	}
}

// checkActive reports active steps that are redundant when they become active, and inferences from them that are missing if
// the result is PvSat.
func checkActive(t *testing.T, s impl.Sign, inputs [][]impl.Lit, r impl.Result) {
	t.Helper()
	var before [][]impl.Lit
	for i, k := range r.Active {
		if k < 0 || k >= len(r.Steps) || slices.Contains(r.Active[:i], k) || isEmptyStep(r.Steps[k]) {
			t.Fatalf("Prove(%v, %v): the active steps %v", s, inputs, r.Active)
		}
		c := r.Steps[k].Clause
		if is, ok := impl.IsRedundant(s, c, before); is || !ok {
			t.Fatalf("Prove(%v, %v): the active step %d is redundant", s, inputs, k)
		}
		before = append(before, c)
	}
	if r.Code != impl.PvSat {
		return
	}
	known := map[string]bool{}
	for _, x := range r.Steps {
		known[textOfLits(rowOf(s, x.Clause))] = true
	}
	for _, c := range conclusionsOf(s, before) {
		if row := rowOf(s, c); !isTautology(row) && !known[textOfLits(row)] {
			t.Fatalf("Prove(%v, %v): %s does not follow in a step", s, inputs, textOfLits(row))
		}
	}
}

// conclusionsOf are those of all inferences from clauses that satisfy the ordering restrictions.
func conclusionsOf(s impl.Sign, l [][]impl.Lit) (all [][]impl.Lit) {
	for _, c := range l {
		at, ways, _ := impl.SingleWays(s, c)
		for _, i := range at {
			e, _, _ := impl.Resolve(s, c, i)
			all = append(all, e)
		}
		for _, w := range ways {
			e, _, _ := impl.Factor(s, c, w)
			all = append(all, e)
		}
		for _, d := range l {
			ways, _ := impl.WaysInto(s, c, d)
			for _, w := range ways {
				e, _, _ := impl.Superpose(s, c, d, w)
				all = append(all, e)
			}
		}
	}
	return all
}

// checkProof runs Prove and reports a step that does not hold wherever its parents do, PvNo for inputs that have a model, and
// inputs that do not hold wherever the active clauses of PvSat do. Clauses with many variables are not evaluated.
func (x *truths) checkProof(t *testing.T, inputs [][]lit, fuel int) impl.Result {
	t.Helper()
	var l [][]impl.Lit
	for _, row := range inputs {
		l = append(l, madeOf(row))
	}
	r, ok := impl.Prove(x.s, l, fuel)
	if !ok {
		t.Fatalf("Prove(%v, %v, %d) fails", x.s, l, fuel)
	}
	checkDerivation(t, x.s, l, r)
	var rows, active [][]lit
	for i, step := range r.Steps {
		row := rowOf(x.s, step.Clause)
		rows = append(rows, row)
		premises := [][]lit{}
		for _, p := range step.Parents {
			premises = append(premises, rows[p])
		}
		if step.Rule == impl.StInput {
			premises = append(premises, inputs[i])
		}
		if !slices.ContainsFunc(append(premises, row), hasManyVars) {
			x.check(t, ruleWords()[step.Rule], i, impl.InDone, step.Clause, premises...)
		}
	}
	for _, k := range r.Active {
		active = append(active, rows[k])
	}
	has := x.hasModel(inputs)
	switch {
	case r.Code == impl.PvNo && has:
		t.Fatalf("Prove(%v, %v, %d): PvNo, but there is a model", x.s, l, fuel)
	case r.Code == impl.PvNo:
		x.seen["refuted"]++
	case r.Code == impl.PvSat && has && !slices.ContainsFunc(slices.Concat(active, inputs), hasManyVars):
		x.seen["saturated"]++
		for _, row := range inputs {
			x.check(t, "saturated", row, impl.InDone, madeOf(row), active...)
		}
	}
	return r
}

func hasManyVars(row []lit) bool { return len(varsOfLits(row)) > 4 }

// total adds the counts of several signatures.
func totalOf(all []*truths) *truths {
	total := &truths{seen: map[string]int{}}
	for _, x := range all {
		for kind, n := range x.seen {
			total.seen[kind] += n
		}
	}
	return total
}

// hasModel reports whether some of the models is one of all these clauses.
func (x *truths) hasModel(rows [][]lit) bool {
	return slices.ContainsFunc(x.all, func(m model) bool {
		return !slices.ContainsFunc(rows, func(row []lit) bool { return !m.holdsAlways(row) })
	})
}

// TestProveOrdinary: ordinary problems, with the second implementation.
func TestProveOrdinary(t *testing.T) {
	group := "f(a,A)=A f(d(A),A)=a f(f(A,B),C)=f(A,f(B,C)) "
	less := "f(A,B)#b|f(B,C)#b|f(A,C)=b " // f(A,B)=b says that A is related to B
	two := "A=b|A=c "
	tests := []struct {
		inputs     string
		fuel, code int
	}{
		{"d(a)=b d(b)=c d(c)=a d(d(d(d(a))))#b", 40, impl.PvNo},
		{"d(a)=b d(b)=c d(c)=a d(d(d(d(a))))=b", 40, impl.PvSat},
		{"d(d(d(A)))=A d(d(A))=A d(b)#b", 40, impl.PvNo},
		{"d(d(d(d(A))))=A d(d(A))=A d(b)#b", 40, impl.PvSat},
		{"e(d(A))=A d(b)=d(c) b#c", 40, impl.PvNo},
		{"e(d(A))=A e(b)=e(c) b#c", 40, impl.PvSat},
		{"A=B|d(A)#d(B) d(b)=d(c) b#c", 40, impl.PvNo},
		{"A=B|d(A)#d(B) d(b)=d(c)", 40, impl.PvSat},
		{"A=B|d(A)#d(B) d(A)#a", 40, impl.PvSat}, // the models are infinite
		{"A=B|d(A)#d(B) d(A)#a d(b)=a", 40, impl.PvNo},
		{less + "f(a,b)=b f(b,c)=b f(a,c)#b", 40, impl.PvNo},
		{less + "f(A,B)#b|f(B,A)=b f(a,b)=b f(a,a)#b", 40, impl.PvNo},
		{"f(A,A)=a f(a,A)=A f(A,a)=A f(f(A,B),C)=f(A,f(B,C)) f(b,c)#f(c,b)", 40, impl.PvNo},
		{"f(A,A)=A f(A,B)=f(B,A) f(A,f(B,C))=f(f(A,B),C) f(b,f(c,b))#f(b,c)", 40, impl.PvNo},
		{"f(A,B)=f(B,A) f(a,A)=A f(b,a)#b", 40, impl.PvNo},
		{"f(A,B)=f(B,A) f(a,A)=A f(b,a)=c", 40, impl.PvSat},
		{"f(A,B)=f(B,A) f(A,f(B,C))=f(f(A,B),C) f(b,f(c,a))#f(a,f(c,b))", 40, impl.PvOut},
		{group + "f(b,c)#f(c,b)", 12, impl.PvOut},
		{group + "f(d(b),f(b,c))#c", 40, impl.PvNo},
		{group + "f(b,d(b))#a", 40, impl.PvOut},
		{two + "b#c d(b)=c d(c)=b d(A)=A", 40, impl.PvNo},
		{two + "b#c d(A)#A d(b)#c", 40, impl.PvNo},
		{two + "a=b d(A)=A", 10, impl.PvOut},
		{"A=B|C=D b#c", 40, impl.PvSat}, // there is no model, but the first clause subsumes each of its factors
		{"b=a|c=a b#a c#a", 40, impl.PvNo},
		{"b=a|c=a b#a|c#a b=a|c#a b#a|c=a", 40, impl.PvNo},
		{"b=a|c=a b#a|c#a b=a|c#a", 40, impl.PvSat},
	}
	for _, c := range tests {
		s, inputs := sampleSign(), clauses(c.inputs)
		r, ok := impl.Prove(s, inputs, c.fuel)
		if r.Code != c.code || !ok {
			t.Errorf("Prove(%s, %d): %d with %d steps, %v", c.inputs, c.fuel, r.Code, len(r.Steps), ok)
		}
		checkDerivation(t, s, inputs, r)
		rows, _ := goodRows(s, inputs, 12)
		if want := provedLits(s, rows, c.fuel); !sameResults(r, want) {
			t.Errorf("Prove(%s, %d): %v instead of %v", c.inputs, c.fuel, r, want)
		}
	}
}

// provedEnough expects that many informative steps of each rule, and results of each kind.
func (x *truths) provedEnough(t *testing.T, many int, rules ...string) {
	t.Helper()
	x.informed(t, many, rules...)
	if x.seen["refuted"] < many || x.seen["saturated"] < many || x.seen["saturated, done"] < many {
		t.Error("too few results of a kind", x.seen)
	}
}

// TestPromise8Small: up to four small clauses, over all worlds of at most 3 elements.
func TestPromise8Small(t *testing.T) {
	x := truthsOf(impl.Sign{Arity: []int{0, 0, 1}}, 3)
	all := smallClauses(x.s)
	d := &dice{state: 91}
	for range 3000 {
		var inputs [][]lit
		for range 1 + d.below(4) {
			inputs = append(inputs, all[d.below(len(all))])
		}
		x.checkProof(t, inputs, d.below(8))
	}
	x.provedEnough(t, 100, "input", "super", "normal")
}

// TestPromise8Large: larger clauses, over worlds of several signatures.
func TestPromise8Large(t *testing.T) {
	d := &dice{state: 92}
	all := soundSigns()
	for _, x := range all {
		for range 700 {
			var inputs [][]lit
			for range 1 + d.below(3) {
				c, e, _ := d.premises(x.s, 4)
				single, _ := d.single(x.s, 3)
				inputs = append(inputs, [][]lit{threeVars(c), threeVars(e), threeVars(single)}[d.below(3)], threeVars(d.lits(x.s, 2, 3)))
			}
			x.checkProof(t, inputs, d.below(7))
			clear(x.known)
		}
	}
	totalOf(all).provedEnough(t, 50, "input", "super", "resolve", "factor", "normal")
}

// TestPromise8Ground: clauses of constants have a model with at most one element for each of them, or none at all.
func TestPromise8Ground(t *testing.T) {
	x := truthsOf(constants(3), 3)
	d := &dice{state: 93}
	for range 3000 {
		var inputs [][]lit
		for range 1 + d.below(6) {
			var row []lit
			for range 1 + d.below(3) {
				row = append(row, lit{d.below(2) == 0, leaf(d.below(3)), leaf(d.below(3))})
			}
			inputs = append(inputs, row)
		}
		r := x.checkProof(t, inputs, 40)
		if want := x.hasModel(inputs); r.Code == impl.PvOut || want != (r.Code == impl.PvSat) {
			var texts []string
			for _, row := range inputs {
				texts = append(texts, textOfLits(row))
			}
			t.Fatalf("Prove(%v): %d, but there is a model: %v", texts, r.Code, want)
		}
	}
	x.provedEnough(t, 100, "input", "super", "normal")
}

// problem returns a few small clauses of that signature, which are often related.
func (d *dice) problem(s impl.Sign) [][]lit {
	var inputs [][]lit
	for len(inputs) < 1+d.below(5) {
		c, e, _ := d.premises(s, 4)
		single, _ := d.single(s, 4)
		some := [][]lit{c, e, single, d.lits(s, 3, 4), {d.lit(s, 5)}, {d.unit(s, d.tree(s, 6))}}
		row := some[d.below(len(some))]
		if weightOfLits(row) > 40 {
			continue
		}
		inputs = append(inputs, row)
		if d.below(6) == 0 {
			inputs = append(inputs, someVars(row, d.order(12)))
		}
	}
	return inputs
}

// TestProveLarge compares Prove with the second implementation, for many signatures.
func TestProveLarge(t *testing.T) {
	d := &dice{state: 94}
	codes, rules, long := map[int]int{}, map[int]int{}, 0
	for range 3000 {
		s := d.sign()
		inputs := d.problem(s)
		var l [][]impl.Lit
		for _, row := range inputs {
			l = append(l, madeOf(row))
		}
		fuel := d.below(9)
		r, ok := impl.Prove(s, l, fuel)
		if want := provedLits(s, inputs, fuel); !sameResults(r, want) || !ok {
			t.Fatalf("Prove(%v, %v, %d): %v, %v instead of %v", s, l, fuel, r, ok, want)
		}
		checkDerivation(t, s, l, r)
		codes[r.Code]++
		for _, x := range r.Steps {
			rules[x.Rule]++
		}
		if len(r.Steps) > 50 {
			long++
		}
	}
	for n := 1; n <= 5; n++ {
		if rules[n] < 100 || n <= 3 && codes[n] < 100 || long < 20 {
			t.Error("too few cases of a kind", rules, codes, long)
		}
	}
}
