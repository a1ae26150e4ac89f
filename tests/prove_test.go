package tests

import (
	"slices"
	"strconv"

	"loop.example/g00682/impl"
)

func sameStep(x, y impl.Step) bool {
	return x.Rule == y.Rule && slices.Equal(x.Parents, y.Parents) && slices.Equal(x.Way, y.Way) && sameClauses(x.Clause, y.Clause)
}

func sameResults(x, y impl.Result) bool {
	return x.Code == y.Code && slices.EqualFunc(x.Steps, y.Steps, sameStep) && slices.Equal(x.Active, y.Active)
}

// ruleWords are the words for the rules; the first one is for no rule.
func ruleWords() []string { return []string{"none", "input", "super", "resolve", "factor", "normal"} }

// textOfStep writes a step as the document does.
func textOfStep(s impl.Sign, x impl.Step) string {
	text := ruleWords()[x.Rule]
	for _, p := range x.Parents {
		text += " " + strconv.Itoa(p)
	}
	text += " :"
	for _, n := range x.Way {
		text += " " + strconv.Itoa(n)
	}
	return text + " : " + textOfLits(rowOf(s, x.Clause))
}

// stepsOf are steps with these clauses, and with values in their other fields that do not count.
func stepsOf(l [][]impl.Lit) []impl.Step {
	var steps []impl.Step
	for k, c := range l {
		steps = append(steps, impl.Step{Rule: 7 - k, Parents: []int{k + 300, -1}, Way: []int{greatestInt}, Clause: c})
	}
	return steps
}

func clausesOf(steps []impl.Step) [][]impl.Lit {
	var l [][]impl.Lit
	for _, x := range steps {
		l = append(l, x.Clause)
	}
	return l
}

// goodRows holds the trees of at most that many valid clauses.
func goodRows(s impl.Sign, l [][]impl.Lit, most int) ([][]lit, bool) {
	if len(l) > most || !goodSign(s) {
		return nil, false
	}
	rows := [][]lit{}
	for _, c := range l {
		row, good := goodLits(s, c)
		if !good {
			return nil, false
		}
		rows = append(rows, row)
	}
	return rows, true
}

func areWithin(at []int, many int) bool {
	return !slices.ContainsFunc(at, func(k int) bool { return k < 0 || k >= many })
}

func isUnitRow(row []lit) bool { return len(row) == 1 && row[0].pos }

// madeLits is the second implementation of MakeStep: the clause of the step, for inputs and steps with these clauses.
func madeLits(s impl.Sign, inputs, rows [][]lit, rule int, parents, way []int) (c []impl.Lit, made bool) {
	var from [][]lit
	for _, p := range parents {
		from = append(from, rows[p])
	}
	code := 0
	switch kind := [3]int{rule, len(parents), len(way)}; kind {
	case [3]int{1, 0, 1}:
		if !areWithin(way, len(inputs)) {
			return nil, false
		}
		return concludedLits(inputs[way[0]]), true
	case [3]int{2, 2, 5}:
		c, code = superposedLits(from[0], from[1], wayOf(way...))
	case [3]int{3, 1, 1}:
		c, code = resolvedLits(from[0], way[0])
	case [3]int{4, 1, 4}:
		c, code = factoredLits(from[0], wayOf(way...))
	default:
		if rule != 5 || len(from) < 1 || len(from) > 11 || len(way) > 0 {
			return nil, false
		}
		if slices.ContainsFunc(from[1:], func(row []lit) bool { return !isUnitRow(row) }) {
			return nil, false
		}
		c, _ = normalLits(s, from[0], slices.Concat(from[1:]...))
	}
	return c, code == 0 || code == 5
}

// chosenOf is the second implementation of ChooseOf.
func chosenOf(rows [][]lit, passive []int, round int) int {
	best := passive[0]
	for _, k := range passive {
		if round%4 != 0 && weightOfLits(rows[k]) < weightOfLits(rows[best]) {
			best = k
		}
	}
	return best
}

// unitsIn is the second implementation of UnitsOf.
func unitsIn(rows [][]lit, active []int) []int {
	var units []int
	for _, k := range active {
		if isUnitRow(rows[k]) {
			units = append(units, k)
		}
	}
	return units[:min(len(units), 10)]
}

// redundantLits is the second implementation of IsRedundant.
func redundantLits(row []lit, l [][]lit) bool {
	return isTautology(row) || slices.ContainsFunc(l, func(c []lit) bool { return subsumedBy(c, row) != nil })
}

// looped is the state of the second implementation of Prove.
type looped struct {
	s       impl.Sign
	inputs  [][]lit
	rows    [][]lit
	passive []int
	result  impl.Result
}

// append returns a code if the loop ends because there would be too many steps.
func (p *looped) append(x impl.Step) int {
	if len(p.rows) == 200 {
		return impl.PvOut
	}
	row, _ := goodLits(p.s, x.Clause)
	p.rows = append(p.rows, row)
	p.result.Steps = append(p.result.Steps, x)
	return 0
}

func (p *looped) step(rule int, parents, way []int) impl.Step {
	c, _ := madeLits(p.s, p.inputs, p.rows, rule, parents, way)
	return impl.Step{Rule: rule, Parents: parents, Way: way, Clause: c}
}

// keep returns a code if the loop ends with this step, and 0 otherwise.
func (p *looped) keep(x impl.Step) int {
	row, _ := goodLits(p.s, x.Clause)
	same := func(y impl.Step) bool {
		return sameClauses(wantedRenameClause(x.Clause), wantedRenameClause(y.Clause))
	}
	if isTautology(row) || slices.ContainsFunc(p.result.Steps, same) {
		return 0
	}
	if code := p.append(x); code != 0 {
		return code
	}
	p.passive = append(p.passive, len(p.rows)-1)
	if len(row) == 0 {
		return impl.PvNo
	}
	return 0
}

func listOfWay(w impl.Way) []int { return []int{w.I, w.Side, w.J, w.Other, w.At} }

// singles are the steps from one clause, and pairs those from an active one and it, in order.
func (p *looped) singles(n int) (steps []impl.Step) {
	at, ways := singleWaysOfLits(p.rows[n])
	for _, i := range at {
		steps = append(steps, p.step(impl.StResolve, []int{n}, []int{i}))
	}
	for _, w := range ways {
		steps = append(steps, p.step(impl.StFactor, []int{n}, listOfWay(w)[:4]))
	}
	return steps
}

func (p *looped) pairs(n int) (steps []impl.Step) {
	var order [][2]int
	for _, m := range p.result.Active {
		order = append(order, [2]int{m, n})
		if m != n {
			order = append(order, [2]int{n, m})
		}
	}
	for _, x := range order {
		for _, w := range waysOfLits(p.rows[x[0]], p.rows[x[1]]) {
			steps = append(steps, p.step(impl.StSuper, x[:], listOfWay(w)))
		}
	}
	return steps
}

// round returns a code if the loop ends in that round.
func (p *looped) round(no int) int {
	given := chosenOf(p.rows, p.passive, no)
	p.passive = slices.DeleteFunc(p.passive, func(k int) bool { return k == given })
	units := unitsIn(p.rows, p.result.Active)
	var equations []lit
	for _, k := range units {
		equations = append(equations, p.rows[k]...)
	}
	if _, n := normalLits(p.s, p.rows[given], equations); n > 0 {
		if code := p.append(p.step(impl.StNormal, append([]int{given}, units...), nil)); code != 0 {
			return code
		}
		given = len(p.rows) - 1
	}
	var active [][]lit
	for _, k := range p.result.Active {
		active = append(active, p.rows[k])
	}
	switch {
	case len(p.rows[given]) == 0:
		return impl.PvNo
	case redundantLits(p.rows[given], active):
		return 0
	}
	for _, x := range p.singles(given) {
		if code := p.keep(x); code != 0 {
			return code
		}
	}
	p.result.Active = append(p.result.Active, given)
	for _, x := range p.pairs(given) {
		if code := p.keep(x); code != 0 {
			return code
		}
	}
	return 0
}

// provedLits is the second implementation of Prove.
func provedLits(s impl.Sign, inputs [][]lit, fuel int) impl.Result {
	p := &looped{s: s, inputs: inputs}
	for k := range inputs {
		p.append(p.step(impl.StInput, nil, []int{k}))
		p.passive = append(p.passive, k)
	}
	for no := 1; p.result.Code == 0; no++ {
		switch {
		case len(p.passive) == 0:
			p.result.Code = impl.PvSat
		case no > fuel:
			p.result.Code = impl.PvOut
		default:
			p.result.Code = p.round(no)
		}
	}
	return p.result
}
