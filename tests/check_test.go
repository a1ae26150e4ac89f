package tests

import (
	"maps"
	"slices"
	"strconv"
	"strings"

	"loop.example/g00682/impl"
)

// stepOfText reads what textOfStep writes. A rule may also be written as a number.
func stepOfText(text string) impl.Step {
	parts := strings.Split(text, ":")
	words := strings.Fields(parts[0])
	rule := slices.Index(ruleWords(), words[0])
	if rule < 0 {
		rule = numbersOf(words[0])[0]
	}
	return impl.Step{Rule: rule, Parents: numbersOf(words[1:]...), Way: numbersOf(strings.Fields(parts[1])...), Clause: clause(strings.TrimSpace(parts[2]))}
}

func numbersOf(words ...string) []int {
	var l []int
	for _, word := range words {
		n, err := strconv.Atoi(word)
		if err != nil {
			panic(err)
		}
		l = append(l, n)
	}
	return l
}

// derivation reads steps separated by semicolons.
func derivation(text string) []impl.Step {
	var steps []impl.Step
	for _, part := range strings.Split(text, ";") {
		if strings.TrimSpace(part) != "" {
			steps = append(steps, stepOfText(part))
		}
	}
	return steps
}

func textOfSteps(s impl.Sign, steps []impl.Step) string {
	var texts []string
	for _, x := range steps {
		texts = append(texts, textOfStep(s, x))
	}
	return strings.Join(texts, "; ")
}

func sameSteps(x, y []impl.Step) bool { return slices.EqualFunc(x, y, sameStep) }

// copiedSteps shares no memory with the steps.
func copiedSteps(steps []impl.Step) []impl.Step {
	var out []impl.Step
	for _, x := range steps {
		out = append(out, impl.Step{Rule: x.Rule, Parents: slices.Clone(x.Parents), Way: slices.Clone(x.Way), Clause: copied(x.Clause)})
	}
	return out
}

// linked are steps with these parents. Their rules and ways are none that fit.
func linked(parents ...[]int) []impl.Step {
	var steps []impl.Step
	for k, p := range parents {
		steps = append(steps, impl.Step{Rule: k - 3, Parents: p, Way: []int{k, -1}, Clause: clause("b=c|d(A)#B")})
	}
	return steps
}

// goodLinks reports whether steps are valid where not all steps are.
func goodLinks(s impl.Sign, steps []impl.Step) bool {
	if len(steps) > 200 {
		return false
	}
	for i, x := range steps {
		if !areWithin(x.Parents, i) {
			return false
		}
	}
	_, good := goodRows(s, clausesOf(steps), 200)
	return good
}

// faultOf is the second implementation of CheckSteps.
func faultOf(s impl.Sign, inputs [][]lit, steps []impl.Step) (code, at int) {
	if len(steps) > 200 {
		return 1, 0
	}
	var rows [][]lit
	for i, x := range steps {
		if !areWithin(x.Parents, i) {
			return 2, i
		}
		c, made := madeLits(s, inputs, rows, x.Rule, x.Parents, x.Way)
		switch {
		case !made:
			return 3, i
		case !sameClauses(c, x.Clause):
			return 4, i
		}
		rows = append(rows, rowOf(s, c))
	}
	return 0, 0
}

// neededOf is the second implementation of NeededBy: it follows the parents from the step on.
func neededOf(steps []impl.Step, k int) []int {
	found := map[int]bool{}
	for open := []int{k}; len(open) > 0; {
		n := open[0]
		open = open[1:]
		if !found[n] {
			found[n] = true
			open = append(open, steps[n].Parents...)
		}
	}
	return slices.Sorted(maps.Keys(found))
}

// trimmedOf is the second implementation of TrimSteps: it removes one unneeded step after the other. Without an empty clause,
// there is no result.
func trimmedOf(steps []impl.Step) []impl.Step {
	last := slices.IndexFunc(steps, isEmptyStep)
	if last < 0 {
		return nil
	}
	out := copiedSteps(steps[:last+1])
	for gone := last - 1; gone >= 0; gone-- {
		if slices.ContainsFunc(out, func(x impl.Step) bool { return slices.Contains(x.Parents, gone) }) {
			continue
		}
		out = slices.Delete(out, gone, gone+1)
		for _, x := range out {
			for i, p := range x.Parents {
				if p > gone {
					x.Parents[i]--
				}
			}
		}
	}
	return out
}

// numbersIn is the second implementation of InputsOf.
func numbersIn(steps []impl.Step) []int {
	found := map[int]bool{}
	for _, x := range steps {
		if x.Rule == 1 && len(x.Way) == 1 {
			found[x.Way[0]] = true
		}
	}
	return slices.Sorted(maps.Keys(found))
}

// grower makes an accepted derivation step by step, also of steps that Prove would not generate.
type grower struct {
	s      impl.Sign
	inputs [][]lit
	rows   [][]lit
	steps  []impl.Step
}

// try appends a step if it is possible and its clause is not too large.
func (g *grower) try(rule int, parents, way []int) {
	c, made := madeLits(g.s, g.inputs, g.rows, rule, parents, way)
	if !made || len(g.steps) == 200 {
		return
	}
	row := rowOf(g.s, c)
	if rule != impl.StInput && weightOfLits(row) > 40 {
		return
	}
	g.rows = append(g.rows, row)
	g.steps = append(g.steps, impl.Step{Rule: rule, Parents: parents, Way: way, Clause: c})
}

// grow tries steps that often fit. The first step is an input.
func (g *grower) grow(d *dice, tries int) {
	g.try(impl.StInput, nil, []int{d.below(len(g.inputs))})
	for range tries {
		first, second := d.below(len(g.rows)), d.below(len(g.rows))
		switch rule := 1 + d.below(5); rule {
		case impl.StInput:
			g.try(rule, nil, []int{d.below(len(g.inputs))})
		case impl.StSuper:
			g.try(rule, []int{first, second}, d.wayInto(g.rows[first], g.rows[second]))
		case impl.StResolve:
			g.try(rule, []int{first}, d.wayInto(g.rows[first], g.rows[first])[:1])
		case impl.StFactor:
			g.try(rule, []int{first}, d.wayInto(g.rows[first], g.rows[first])[:4])
		case impl.StNormal:
			units := unitsIn(g.rows, d.elements(d.below(8), len(g.rows)))
			g.try(rule, append([]int{first}, units...), nil)
		}
	}
}

// wayInto has numbers of literals, sides and positions that exist, if there are any.
func (d *dice) wayInto(c, e []lit) []int {
	if len(c) == 0 || len(e) == 0 {
		return make([]int, 5)
	}
	j, other := d.below(len(e)), d.below(2)
	u, _ := sideOf(e, j, other)
	return []int{d.below(len(c)), d.below(2), j, other, d.below(u.size())}
}

// conflict returns inputs that often have no model.
func (d *dice) conflict(s impl.Sign, most int) [][]lit {
	inputs := d.problem(s)
	for range d.below(2) {
		x := d.lit(s, most)
		x.pos = true
		inputs = append(inputs, []lit{x}, []lit{x.negated()})
	}
	return inputs
}

// derived returns inputs and an accepted derivation from them, of which about half have the empty clause.
func (d *dice) derived(s impl.Sign, tries int) ([][]lit, []impl.Step) {
	g := &grower{s: s, inputs: d.conflict(s, 4)}
	g.grow(d, tries)
	if d.below(3) == 0 {
		return g.inputs, g.steps
	}
	// The last two inputs often contradict each other.
	last := len(g.inputs) - 1
	g.try(impl.StInput, nil, []int{last})
	g.try(impl.StInput, nil, []int{max(last-1, 0)})
	from := len(g.steps)
	g.try(impl.StNormal, []int{from - 2, from - 1}, nil)
	g.try(impl.StSuper, []int{from - 1, from - 2}, make([]int, 5))
	g.grow(d, tries/3)
	return g.inputs, g.steps
}

// changedStep returns steps of which one is changed in one way.
func (d *dice) changedStep(steps []impl.Step) []impl.Step {
	out := copiedSteps(steps)
	k := d.below(len(out))
	x := &out[k]
	switch d.below(4) {
	case 0:
		x.Rule = d.below(7)
	case 1:
		x.Parents = d.changedList(x.Parents, k+2)
	case 2:
		x.Way = d.changedList(x.Way, 3)
	case 3:
		x.Clause = d.changedClause(x.Clause, out[d.below(len(out))].Clause)
	}
	return out
}

// changedList removes, adds or replaces a number.
func (d *dice) changedList(l []int, most int) []int {
	n := d.below(most+1) - 1
	if len(l) == 0 {
		return []int{n}
	}
	i := d.below(len(l))
	switch d.below(3) {
	case 0:
		return slices.Delete(l, i, i+1)
	case 1:
		return slices.Insert(l, i, n)
	}
	l[i] = n
	return l
}

// changedClause also takes another clause.
func (d *dice) changedClause(c, other []impl.Lit) []impl.Lit {
	if len(c) == 0 || d.below(8) == 0 {
		return copied(other)
	}
	i, j := d.below(len(c)), d.below(len(c))
	switch d.below(6) {
	case 0:
		c[i].L, c[i].R = c[i].R, c[i].L
	case 1:
		c[i], c[j] = c[j], c[i]
	case 2:
		c[i].Pos = !c[i].Pos
	case 3:
		return slices.Delete(c, i, i+1)
	case 4:
		return append(c, copied(c[i:i+1])...)
	case 5:
		l := listsIn(c)[2*i+d.below(2)]
		l[d.below(len(l))]--
	}
	return c
}
