package tests

import (
	"slices"
	"strings"
	"testing"

	"loop.example/g00682/impl"
)

// args4 are the arguments of a call of chapter 4; each function takes those that it needs.
type args4 struct {
	s    impl.Sign
	b    [][]int
	c    []impl.Lit
	l, m impl.Lit
	text string
}

// results4 are the results of such a call: a clause, a list, a number, a text, whether something is so, and whether it
// succeeded.
type results4 struct {
	c      []impl.Lit
	list   []int
	n      int
	text   string
	is, ok bool
}

func (r results4) equal(q results4) bool {
	return sameClauses(r.c, q.c) && slices.Equal(r.list, q.list) && r.n == q.n && r.text == q.text && r.is == q.is && r.ok == q.ok
}

// parts are all lists of a result, also those behind the length of its clause.
func (r results4) parts() [][]int { return append(listsIn(r.c[:cap(r.c)]), r.list) }

type call4 struct {
	name string
	run  func(x args4) results4
}

func calls4() []call4 {
	return []call4{
		{"GoodClause", func(x args4) results4 { return results4{ok: impl.GoodClause(x.s, x.c)} }},
		{"VarsIn", func(x args4) (r results4) { r.list, r.ok = impl.VarsIn(x.s, x.c); return }},
		{"ApplyClause", func(x args4) (r results4) { r.c, r.ok = impl.ApplyClause(x.s, x.b, x.c); return }},
		{"RenameClause", func(x args4) (r results4) { r.c, r.ok = impl.RenameClause(x.s, x.c); return }},
		{"TidyClause", func(x args4) (r results4) { r.c, r.ok = impl.TidyClause(x.s, x.c); return }},
		{"IsTautology", func(x args4) (r results4) { r.is, r.ok = impl.IsTautology(x.s, x.c); return }},
		{"WeightOf", func(x args4) (r results4) { r.n, r.ok = impl.WeightOf(x.s, x.c); return }},
		{"CompareLits", func(x args4) (r results4) { r.n, r.ok = impl.CompareLits(x.s, x.l, x.m); return }},
		{"MaximalIn", func(x args4) (r results4) { r.list, r.ok = impl.MaximalIn(x.s, x.c); return }},
		{"ClauseText", func(x args4) (r results4) { r.text, r.ok = impl.ClauseText(x.s, x.c); return }},
		{"ReadClause", func(x args4) (r results4) { r.c, r.n, r.ok = impl.ReadClause(x.s, x.text); return }},
	}
}

// wanted4 is the expected result, computed from trees.
func wanted4(name string, x args4) results4 {
	switch name {
	case "CompareLits":
		row, ok := goodLits(x.s, []impl.Lit{x.l, x.m})
		if !ok {
			return results4{}
		}
		return results4{n: comparedLits(row[0], row[1]), ok: true}
	case "ReadClause":
		return wantedRead(x.s, x.text)
	}
	row, ok := goodLits(x.s, x.c)
	if !ok {
		return results4{}
	}
	switch name {
	case "VarsIn":
		return results4{list: varsOfLits(row), ok: true}
	case "ApplyClause":
		values, good := goodTrees(x.s, x.b)
		if !good {
			return results4{}
		}
		if out, fits := putAll(values, row); fits {
			return results4{c: madeOf(out), ok: true}
		}
		return results4{}
	case "RenameClause":
		return results4{c: wantedRenameClause(x.c), ok: true}
	case "TidyClause":
		return results4{c: madeOf(tidyLits(row)), ok: true}
	case "IsTautology":
		return results4{is: isTautology(row), ok: true}
	case "WeightOf":
		return results4{n: weightOfLits(row), ok: true}
	case "MaximalIn":
		return results4{list: maximalLits(row), ok: true}
	case "ClauseText":
		return results4{text: textOfLits(row), ok: true}
	}
	return results4{ok: true}
}

func wantedRead(s impl.Sign, text string) results4 {
	if !goodSign(s) || len(text) > 1000 {
		return results4{}
	}
	at, complete := clauseFault(s, text)
	if !complete {
		return results4{n: at}
	}
	c := clause(text)
	if _, good := goodLits(s, c); !good {
		return results4{}
	}
	return results4{c: c, n: at, ok: true}
}

// eachArgs4 visits combinations of ordinary, invalid and very large arguments.
func eachArgs4(visit func(x args4)) {
	signs := [][]int{
		nil, {0}, {1}, {0, 0, 0, 1, 1, 2}, {0, 0, 0, 1, 1, 2, 4}, {0, 0, 0, 1, 1, -2}, {0, 2, 3, 1, 1, 2}, {0, 0, 0}, {0, greatestInt},
		{leastInt}, make([]int, 10), make([]int, 11),
	}
	texts := []string{
		"-", "b=c", "d(A)=b|c#c|b=d(A)", "d(C)=B", "b=c|c#b", "b=a|d(b)=a|c=a", "A#A", "a=a", "A=B|B#A|b#b", "b=f(L,K)|d(A)#e(L)",
		"f(A,A)=f(B,C)|A#b|A#b", "b#b|A#A|c#c", eightLits,
	}
	clauses := badClauses()
	for _, text := range texts {
		clauses = append(clauses, clause(text))
	}
	clauses = append(clauses, []impl.Lit{longLit()}, slices.Repeat([]impl.Lit{longLit()}, 8), slices.Repeat(clause("a=A"), 8), []impl.Lit{})
	texts = append(texts, "", "b=c|", "--", "-|", "b=g", "b=c\xff", eightLits+"|a=a", deepText(40)+"=b", fullText(false), fullText(true), strings.Repeat("d(", 500))
	row := func(v int, t []int) [][]int {
		b := make([][]int, 12)
		b[v] = t
		return b
	}
	substs := [][][]int{
		make([][]int, 12), subst("A=b B=d(A)"), nil, subst("A=B B=A"), make([][]int, 11), subst(everyVar), row(0, chain(39, -1)), row(0, []int{-13}),
		subst("A=A L=d(L)"), row(11, chain(300, 0)), make([][]int, 13), row(0, []int{leastInt}), row(1, chain(3, -1)), row(11, []int{greatestInt}),
	}
	i := 0
	for _, arity := range signs {
		for _, c := range clauses {
			for k := range substs {
				x := args4{s: impl.Sign{Arity: arity}, b: substs[k], c: c, text: texts[i%len(texts)]}
				lits := append(slices.Clone(c[:min(len(c), 9)]), clause("A=b|d(A)#c")...)
				x.l, x.m = lits[i%len(lits)], lits[k%len(lits)]
				visit(x)
				i++
			}
		}
	}
}

func TestPromise19AllArguments4(t *testing.T) {
	succeeded := map[string]int{}
	calls := calls4()
	eachArgs4(func(x args4) {
		for _, c := range calls {
			got := c.run(x)
			if want := wanted4(c.name, x); !got.equal(want) {
				t.Fatalf("%s: %v instead of %v for %v", c.name, got, want, x)
			}
			if got.ok {
				succeeded[c.name]++
			}
		}
	})
	for _, c := range calls {
		if succeeded[c.name] < 200 {
			t.Errorf("%s succeeds only %d times", c.name, succeeded[c.name])
		}
	}
}

// guardedClause puts each term, and the list of literals, into a guard. What stands behind that list would make a clause a
// tautology, and behind a long one too long.
func guardedClause(c []impl.Lit, guards []*guard) ([]impl.Lit, []*guard) {
	var all []impl.Lit
	for _, x := range c {
		l, r := guarded(x.L), guarded(x.R)
		guards = append(guards, l, r)
		all = append(all, impl.Lit{Pos: x.Pos, L: l.list, R: r.list})
	}
	many := len(all)
	all = append(all, clause("a=a|d(d(K))#J")...)
	return all[:many], guards
}

func guardedArgs4(x args4) (args4, []*guard) {
	arity := guarded(x.s.Arity)
	b, guards := guardedLists(x.b, []*guard{arity})
	c, guards := guardedClause(x.c, guards)
	pair, guards := guardedClause([]impl.Lit{x.l, x.m}, guards)
	return args4{s: impl.Sign{Arity: arity.list}, b: b, c: c, l: pair[0], m: pair[1], text: x.text}, guards
}

func TestPromise19Memory4(t *testing.T) {
	calls := calls4()
	i := 0
	eachArgs4(func(x args4) {
		// Three calls for each combination, so that each function gets many of them in little time.
		for range 3 {
			checkMemory4(t, calls[i%len(calls)], x)
			i += 4
		}
	})
}

// checkMemory4 calls a function with guarded arguments. It reports an argument that is modified, a result that depends on
// what stands behind an argument or on an earlier call, and a result that shares memory with an argument or with itself.
func checkMemory4(t *testing.T, c call4, x args4) {
	y, guards := guardedArgs4(x)
	heads, lits := slices.Clone(y.b[:cap(y.b)]), copied(y.c[:cap(y.c)])
	plain, got := c.run(x), c.run(y)
	if !got.equal(plain) {
		t.Fatalf("%s of %v: %v, then %v", c.name, x, plain, got)
	}
	if failed := (results4{n: got.n}); !got.ok && !got.equal(failed) || !got.ok && got.n != 0 && c.name != "ReadClause" {
		t.Fatalf("%s of %v fails with %v", c.name, x, got)
	}
	unchanged := func(what string) {
		if !sameLists(y.b[:cap(y.b)], heads) || !sameClauses(y.c[:cap(y.c)], lits) {
			t.Fatalf("%s of %v: %s modifies a list of lists", c.name, x, what)
		}
		reportChanged(t, c.name+", "+what, guards)
	}
	unchanged("the call")
	checkOwn(t, c.name, got.parts())
	clear(got.c[:cap(got.c)])
	unchanged("overwriting the result")
	again := c.run(y)
	if !again.equal(plain) {
		t.Fatalf("%s of %v: %v, then %v", c.name, x, plain, again)
	}
	for _, g := range guards {
		fill(g.array)
	}
	clear(y.b)
	clear(y.c)
	if !again.equal(plain) {
		t.Fatalf("%s of %v shares memory", c.name, x)
	}
}

// TestPromise19Shared4: terms of a result that are equal share no memory, also if they are one list in the arguments.
func TestPromise19Shared4(t *testing.T) {
	w := term("d(b)")
	x := args4{s: sampleSign(), b: subst("A=d(b)"), text: "A=A|d(b)#A"}
	for range 4 {
		x.c = append(x.c, impl.Lit{Pos: true, L: w, R: w}, impl.Lit{Pos: false, L: w, R: []int{-1}})
	}
	x.l, x.m = x.c[0], x.c[1]
	for v := range x.b {
		x.b[v] = w
	}
	for _, c := range calls4() {
		first, second := c.run(x), c.run(x)
		if !first.ok || !first.equal(second) || !first.equal(wanted4(c.name, x)) {
			t.Fatal(c.name, first, second)
		}
		checkOwn(t, c.name, first.parts())
		clear(first.c[:cap(first.c)])
		if third := c.run(x); !second.equal(third) {
			t.Error(c.name, second, third)
		}
	}
	if !slices.Equal(w, term("d(b)")) {
		t.Error("an argument is modified", w)
	}
}

// TestPromise19Capacity4: what stands behind the length would change the result, but is not read.
func TestPromise19Capacity4(t *testing.T) {
	s := sampleSign()
	c := clause("A#B|b=b")[:1]
	if is, ok := impl.IsTautology(s, c); is || !ok {
		t.Error("IsTautology reads behind the length", is, ok)
	}
	if text, ok := impl.ClauseText(s, clause("b=c")[:0]); text != "-" || !ok {
		t.Error("ClauseText reads behind the length", text, ok)
	}
	open := []impl.Lit{{Pos: true, L: []int{5, 3, -1, 1}[:3], R: []int{0}}}
	if impl.GoodClause(s, open) || !impl.GoodClause(s, slices.Repeat(clause("b=c"), 20)[:8]) {
		t.Error("GoodClause reads behind the length")
	}
	if _, at, ok := impl.ReadClause(impl.Sign{Arity: []int{0, 0}[:1]}, "a=b"); at != 2 || ok {
		t.Error("the signature is read behind its length", at, ok)
	}
}

// TestPromise19Huge4: arguments far above the limits.
func TestPromise19Huge4(t *testing.T) {
	huge := make([]int, 1<<20)
	hugeLit := impl.Lit{Pos: true, L: huge, R: huge}
	good := args4{s: sampleSign(), b: subst("A=b"), c: clause("d(A)=b|c#c"), l: clause("A=b")[0], m: clause("b#A")[0], text: "b=c"}
	changes := []func(x *args4){
		func(x *args4) { x.s.Arity = huge },
		func(x *args4) { x.b = make([][]int, 1<<20) },
		func(x *args4) { x.b = slices.Repeat([][]int{huge}, 12) },
		func(x *args4) { x.c = slices.Repeat(clause("b=c"), 1<<20) },
		func(x *args4) { x.c = slices.Repeat([]impl.Lit{hugeLit}, 8) },
		func(x *args4) { x.c = append(clause("b=c"), impl.Lit{Pos: true, L: []int{0}, R: huge}) },
		func(x *args4) { x.l = hugeLit },
		func(x *args4) { x.m = hugeLit },
		func(x *args4) { x.text = strings.Repeat("b=c|", 1<<20) },
		func(x *args4) { x.text = strings.Repeat("d(", 1<<20) },
	}
	for _, c := range calls4() {
		for i, change := range changes {
			x := good
			change(&x)
			if got, want := c.run(x), wanted4(c.name, x); !got.equal(want) {
				t.Errorf("%s with huge argument %d: %v instead of %v", c.name, i, got, want)
			}
		}
	}
}
