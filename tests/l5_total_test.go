package tests

import (
	"slices"
	"testing"

	"loop.example/g00682/impl"
)

// args5 are the arguments of a call of chapter 5; each function takes those that it needs.
type args5 struct {
	s    impl.Sign
	w    impl.World
	x    []int
	c    []impl.Lit
	env  []int
	l    [][]impl.Lit
	size int
	no   int
}

// results5 are the results of such a call: a world, a list, a number, whether something is so, and whether it succeeded.
type results5 struct {
	w      impl.World
	list   []int
	n      int
	is, ok bool
}

func (r results5) equal(q results5) bool {
	return sameWorlds(r.w, q.w) && slices.Equal(r.list, q.list) && r.n == q.n && r.is == q.is && r.ok == q.ok
}

type call5 struct {
	name string
	run  func(x args5) results5
}

func calls5() []call5 {
	return []call5{
		{"GoodWorld", func(x args5) results5 { return results5{ok: impl.GoodWorld(x.s, x.w)} }},
		{"EvalIn", func(x args5) (r results5) { r.n, r.ok = impl.EvalIn(x.s, x.w, x.x, x.env); return }},
		{"HoldsAt", func(x args5) (r results5) { r.is, r.ok = impl.HoldsAt(x.s, x.w, x.c, x.env); return }},
		{"HoldsIn", func(x args5) (r results5) { r.is, r.ok = impl.HoldsIn(x.s, x.w, x.c); return }},
		{"FalseAt", func(x args5) (r results5) { r.list, r.ok = impl.FalseAt(x.s, x.w, x.c); return }},
		{"AllHold", func(x args5) (r results5) { r.is, r.ok = impl.AllHold(x.s, x.w, x.l); return }},
		{"CountWorlds", func(x args5) (r results5) { r.n, r.ok = impl.CountWorlds(x.s, x.size); return }},
		{"FindWorld", func(x args5) (r results5) { r.w, r.ok = impl.FindWorld(x.s, x.l, x.size); return }},
		{"WorldAt", func(x args5) (r results5) { r.w, r.ok = impl.WorldAt(x.s, x.size, x.no); return }},
	}
}

// goodModel is the model of a valid world.
func goodModel(s impl.Sign, w impl.World) (model, bool) {
	if !goodSign(s) || w.Size < 1 || w.Size > 3 || len(w.Tables) != len(s.Arity) {
		return model{}, false
	}
	for n, table := range w.Tables {
		if len(table) != power(w.Size, s.Arity[n]) || !goodElements(table, w.Size) {
			return model{}, false
		}
	}
	return model{w.Size, w.Tables}, true
}

func goodElements(l []int, size int) bool { return slices.Min(l) >= 0 && slices.Max(l) < size }

// goodTried holds the trees of a list of at most 40 clauses with at most 6 variables.
func goodTried(s impl.Sign, l [][]impl.Lit) ([][]lit, bool) {
	if len(l) > 40 || !goodSign(s) {
		return nil, false
	}
	var rows [][]lit
	for _, c := range l {
		row, good := goodLits(s, c)
		if !good || len(varsOfLits(row)) > 6 {
			return nil, false
		}
		rows = append(rows, row)
	}
	return rows, true
}

func (m model) allHold(rows [][]lit) bool {
	return !slices.ContainsFunc(rows, func(row []lit) bool { return len(m.falseEnvs(row)) > 0 })
}

// wanted5 is the expected result, computed from trees.
func wanted5(name string, x args5) results5 {
	switch name {
	case "CountWorlds":
		n, ok := wantedCount(x.s, x.size)
		return results5{n: n, ok: ok}
	case "WorldAt":
		w, ok := wantedWorld(x.s, x.size, x.no)
		return results5{w: w, ok: ok}
	case "FindWorld":
		return wantedFound(x)
	}
	m, good := goodModel(x.s, x.w)
	if !good {
		return results5{}
	}
	goodEnv := len(x.env) == 12 && goodElements(x.env, m.size)
	row, goodRow := goodLits(x.s, x.c)
	one, goodOne := goodTried(x.s, [][]impl.Lit{x.c})
	rows, goodRows := goodTried(x.s, x.l)
	switch name {
	case "EvalIn":
		if y := goodTree(x.s, x.x); y != nil && goodEnv {
			return results5{n: m.value(y, x.env), ok: true}
		}
		return results5{}
	case "HoldsAt":
		return results5{is: goodRow && goodEnv && m.holdsAt(row, x.env), ok: goodRow && goodEnv}
	case "HoldsIn":
		return results5{is: goodOne && m.allHold(one), ok: goodOne}
	case "FalseAt":
		if goodOne && !m.allHold(one) {
			return results5{list: slices.MinFunc(m.falseEnvs(row), slices.Compare[[]int]), ok: true}
		}
		return results5{}
	case "AllHold":
		return results5{is: goodRows && m.allHold(rows), ok: goodRows}
	}
	return results5{ok: true}
}

func wantedFound(x args5) results5 {
	many, ok := wantedCount(x.s, x.size)
	rows, good := goodTried(x.s, x.l)
	if !ok || many > 3000 || !good {
		return results5{}
	}
	for no := range many {
		w, _ := wantedWorld(x.s, x.size, no)
		if m, _ := goodModel(x.s, w); m.allHold(rows) {
			return results5{w: w, ok: true}
		}
	}
	return results5{}
}

// goodArgs5 returns valid arguments for that signature.
func (d *dice) goodArgs5(s impl.Sign) args5 {
	m := d.model(s, 1+d.below(3))
	x := args5{s: s, w: m.world(), x: d.large(s).list(), env: d.elements(12, m.size), size: 1 + d.below(3)}
	x.c = madeOf(someVars(d.lits(s, 3, 6), d.order(12)[:1+d.below(6)]))
	for range d.below(4) {
		x.l = append(x.l, madeOf(threeVars(d.lits(s, 3, 4))))
	}
	many, _ := wantedCount(s, x.size)
	x.no = d.below(many)
	return x
}

// changes5 put another value, mostly an invalid one, for each of the arguments.
func changes5() []func(x *args5) {
	changes := []func(x *args5){func(x *args5) {}}
	add := func(change func(x *args5)) { changes = append(changes, change) }
	for _, s := range append(badSigns()[:8], modelSign(), mixedSign(), constants(7), constants(8), constants(10)) {
		add(func(x *args5) { x.s = s })
	}
	for _, w := range append(badWorlds(), mixedWorld(), modelWorld()) {
		add(func(x *args5) { x.w = w })
	}
	for _, n := range append(badSizes(), 1, 2, 3) {
		add(func(x *args5) { x.size = n })
		add(func(x *args5) { x.w.Size = n })
		add(func(x *args5) { x.w = changedTable(x.w, 0, []int{n}) })
	}
	add(func(x *args5) { x.w.Tables = x.w.Tables[1:] })
	add(func(x *args5) { x.w.Tables = append(slices.Clone(x.w.Tables), []int{0}) })
	add(func(x *args5) { x.w = changedTable(x.w, len(x.w.Tables)-1, nil) })
	for _, t := range [][]int{nil, {0}, {0, 0}, {-1}, {-12}, {-13}, {10}, {leastInt}, {greatestInt}, {2, greatestInt}, chain(39, -1), chain(300, 0)} {
		add(func(x *args5) { x.x = t })
	}
	for _, t := range []int{-1, 0, leastInt, greatestInt} {
		add(func(x *args5) { x.x = append(slices.Clone(x.x), t) })
	}
	for i, c := range append(badClauses(), nil, clause("a=L"), clause("A=B|C=D|E=L"), clause("A=B|C=D|E=F|G=A"), clause("A=B|C=D|E=F|a=L")) {
		add(func(x *args5) { x.c = c })
		if i%5 < 2 {
			add(func(x *args5) { x.l = append([][]impl.Lit{c}, x.l...) })
			add(func(x *args5) { x.l = append(slices.Clone(x.l), nil, c) })
		}
	}
	for _, many := range []int{36, 37, 40, 41} {
		add(func(x *args5) { x.l = append(slices.Repeat(clauses("a=a"), many), x.l...) })
	}
	for _, env := range append(badEnvs(), envOf(), envOf(1), envOf(2, 1)) {
		add(func(x *args5) { x.env = env })
	}
	for _, no := range []int{0, 1, 2, -1, 15, 16, 242, 243, 2047, 2048, 2186, 2187, 6560, 6561, 9999, 10000, leastInt, greatestInt} {
		add(func(x *args5) { x.no = no })
	}
	return changes
}

// eachArgs5 visits ordinary arguments, and ones with one that is invalid or very large.
func eachArgs5(visit func(x args5)) {
	d := &dice{state: 55}
	changes := changes5()
	for i := range 24 {
		s := d.sign()
		if i%4 > 0 {
			s = impl.Sign{Arity: [][]int{{0}, {0, 0, 1}, {0, 2}, {0, 3}, {0, 1, 1}, {0, 0, 1, 2}}[d.below(6)]}
		}
		for _, change := range changes {
			x := d.goodArgs5(s)
			change(&x)
			visit(x)
		}
	}
}

func TestPromise19AllArguments5(t *testing.T) {
	succeeded := map[string]int{}
	failed := map[string]int{}
	calls := calls5()
	eachArgs5(func(x args5) {
		for _, c := range calls {
			got := c.run(x)
			if want := wanted5(c.name, x); !got.equal(want) {
				t.Fatalf("%s: %v instead of %v for %v", c.name, got, want, x)
			}
			if got.ok {
				succeeded[c.name]++
			} else {
				failed[c.name]++
			}
		}
	})
	for _, c := range calls {
		if succeeded[c.name] < 100 || failed[c.name] < 100 {
			t.Errorf("%s succeeds %d times and fails %d times", c.name, succeeded[c.name], failed[c.name])
		}
	}
}

// guardedClauses puts each clause, and the list of them, into a guard. What stands behind that list never holds, and
// behind a long one makes it too long.
func guardedClauses(l [][]impl.Lit, guards []*guard) ([][]impl.Lit, []*guard) {
	var all [][]impl.Lit
	for _, c := range l {
		var d []impl.Lit
		d, guards = guardedClause(c, guards)
		all = append(all, d)
	}
	many := len(all)
	all = append(all, clause("a#a"), []impl.Lit{{}})
	return all[:many], guards
}

func guardedArgs5(x args5) (args5, []*guard) {
	arity, term, env := guarded(x.s.Arity), guarded(x.x), guarded(x.env)
	tables, guards := guardedLists(x.w.Tables, []*guard{arity, term, env})
	c, guards := guardedClause(x.c, guards)
	l, guards := guardedClauses(x.l, guards)
	y := x
	y.s.Arity, y.w.Tables, y.x, y.c, y.env, y.l = arity.list, tables, term.list, c, env.list, l
	return y, guards
}

func TestPromise19Memory5(t *testing.T) {
	calls := calls5()
	i := 0
	eachArgs5(func(x args5) {
		// A few calls for each combination, so that each function gets many of them in little time.
		for range 4 {
			checkMemory5(t, calls[i%len(calls)], x)
			i += 2
		}
	})
}

// checkMemory5 calls a function with guarded arguments. It reports an argument that is modified, a result that depends on
// what stands behind an argument or on an earlier call, and a result that shares memory with an argument or with itself.
func checkMemory5(t *testing.T, c call5, x args5) {
	y, guards := guardedArgs5(x)
	tables, lits := slices.Clone(y.w.Tables[:cap(y.w.Tables)]), copied(y.c[:cap(y.c)])
	var lists [][]impl.Lit
	for _, d := range y.l[:cap(y.l)] {
		lists = append(lists, copied(d[:cap(d)]))
	}
	plain, got := c.run(x), c.run(y)
	if !got.equal(plain) {
		t.Fatalf("%s of %v: %v, then %v", c.name, x, plain, got)
	}
	if !got.ok && !got.equal(results5{}) {
		t.Fatalf("%s of %v fails with %v", c.name, x, got)
	}
	unchanged := func(what string) {
		same := func(c, d []impl.Lit) bool { return sameClauses(c, d[:cap(d)]) }
		if !sameLists(y.w.Tables[:cap(y.w.Tables)], tables) || !sameClauses(y.c[:cap(y.c)], lits) || !slices.EqualFunc(lists, y.l[:cap(y.l)], same) {
			t.Fatalf("%s of %v: %s modifies a list of lists", c.name, x, what)
		}
		reportChanged(t, c.name+", "+what, guards)
	}
	unchanged("the call")
	checkOwn(t, c.name, append([][]int{got.list}, got.w.Tables...))
	clear(got.w.Tables[:cap(got.w.Tables)])
	unchanged("overwriting the result")
	again := c.run(y)
	if !again.equal(plain) {
		t.Fatalf("%s of %v: %v, then %v", c.name, x, plain, again)
	}
	for _, g := range guards {
		fill(g.array)
	}
	clear(y.w.Tables)
	clear(y.c)
	clear(y.l)
	if !again.equal(plain) {
		t.Fatalf("%s of %v shares memory", c.name, x)
	}
}

// TestPromise19Own5: the results may be overwritten without an effect on later results.
func TestPromise19Own5(t *testing.T) {
	x := args5{s: mixedSign(), size: 1, c: clause("c(A,L)=a"), w: otherMixed(), l: clauses("c(A,B)=a")}
	for _, c := range calls5() {
		for _, name := range []string{"FalseAt", "WorldAt", "FindWorld"} {
			if c.name != name {
				continue
			}
			first, second := c.run(x), c.run(x)
			if !first.ok || !first.equal(second) || !first.equal(wanted5(name, x)) {
				t.Fatal(name, first, second)
			}
			checkOwn(t, name, append([][]int{first.list}, first.w.Tables...))
			if third := c.run(x); !second.equal(third) {
				t.Error(name, second, third)
			}
		}
	}
}

// TestPromise19Self5: one list may be several arguments, or stand several times in one.
func TestPromise19Self5(t *testing.T) {
	zeros := make([]int, 12)
	s := impl.Sign{Arity: zeros[:10]}
	w := impl.World{Size: 2, Tables: slices.Repeat([][]int{zeros[:1]}, 10)}
	c := slices.Repeat([]impl.Lit{{Pos: true, L: zeros[:1], R: zeros[:1]}}, 8)
	l := slices.Repeat([][]impl.Lit{c}, 40)
	for range 2 {
		if n, ok := impl.EvalIn(s, w, zeros[:1], zeros); n != 0 || !ok || !impl.GoodWorld(s, w) {
			t.Error("EvalIn", n, ok)
		}
		if is, ok := impl.HoldsAt(s, w, c, zeros); !is || !ok {
			t.Error("HoldsAt", is, ok)
		}
		if env, ok := impl.FalseAt(s, w, c); len(env) > 0 || ok {
			t.Error("FalseAt", env, ok)
		}
		if is, ok := impl.AllHold(s, w, l); !is || !ok {
			t.Error("AllHold", is, ok)
		}
		if got, ok := impl.FindWorld(s, l, 2); !sameWorlds(got, w) || !ok {
			t.Error("FindWorld", got, ok)
		}
	}
	if !slices.Equal(zeros, make([]int, 12)) {
		t.Error("an argument is modified", zeros)
	}
}

// TestPromise19Capacity5: what stands behind the length would make each of these arguments valid, or change the result.
func TestPromise19Capacity5(t *testing.T) {
	s, w := modelSign(), modelWorld()
	short := modelWorld()
	short.Tables = short.Tables[:2]
	for _, bad := range []impl.World{short, changedTable(w, 2, []int{1, 0}[:1]), changedTable(w, 0, []int{0}[:0])} {
		if impl.GoodWorld(s, bad) {
			t.Errorf("GoodWorld(%v): true", bad)
		}
	}
	if n, ok := impl.EvalIn(s, w, []int{1}, make([]int, 12)[:11]); n != 0 || ok {
		t.Error("EvalIn reads behind the length", n, ok)
	}
	if is, ok := impl.HoldsAt(s, w, clause("a=b|a=a")[:1], envOf()); is || !ok {
		t.Error("HoldsAt reads behind the length", is, ok)
	}
	if is, ok := impl.AllHold(s, w, clauses("a=a a=b")[:1]); !is || !ok {
		t.Error("AllHold reads behind the length", is, ok)
	}
	if n, ok := impl.CountWorlds(impl.Sign{Arity: []int{0, 0, 1, 3}[:3]}, 2); n != 16 || !ok {
		t.Error("CountWorlds reads behind the length", n, ok)
	}
}

// TestPromise19Huge5: arguments far above the limits.
func TestPromise19Huge5(t *testing.T) {
	huge := make([]int, 1<<20)
	good := args5{s: modelSign(), w: modelWorld(), x: []int{2, -1}, c: clause("c(A)=b"), env: envOf(1), l: clauses("c(A)=b|a=b"), size: 2, no: 6}
	changes := []func(x *args5){
		func(x *args5) {},
		func(x *args5) { x.s.Arity = huge },
		func(x *args5) { x.w.Size = 1 << 62 },
		func(x *args5) { x.w.Tables = make([][]int, 1<<20) },
		func(x *args5) { x.w.Tables = [][]int{huge, huge, huge} },
		func(x *args5) { x.w.Tables = [][]int{{0}, {1}, huge} },
		func(x *args5) { x.x = huge },
		func(x *args5) { x.c = slices.Repeat(clause("b=b"), 1<<20) },
		func(x *args5) { x.c = []impl.Lit{{Pos: true, L: huge, R: huge}} },
		func(x *args5) { x.env = huge },
		func(x *args5) { x.l = make([][]impl.Lit, 1<<20) },
		func(x *args5) { x.l = [][]impl.Lit{nil, slices.Repeat(clause("b=b"), 1<<20)} },
		func(x *args5) { x.size = 1 << 62 },
		func(x *args5) { x.no = 1 << 62 },
	}
	for _, c := range calls5() {
		for i, change := range changes {
			x := good
			change(&x)
			if got, want := c.run(x), wanted5(c.name, x); !got.equal(want) {
				t.Errorf("%s with huge argument %d: %v instead of %v", c.name, i, got, want)
			}
		}
	}
}

// TestPromise19Longest5: the greatest valid arguments, for which trying all assignments of all worlds takes longest.
func TestPromise19Longest5(t *testing.T) {
	s := impl.Sign{Arity: []int{0, 0, 0, 0, 1}}
	var c []impl.Lit
	for v := range 7 {
		long := slices.Concat(slices.Repeat([]int{4}, 39), []int{-12 + v%6})
		c = append(c, impl.Lit{L: long, R: long})
	}
	c = append(c, impl.Lit{Pos: true, L: chain4(-12), R: chain4(-12)})
	never := append(slices.Repeat([][]impl.Lit{c}, 39), c[:7])
	if got, ok := impl.FindWorld(s, never, 3); !sameWorlds(got, impl.World{}) || ok {
		t.Error("FindWorld", got, ok)
	}
	first, _ := impl.WorldAt(s, 3, 0)
	if got, ok := impl.FindWorld(s, never[:39], 3); !sameWorlds(got, first) || !ok {
		t.Error("FindWorld", got, ok)
	}
}

// chain4 has 40 integers.
func chain4(last int) []int { return append(slices.Repeat([]int{4}, 39), last) }
