package tests

import (
	"testing"

	"loop.example/g00682/impl"
)

// arguments are those of the calls of a chapter; each function takes what it needs.
type arguments[A any] interface {
	// clauses are the clauses among the arguments.
	clauses() [][]impl.Lit
	// guarded copies the arguments into guards.
	guarded() (A, []*guard)
}

// results are those of a call.
type results[R any] interface {
	equal(q R) bool
	succeeded() bool
	// finds reports whether there is a result that is not the zero value.
	finds() bool
	// parts are all lists of integers, also those behind the length of another list.
	parts() [][]int
	// wipe overwrites the lists of which the parts are elements, and those of other values.
	wipe()
}

type callOf[A, R any] struct {
	name string
	run  func(x A) R
}

// atLeast is how often each function must succeed, fail and find something.
type atLeast struct{ succeed, fail, find int }

// checkArguments compares all calls with all arguments.
func checkArguments[A any, R results[R]](t *testing.T, calls []callOf[A, R], each func(visit func(x A)), wanted func(name string, x A) R, least atLeast) {
	t.Helper()
	seen := map[string]atLeast{}
	each(func(x A) {
		for _, c := range calls {
			got, n := c.run(x), seen[c.name]
			if want := wanted(c.name, x); !got.equal(want) {
				t.Fatalf("%s: %v instead of %v for %v", c.name, got, want, x)
			}
			if got.succeeded() {
				n.succeed++
			} else {
				n.fail++
			}
			if got.finds() {
				n.find++
			}
			seen[c.name] = n
		}
	})
	for _, c := range calls {
		if n := seen[c.name]; n.succeed < least.succeed || n.fail < least.fail || n.find < least.find {
			t.Errorf("%s succeeds %d times, fails %d times and finds something %d times", c.name, n.succeed, n.fail, n.find)
		}
	}
}

// checkKept calls a function with guarded arguments. It reports an argument that is modified, a result that depends on what
// stands behind an argument or on an earlier call, and a result that shares memory with an argument or with itself.
func checkKept[A arguments[A], R results[R]](t *testing.T, c callOf[A, R], x A) {
	t.Helper()
	y, guards := x.guarded()
	var before [][]impl.Lit
	for _, l := range y.clauses() {
		before = append(before, copied(l[:cap(l)]))
	}
	var none R
	plain, got := c.run(x), c.run(y)
	if !got.equal(plain) {
		t.Fatalf("%s of %v: %v, then %v", c.name, x, plain, got)
	}
	if !got.succeeded() && !got.equal(none) {
		t.Fatalf("%s of %v fails with %v", c.name, x, got)
	}
	unchanged := func(what string) {
		for i, l := range y.clauses() {
			if !sameClauses(l[:cap(l)], before[i]) {
				t.Fatalf("%s of %v: %s modifies a list of literals", c.name, x, what)
			}
		}
		reportChanged(t, c.name+", "+what, guards)
	}
	unchanged("the call")
	checkOwn(t, c.name, got.parts())
	got.wipe()
	unchanged("overwriting the result")
	again := c.run(y)
	if !again.equal(plain) {
		t.Fatalf("%s of %v: %v, then %v", c.name, x, plain, again)
	}
	for _, g := range guards {
		fill(g.array)
	}
	for _, l := range y.clauses() {
		clear(l)
	}
	if !again.equal(plain) {
		t.Fatalf("%s of %v shares memory", c.name, x)
	}
}

// watched are the calls, which also report a list of lists among the arguments that is modified.
func watched[A interface{ lists() string }, R any](t *testing.T, calls []callOf[A, R]) []callOf[A, R] {
	var out []callOf[A, R]
	for _, c := range calls {
		run := func(x A) R {
			before := x.lists()
			r := c.run(x)
			if x.lists() != before {
				t.Fatalf("%s modifies a list of lists: %s was %s", c.name, x.lists(), before)
			}
			return r
		}
		out = append(out, callOf[A, R]{c.name, run})
	}
	return out
}

// checkRepeated calls each function three times. The results must be as expected, and overwriting the first one must not
// change a later one. The function of that name may fail.
func checkRepeated[A any, R results[R]](t *testing.T, calls []callOf[A, R], x A, wanted func(name string, x A) R, failing string) {
	t.Helper()
	for _, c := range calls {
		first, second := c.run(x), c.run(x)
		if !first.succeeded() && c.name != failing || !first.equal(second) || !first.equal(wanted(c.name, x)) {
			t.Fatal(c.name, first, second)
		}
		checkOwn(t, c.name, first.parts())
		first.wipe()
		if third := c.run(x); !second.equal(third) {
			t.Error(c.name, second, third)
		}
	}
}

// checkChanged changes good arguments in each way in turn.
func checkChanged[A any, R results[R]](t *testing.T, calls []callOf[A, R], good A, changes []func(x *A), wanted func(name string, x A) R) {
	t.Helper()
	for _, c := range calls {
		for i, change := range changes {
			x := good
			change(&x)
			if got, want := c.run(x), wanted(c.name, x); !got.equal(want) {
				t.Errorf("%s with change %d: %v instead of %v", c.name, i, got, want)
			}
		}
	}
}
