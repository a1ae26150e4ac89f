package tests

import (
	"slices"

	"loop.example/g00682/impl"
)

const (
	leastInt    = -1 << 63
	greatestInt = 1<<63 - 1
)

// tree is a second representation of terms, so that expected results do not come from prefix lists.
type tree struct {
	n    int
	args []*tree
}

func leaf(n int) *tree { return &tree{n: n} }

func (x *tree) list() []int {
	l := []int{x.n}
	for _, a := range x.args {
		l = append(l, a.list()...)
	}
	return l
}

func (x *tree) size() int {
	n := 1
	for _, a := range x.args {
		n += a.size()
	}
	return n
}

func (x *tree) depth() int {
	d := 0
	for _, a := range x.args {
		d = max(d, a.depth())
	}
	return d + 1
}

func (x *tree) count(n int) int {
	c := 0
	if x.n == n {
		c = 1
	}
	for _, a := range x.args {
		c += a.count(n)
	}
	return c
}

func (x *tree) text() string {
	if x.n < 0 {
		return string(rune('A' - 1 - x.n))
	}
	text := string(rune('a' + x.n))
	for i, a := range x.args {
		if i == 0 {
			text += "("
		} else {
			text += ","
		}
		text += a.text()
	}
	if len(x.args) > 0 {
		text += ")"
	}
	return text
}

// nodes lists the subterms in prefix order: the place in the list is the index in the term.
func (x *tree) nodes() []*tree {
	l := []*tree{x}
	for _, a := range x.args {
		l = append(l, a.nodes()...)
	}
	return l
}

func (x *tree) replaced(part, by *tree) *tree {
	if x == part {
		return by
	}
	y := leaf(x.n)
	for _, a := range x.args {
		y.args = append(y.args, a.replaced(part, by))
	}
	return y
}

func (x *tree) shifted(by int) *tree {
	y := leaf(x.n)
	if x.n < 0 {
		y.n = x.n - by
	}
	for _, a := range x.args {
		y.args = append(y.args, a.shifted(by))
	}
	return y
}

func (x *tree) vars() []int {
	var l []int
	for _, y := range x.nodes() {
		if y.n < 0 && !slices.Contains(l, -1-y.n) {
			l = append(l, -1-y.n)
		}
	}
	slices.Sort(l)
	return l
}

func goodSign(s impl.Sign) bool {
	l := s.Arity
	return len(l) > 0 && len(l) <= 10 && l[0] == 0 && slices.Min(l) >= 0 && slices.Max(l) <= 3
}

// treeOf is nil unless the list is exactly one term of any length.
func treeOf(s impl.Sign, t []int) *tree {
	x, rest := takeTree(s, t)
	if len(rest) > 0 {
		return nil
	}
	return x
}

func takeTree(s impl.Sign, t []int) (*tree, []int) {
	if len(t) == 0 || t[0] >= len(s.Arity) || t[0] < -12 {
		return nil, nil
	}
	x := leaf(t[0])
	rest := t[1:]
	if t[0] < 0 {
		return x, rest
	}
	for range s.Arity[t[0]] {
		var a *tree
		a, rest = takeTree(s, rest)
		if a == nil {
			return nil, nil
		}
		x.args = append(x.args, a)
	}
	return x, rest
}

// treesOf lists all terms with exactly that many nodes over the symbols and the variables of the list.
func treesOf(s impl.Sign, vars []int, size int) []*tree {
	var out []*tree
	if size == 1 {
		for _, v := range vars {
			out = append(out, leaf(-1-v))
		}
	}
	for n, arity := range s.Arity {
		for _, args := range rowsOf(s, vars, arity, size-1) {
			out = append(out, &tree{n: n, args: args})
		}
	}
	return out
}

func rowsOf(s impl.Sign, vars []int, many, size int) [][]*tree {
	if many == 0 && size == 0 {
		return [][]*tree{nil}
	}
	var out [][]*tree
	for first := 1; many > 0 && first <= size; first++ {
		rows := rowsOf(s, vars, many-1, size-first)
		if len(rows) == 0 {
			continue
		}
		for _, x := range treesOf(s, vars, first) {
			for _, row := range rows {
				out = append(out, append([]*tree{x}, row...))
			}
		}
	}
	return out
}

// dice yields the same numbers in each run, so that a failure can be repeated.
type dice struct{ state uint64 }

func (d *dice) below(n int) int {
	d.state = d.state*6364136223846793005 + 1442695040888963407
	return int(d.state>>33) % n
}

func (d *dice) sign() impl.Sign {
	s := impl.Sign{Arity: []int{0}}
	for range d.below(10) {
		s.Arity = append(s.Arity, d.below(4))
	}
	return s
}

// tree returns a term with at most that many nodes.
func (d *dice) tree(s impl.Sign, most int) *tree {
	n := d.below(len(s.Arity)+3) - 3
	if n < 0 {
		return leaf(-1 - d.below(12))
	}
	if s.Arity[n] >= most {
		return leaf(0)
	}
	x := leaf(n)
	left := most - 1
	for i := range s.Arity[n] {
		later := s.Arity[n] - 1 - i
		a := d.tree(s, left-later)
		left -= a.size()
		x.args = append(x.args, a)
	}
	return x
}
