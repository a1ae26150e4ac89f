package tests

import (
	"slices"
	"strings"

	"loop.example/g00682/impl"
)

// clause is written as in the document; its terms are read without the program: the letters of a term, without its marks,
// are its integers in prefix order.
func clause(text string) []impl.Lit {
	if text == "-" {
		return nil
	}
	var c []impl.Lit
	for _, part := range strings.Split(text, "|") {
		at := strings.IndexAny(part, "=#")
		c = append(c, impl.Lit{Pos: part[at] == '=', L: lettersOf(part[:at]), R: lettersOf(part[at+1:])})
	}
	return c
}

func lettersOf(text string) []int {
	var l []int
	for _, b := range []byte(text) {
		switch {
		case b >= 'a' && b <= 'j':
			l = append(l, int(b-'a'))
		case b >= 'A' && b <= 'L':
			l = append(l, -1-int(b-'A'))
		}
	}
	return l
}

func sameLit(a, b impl.Lit) bool {
	return a.Pos == b.Pos && slices.Equal(a.L, b.L) && slices.Equal(a.R, b.R)
}

func sameClauses(a, b []impl.Lit) bool { return slices.EqualFunc(a, b, sameLit) }

// copied shares no memory with the clause.
func copied(c []impl.Lit) []impl.Lit {
	var out []impl.Lit
	for _, x := range c {
		out = append(out, impl.Lit{Pos: x.Pos, L: slices.Clone(x.L), R: slices.Clone(x.R)})
	}
	return out
}

func listsIn(c []impl.Lit) [][]int {
	var l [][]int
	for _, x := range c {
		l = append(l, x.L, x.R)
	}
	return l
}

// lit is a second representation of literals, and a list of them one of clauses.
type lit struct {
	pos  bool
	l, r *tree
}

func (x lit) made() impl.Lit { return impl.Lit{Pos: x.pos, L: x.l.list(), R: x.r.list()} }

func (x lit) swapped() lit { return lit{x.pos, x.r, x.l} }

func (x lit) negated() lit { return lit{!x.pos, x.l, x.r} }

func (x lit) text() string {
	if x.pos {
		return x.l.text() + "=" + x.r.text()
	}
	return x.l.text() + "#" + x.r.text()
}

func (x lit) isTrivial() bool { return x.l.text() == x.r.text() }

func (x lit) equivalent(y lit) bool { return x.text() == y.text() || x.swapped().text() == y.text() }

// counted is the list of terms by which the document compares literals.
func (x lit) counted() []*tree {
	if x.pos {
		return []*tree{x.l, x.r}
	}
	return []*tree{x.l, x.r, x.l, x.r}
}

func madeOf(row []lit) []impl.Lit {
	var c []impl.Lit
	for _, x := range row {
		c = append(c, x.made())
	}
	return c
}

// goodLits holds the trees of a valid clause.
func goodLits(s impl.Sign, c []impl.Lit) ([]lit, bool) {
	if len(c) > 8 || !goodSign(s) {
		return nil, false
	}
	var row []lit
	for _, x := range c {
		y := lit{x.Pos, goodTree(s, x.L), goodTree(s, x.R)}
		if y.l == nil || y.r == nil {
			return nil, false
		}
		row = append(row, y)
	}
	return row, true
}

func textOfLits(row []lit) string {
	var texts []string
	for _, x := range row {
		texts = append(texts, x.text())
	}
	if len(texts) == 0 {
		return "-"
	}
	return strings.Join(texts, "|")
}

func varsOfLits(row []lit) []int {
	var l []int
	for _, x := range row {
		l = append(l, x.l.vars()...)
		l = append(l, x.r.vars()...)
	}
	slices.Sort(l)
	return slices.Compact(l)
}

func weightOfLits(row []lit) int {
	n := 0
	for _, x := range row {
		n += x.l.size() + x.r.size()
	}
	return n
}

func isTautology(row []lit) bool {
	for i, x := range row {
		if x.pos && x.isTrivial() || slices.ContainsFunc(row[i:], x.negated().equivalent) {
			return true
		}
	}
	return false
}

// tidyLits works in two passes, as the document describes it.
func tidyLits(row []lit) []lit {
	var some, out []lit
	for _, x := range row {
		if x.pos || !x.isTrivial() {
			some = append(some, x)
		}
	}
	for i, x := range some {
		if !slices.ContainsFunc(some[:i], x.equivalent) {
			out = append(out, x)
		}
	}
	return out
}

func comparedLits(x, y lit) int { return orderedLists(x.counted(), y.counted()) }

func maximalLits(row []lit) []int {
	var at []int
	for i, x := range row {
		beaten := false
		for j, y := range row {
			beaten = beaten || i != j && comparedLits(y, x) == 1
		}
		if !beaten {
			at = append(at, i)
		}
	}
	return at
}

// lit returns a literal of small terms, often one whose terms are equal.
func (d *dice) lit(s impl.Sign, most int) lit {
	x := lit{d.below(2) == 0, d.tree(s, 1+d.below(most)), d.tree(s, 1+d.below(most))}
	if d.below(8) == 0 {
		x.r = x.l
	}
	return x
}

// lits returns a clause of at most that many literals, many of which are related to earlier ones.
func (d *dice) lits(s impl.Sign, many, most int) []lit {
	var row []lit
	for range d.below(many + 1) {
		x := d.lit(s, most)
		if len(row) > 0 {
			old := row[d.below(len(row))]
			switch d.below(7) {
			case 0:
				x = old
			case 1:
				x = old.swapped()
			case 2:
				x = old.negated()
			case 3:
				x = old.negated().swapped()
			case 4:
				x = lit{old.pos, old.l, d.changed(s, old.r)}
			}
		}
		row = append(row, x)
	}
	return row
}
