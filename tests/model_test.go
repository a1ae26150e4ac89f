package tests

import "loop.example/g00682/impl"

// model is an interpretation that the tests enumerate and evaluate without the program.
type model struct {
	size   int
	tables [][]int
}

func (m model) value(x *tree, env []int) int {
	if x.n < 0 {
		return env[-1-x.n]
	}
	at := 0
	for _, a := range x.args {
		at = at*m.size + m.value(a, env)
	}
	return m.tables[x.n][at]
}

func (m model) holdsAt(row []lit, env []int) bool {
	for _, x := range row {
		if (m.value(x.l, env) == m.value(x.r, env)) == x.pos {
			return true
		}
	}
	return false
}

// holds tries all values of the first variables, of which there are that many.
func (m model) holds(row []lit, vars int) bool {
	env := make([]int, 12)
	for {
		if !m.holdsAt(row, env) {
			return false
		}
		if !countUp(env[:vars], m.size) {
			return true
		}
	}
}

// countUp adds 1 to a number with these digits and fails if there is no greater one.
func countUp(digits []int, base int) bool {
	for i := range digits {
		digits[i]++
		if digits[i] < base {
			return true
		}
		digits[i] = 0
	}
	return false
}

// modelsOf are all models of that size.
func modelsOf(s impl.Sign, size int) []model {
	many := 0
	for _, arity := range s.Arity {
		many += power(size, arity)
	}
	digits := make([]int, many)
	var all []model
	for {
		m := model{size: size}
		rest := append([]int(nil), digits...)
		for _, arity := range s.Arity {
			long := power(size, arity)
			m.tables = append(m.tables, rest[:long])
			rest = rest[long:]
		}
		all = append(all, m)
		if !countUp(digits, size) {
			return all
		}
	}
}

func power(base, n int) int {
	p := 1
	for range n {
		p *= base
	}
	return p
}
