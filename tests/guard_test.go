package tests

import "slices"

// guard keeps a list in the middle of a larger array, where reading or writing outside of the list shows.
type guard struct {
	array, was, list []int
}

// guarded puts arguments behind the list that would continue a term, so that reading them changes results.
func guarded(l []int) *guard {
	g := &guard{}
	g.array = append(g.array, 0, -1)
	g.array = append(g.array, l...)
	g.array = append(g.array, 0, -1, 0, 0, -1)
	g.was = slices.Clone(g.array)
	g.list = g.array[2 : 2+len(l)]
	return g
}

func (g *guard) changed() bool { return !slices.Equal(g.array, g.was) }

func fill(l []int) {
	for i := range l {
		l[i] = 77
	}
}
