package impl

import (
	"slices"
	"strings"
)

const MaxSyms = 10
const MaxArity = 3
const MaxVars = 12
const MaxTerm = 40

const maxTermText = 200

const symLetters = "abcdefghij"
const varLetters = "ABCDEFGHIJKL"

type Sign struct {
	Arity []int
}

// varMarks is a set of variables: an array, so that two sets are compared by value.
type varMarks [MaxVars]bool

func GoodSign(s Sign) bool {
	if len(s.Arity) < 1 || len(s.Arity) > MaxSyms || s.Arity[0] != 0 {
		return false
	}
	for _, n := range s.Arity {
		if n < 0 || n > MaxArity {
			return false
		}
	}
	return true
}

func GoodTerm(s Sign, t []int) bool {
	// The length comes first: a call must not take long because of a huge list.
	if len(t) > MaxTerm || !GoodSign(s) {
		return false
	}
	end, ok := termEnd(s, t, 0)
	return ok && end == len(t)
}

// termEnd fails if no term begins at the index, so GoodTerm can use it before a term is known to be valid.
func termEnd(s Sign, t []int, at int) (int, bool) {
	missing := 1
scan:
	for i := at; i < len(t); i++ {
		n := t[i]
		switch {
		case n >= 0 && n < len(s.Arity):
			missing += s.Arity[n] - 1
		case n < 0 && n >= -MaxVars:
			missing--
		default:
			break scan
		}
		if missing == 0 {
			return i + 1, true
		}
	}
	return 0, false
}

// goodTerms reports whether a list has at most that many terms and all of them are valid.
func goodTerms(s Sign, l [][]int, most int) bool {
	// The signature is checked here too, because the list may be empty.
	if len(l) > most || !GoodSign(s) {
		return false
	}
	for _, t := range l {
		if !GoodTerm(s, t) {
			return false
		}
	}
	return true
}

func hasIndex(s Sign, t []int, at int) bool {
	return GoodTerm(s, t) && at >= 0 && at < len(t)
}

func EndOf(s Sign, t []int, at int) (int, bool) {
	if !hasIndex(s, t, at) {
		return 0, false
	}
	return termEnd(s, t, at)
}

func ArgsAt(s Sign, t []int, at int) ([]int, bool) {
	if !hasIndex(s, t, at) {
		return nil, false
	}
	return argStarts(s, t, at), true
}

func argStarts(s Sign, t []int, at int) []int {
	if t[at] < 0 {
		return nil
	}
	var starts []int
	next := at + 1
	for range s.Arity[t[at]] {
		starts = append(starts, next)
		next, _ = termEnd(s, t, next)
	}
	return starts
}

func PartAt(s Sign, t []int, at int) ([]int, bool) {
	if !hasIndex(s, t, at) {
		return nil, false
	}
	end, _ := termEnd(s, t, at)
	return slices.Clone(t[at:end]), true
}

func ReplaceAt(s Sign, t []int, at int, u []int) ([]int, bool) {
	if !hasIndex(s, t, at) || !GoodTerm(s, u) {
		return nil, false
	}
	end, _ := termEnd(s, t, at)
	out := slices.Concat(t[:at], u, t[end:])
	if len(out) > MaxTerm {
		return nil, false
	}
	return out, true
}

// marksOf also takes several terms, one behind the other.
func marksOf(t []int) varMarks {
	var marks varMarks
	for _, n := range t {
		if n < 0 {
			marks[-1-n] = true
		}
	}
	return marks
}

func VarsOf(s Sign, t []int) ([]int, bool) {
	if !GoodTerm(s, t) {
		return nil, false
	}
	return marksOf(t).vars(), true
}

// vars empties its own copy of the set.
func (left varMarks) vars() []int {
	var vars []int
	for v := 0; left != (varMarks{}); v++ {
		if left[v] {
			vars = append(vars, v)
			left[v] = false
		}
	}
	return vars
}

func CountOf(s Sign, t []int, n int) (int, bool) {
	if !GoodTerm(s, t) {
		return 0, false
	}
	count := 0
	for _, m := range t {
		if m == n {
			count++
		}
	}
	return count, true
}

func DepthOf(s Sign, t []int) (int, bool) {
	if !GoodTerm(s, t) {
		return 0, false
	}
	// From the back, because the arguments of a symbol stand behind it.
	var depths [MaxTerm]int
	for at := len(t) - 1; at >= 0; at-- {
		deepest := 0
		for _, a := range argStarts(s, t, at) {
			deepest = max(deepest, depths[a])
		}
		depths[at] = 1 + deepest
	}
	return depths[0], true
}

func ShiftVars(s Sign, t []int, by int) ([]int, bool) {
	if !GoodTerm(s, t) || by < 0 || by > MaxVars {
		return nil, false
	}
	out := slices.Clone(t)
	for i, n := range out {
		if n < 0 {
			out[i] = n - by
		}
	}
	if !GoodTerm(s, out) {
		return nil, false
	}
	return out, true
}

func TermText(s Sign, t []int) (string, bool) {
	if !GoodTerm(s, t) {
		return "", false
	}
	return textAt(s, t, 0), true
}

func textAt(s Sign, t []int, at int) string {
	text := letterOf(t[at])
	args := argStarts(s, t, at)
	if len(args) == 0 {
		return text
	}
	for i, a := range args {
		text += markBefore(i) + textAt(s, t, a)
	}
	return text + ")"
}

func letterOf(n int) string {
	if n < 0 {
		return varLetters[-1-n : -n]
	}
	return symLetters[n : n+1]
}

// markBefore is shared by writing and reading, so that they cannot disagree.
func markBefore(arg int) string {
	if arg == 0 {
		return "("
	}
	return ","
}

func ReadTerm(s Sign, text string) ([]int, int, bool) {
	if !GoodSign(s) || len(text) > maxTermText {
		return nil, 0, false
	}
	t, at, ok := scanTerm(s, text, 0)
	if !ok || at < len(text) {
		return nil, at, false
	}
	// Only now, because a fault in the text counts regardless of the length of the term.
	if len(t) > MaxTerm {
		return nil, 0, false
	}
	return t, at, true
}

// scanTerm returns the term that begins at the index and the index behind it, or the position of the first fault.
func scanTerm(s Sign, text string, at int) ([]int, int, bool) {
	if at >= len(text) {
		return nil, len(text), false
	}
	n, ok := numberOf(s, text[at])
	if !ok {
		return nil, at, false
	}
	t := []int{n}
	at++
	if n < 0 || s.Arity[n] == 0 {
		return t, at, true
	}
	for i := range s.Arity[n] {
		if !strings.HasPrefix(text[at:], markBefore(i)) {
			return nil, at, false
		}
		part, end, ok := scanTerm(s, text, at+1)
		if !ok {
			return nil, end, false
		}
		t = append(t, part...)
		at = end
	}
	if !strings.HasPrefix(text[at:], ")") {
		return nil, at, false
	}
	return t, at + 1, true
}

func numberOf(s Sign, letter byte) (int, bool) {
	if v := strings.IndexByte(varLetters, letter); v >= 0 {
		return -1 - v, true
	}
	n := strings.IndexByte(symLetters, letter)
	if n < 0 || n >= len(s.Arity) {
		return 0, false
	}
	return n, true
}
