package tests

import (
	"slices"
	"strings"
	"testing"

	"loop.example/g00682/impl"
)

func TestReadClauseGood(t *testing.T) {
	texts := []string{
		"d(A)=b|c#c|b=d(A)", "-", "a=a", "A#L", "f(d(A),b)=c", "c#f(d(A),b)", "b=c|b=c", "b#c|c#b", "L=e(f(K,a))|a#a|d(J)=J", eightLits,
		deepText(39) + "#" + deepText(39), "b=" + deepText(39) + "|" + deepText(39) + "=b",
	}
	for _, text := range texts {
		got, at, ok := impl.ReadClause(sampleSign(), text)
		if !sameClauses(got, clause(text)) || at != len(text) || !ok {
			t.Errorf("ReadClause(%q): %v, %d, %v", text, got, at, ok)
		}
	}
	one := impl.Sign{Arity: []int{0}}
	if got, at, ok := impl.ReadClause(one, "a#A"); !sameClauses(got, clause("a#A")) || at != 3 || !ok {
		t.Errorf("ReadClause with one symbol: %v, %d, %v", got, at, ok)
	}
}

// deepText is the text of a chain; it has 3 bytes for each d.
func deepText(many int) string {
	return strings.Repeat("d(", many) + "b" + strings.Repeat(")", many)
}

func TestReadClauseFaults(t *testing.T) {
	s := sampleSign()
	tests := []struct {
		text string
		at   int
	}{
		{"b=c|", 4},
		// The text ends too early.
		{"", 0},
		{"b", 1},
		{"b=", 2},
		{"b#", 2},
		{"d", 1},
		{"d(A", 3},
		{"d(A)", 4},
		{"b=d", 3},
		{"b=d(", 4},
		{"b#f(A,", 6},
		{"b=c|A", 5},
		{"b=c|A#", 6},
		{"b=c|A#d(A", 9},
		{eightLits[:len(eightLits)-1], len(eightLits) - 1},
		// `-` with something behind it, or behind a literal.
		{"--", 1},
		{"-|", 1},
		{"-=", 1},
		{"-b=c", 1},
		{"-|b=c", 1},
		{"- ", 1},
		{"-\n", 1},
		{"-\x00", 1},
		{"-(", 1},
		{"b=c|-", 4},
		{"b=-", 2},
		{"-=b", 1},
		// A byte does not fit.
		{" b=c", 0},
		{"=b", 0},
		{"#b", 0},
		{"|b=c", 0},
		{"(b=c)", 0},
		{"M=b", 0},
		{"g=b", 0},
		{"~b=c", 0},
		{"1", 0},
		{"\x00", 0},
		{"\xff=b", 0},
		{"\u00e4=b", 0},
		{"b b", 1},
		{"b =c", 1},
		{"bb", 1},
		{"b|c=b", 1},
		{"b-c", 1},
		{"b!=c", 1},
		{"b)=c", 1},
		{"b,c", 1},
		{"b\x00", 1},
		{"b= c", 2},
		{"b==c", 2},
		{"b=#c", 2},
		{"b##c", 2},
		{"b#=c", 2},
		{"b=|", 2},
		{"b=g", 2},
		{"b=M|b=c", 2},
		{"b=c=b", 3},
		{"b=c#b", 3},
		{"b=cb", 3},
		{"b=c ", 3},
		{"b=c\n", 3},
		{"b=c)", 3},
		{"b=c,b=c", 3},
		{"b=c&b=c", 3},
		{"b=c\u00e4", 3},
		{"b=c||b=c", 4},
		{"b=c| b=c", 4},
		{"b=c|=b", 4},
		{"b=c|g=b", 4},
		{"b=c|b|b=c", 5},
		{"b=c|b#c|c#b|", 12},
		{"b=c|b#c|c#b|\n", 12},
		// A term is not one of the signature.
		{"d=b", 1},
		{"d()=b", 2},
		{"d(b,c)=b", 3},
		{"b(c)=b", 1},
		{"A(c)=b", 1},
		{"f(b)=c", 3},
		{"f(b,c,b)=c", 5},
		{"b=f(b=c", 5},
		{"b=f(b|c", 5},
		{"b=d(g)", 4},
		{"b=c|f(A,d(M))=b", 10},
		{eightLits + "#", len(eightLits)},
		{eightLits + "|", len(eightLits) + 1},
		{eightLits + "|b=g", len(eightLits) + 3},
	}
	for _, c := range tests {
		got, at, ok := impl.ReadClause(s, c.text)
		if len(got) != 0 || at != c.at || ok {
			t.Errorf("ReadClause(%q): %v, %d, %v, expected position %d", c.text, got, at, ok, c.at)
		}
	}
	for _, bad := range badSigns() {
		for _, text := range []string{"-", "", "-b", "A=A", "A=", "A#B|", "a=a", "b=c|d(A)=b"} {
			if got, at, ok := impl.ReadClause(bad, text); len(got) != 0 || at != 0 || ok {
				t.Errorf("ReadClause(%q) with %d symbols: %v, %d, %v", text, len(bad.Arity), got, at, ok)
			}
		}
	}
}

// TestReadClauseMany: for more than 8 literals, or a term of more than 40 integers, the position is 0, unless there is a
// fault or the text ends too early.
func TestReadClauseMany(t *testing.T) {
	nine := eightLits + "|a=b"
	many := strings.Repeat("|b=c", 200)[1:]
	long, longer := deepText(40), deepText(120)
	tests := []struct {
		text string
		at   int
	}{
		{nine, 0},
		{nine + "|", len(nine) + 1},
		{nine + "=", len(nine)},
		{nine[:len(nine)-1], len(nine) - 1},
		{nine + "|a", len(nine) + 2},
		{many, 0},
		{many + "|", 800},
		{many[:797] + "x" + many[798:], 797},
		{strings.Repeat("|b#b", 9)[1:], 0},
		{strings.Repeat("|b=c", 9)[1:], 0},
		{long + "=b", 0},
		{long + "#b", 0},
		{"b=" + long, 0},
		{"b=c|" + long + "#" + long, 0},
		{"b=" + long + "|b=c", 0},
		{longer + "=b", 0},
		{"b#" + longer + "|b=c", 0},
		{eightLits + "|" + long + "=b", 0},
		{long, 121},
		{long + "=", 122},
		{long + "=b|", 124},
		{long + ")", 121},
		{long + "=b)", 123},
		{long + "=g", 122},
		{"b=" + long + "|", 124},
		{"b=" + long[:100], 102},
		{"b=" + long + "=b", 123},
		{long + "=b|b=c|c", 129},
	}
	for _, c := range tests {
		got, at, ok := impl.ReadClause(sampleSign(), c.text)
		if len(got) != 0 || at != c.at || ok {
			t.Errorf("ReadClause(%q): %v, %d, %v, expected position %d", c.text, got, at, ok, c.at)
		}
	}
}

// fullText is the text of a clause of 8 literals with 1000 bytes, and one with 1001 if `over` is true.
func fullText(over bool) string {
	depths := []int{39, 39, 39, 39, 39, 39, 39, 39, 11, 0, 0, 0, 0, 0, 0, 0}
	texts := make([]string, 16)
	for i, d := range depths {
		texts[i] = deepText(d)
	}
	if over {
		texts[8], texts[14], texts[15] = deepText(8), "f(b,c)", "f(c,b)"
	}
	text := ""
	for i := 0; i < 16; i += 2 {
		text += "|" + texts[i] + "=" + texts[i+1]
	}
	return text[1:]
}

// TestReadClauseLong: 1000 bytes are read, one more is not.
func TestReadClauseLong(t *testing.T) {
	s := sampleSign()
	full, over := fullText(false), fullText(true)
	if len(full) != 1000 || len(over) != 1001 {
		t.Fatal("the texts have the wrong lengths", len(full), len(over))
	}
	if got, at, ok := impl.ReadClause(s, full); !sameClauses(got, clause(full)) || at != 1000 || !ok {
		t.Errorf("ReadClause of 1000 bytes: %v, %d, %v", got, at, ok)
	}
	if text, ok := impl.ClauseText(s, clause(over)); text != over || !ok {
		t.Errorf("the text of 1001 bytes is not that of a clause: %q, %v", text, ok)
	}
	opened := strings.Repeat("d(", 500)
	tests := []struct {
		text string
		at   int
	}{
		{over, 0},
		{full + "\n", 0},
		{full + "|", 0},
		{full[:999], 999},
		{full[:999] + "|", 999},
		{full[:999] + "x", 999},
		{full[:998] + "|", 998},
		{over[:1000], 1000},
		{over[:999] + ",", 999},
		{"x" + full[1:], 0},
		{"d(x" + full[3:], 2},
		{"d(x" + full[2:], 0},
		{opened, 1000},
		{opened[:999] + "x", 999},
		{opened + "b", 0},
		{opened + "x", 0},
		{"-" + opened[:999], 1},
		{"-" + opened, 0},
		{"b=" + opened, 0},
		{strings.Repeat("b=c|", 250), 1000},
		{strings.Repeat("b=c|", 250) + "b", 0},
		{strings.Repeat("b=c|", 1<<18), 0},
		{strings.Repeat("d(", 1<<19), 0},
		{strings.Repeat("-", 1<<20), 0},
	}
	for _, c := range tests {
		got, at, ok := impl.ReadClause(s, c.text)
		if len(got) != 0 || at != c.at || ok {
			t.Errorf("ReadClause of %d bytes, the first %q: %v, %d, %v, expected position %d", len(c.text), c.text[:min(len(c.text), 9)], got, at, ok, c.at)
		}
	}
}

// clauseFault is the second implementation of the position: a machine with a stack of what has to follow. In it, C stands
// for a clause, T for a term, R for the mark of a literal, M for the end or a further literal, and the rest for themselves.
// It reports also whether the text is complete.
func clauseFault(s impl.Sign, text string) (int, bool) {
	stack := "C"
	for i := range len(text) {
		if stack == "" {
			return i, false
		}
		top, rest := stack[0], stack[1:]
		if top == 'C' && text[i] == '-' {
			stack = ""
			continue
		}
		if top == 'C' {
			top, rest = 'T', "RTM"
		}
		next, ok := afterByte(s, top, text[i])
		if !ok {
			return i, false
		}
		stack = next + rest
	}
	return len(text), stack == "" || stack == "M"
}

// afterByte returns what has to follow a byte within what is on top of the stack.
func afterByte(s impl.Sign, top, b byte) (string, bool) {
	n := int(b) - 'a'
	switch {
	case top == 'T' && n >= 0 && n < len(s.Arity):
		return []string{"", "(T)", "(T,T)", "(T,T,T)"}[s.Arity[n]], true
	case top == 'T':
		return "", b >= 'A' && b <= 'L'
	case top == 'R':
		return "", b == '=' || b == '#'
	case top == 'M':
		return "TRTM", b == '|'
	}
	return "", b == top
}

// checkRead compares ReadClause with the machine and reports whether it succeeds.
func checkRead(t *testing.T, s impl.Sign, text string) bool {
	t.Helper()
	want, complete := clauseFault(s, text)
	var c []impl.Lit
	if complete {
		c = clause(text)
		if _, good := goodLits(s, c); !good {
			c, want, complete = nil, 0, false
		}
	}
	if len(text) > 1000 {
		c, want, complete = nil, 0, false
	}
	got, at, ok := impl.ReadClause(s, text)
	if ok != complete || at != want || !sameClauses(got, c) {
		t.Fatalf("ReadClause(%v, %q): %v, %d, %v, expected %v, %d", s, text, got, at, ok, c, want)
	}
	if !ok {
		return false
	}
	if back, ok := impl.ClauseText(s, got); back != text || !ok {
		t.Fatalf("ClauseText of ReadClause of %q: %q, %v", text, back, ok)
	}
	return true
}

// TestReadClauseAllShort reads every text of a few bytes, and every short continuation of some texts, over an alphabet that
// has each kind of byte.
func TestReadClauseAllShort(t *testing.T) {
	s := impl.Sign{Arity: []int{0, 1, 2}}
	const alphabet = "abcA(),=#|-M"
	beginnings := []struct {
		text string
		most int
	}{{"", 5}, {"a=b", 4}, {"b(A)#", 4}, {"a=A|", 4}, {"a#a|A=", 4}, {"a#a|c(a,b(A))=a", 4}, {"-", 3}, {eightLits[:7] + strings.Repeat("|a=a", 6), 4}}
	read := 0
	for _, b := range beginnings {
		texts := []string{b.text}
		for len(texts) > 0 {
			text := texts[0]
			texts = texts[1:]
			if len(text) < len(b.text)+b.most {
				for _, c := range alphabet {
					texts = append(texts, text+string(c))
				}
			}
			if checkRead(t, s, text) {
				read++
			}
		}
	}
	if read < 30 {
		t.Error("too few texts could be read", read)
	}
}

// TestReadClauseAllBytes tries each byte where the text may go on in each possible way.
func TestReadClauseAllBytes(t *testing.T) {
	const letters = "abcABCDEFGHIJKL"
	places := []place{
		{"", letters + "-"},
		{"-", ""},
		{"b", "("},
		{"b(A)", "=#"},
		{"A", "=#"},
		{"a=", letters},
		{"a#", letters},
		{"a=c(a", ","},
		{"a=c(a,A", ")"},
		{"a#b(a)", "|"},
		{"a=A", "|"},
		{"a=A|", letters},
		{"a=A|a", "=#"},
		{"a=A|a#b(a)", "|"},
	}
	s := impl.Sign{Arity: []int{0, 1, 2}}
	checkAllBytes(t, places, func(text string) (int, int, bool) {
		got, at, ok := impl.ReadClause(s, text)
		return len(got), at, ok
	})
}

// TestReadClauseLarge changes texts of clauses in one place: most have a fault then, but not all.
func TestReadClauseLarge(t *testing.T) {
	const bytes = "abcdjALM(),=#|- "
	d := &dice{state: 41}
	good, bad := 0, 0
	for range 3000 {
		s := d.sign()
		row := d.lits(s, 9, 12)
		text := textOfLits(row)
		if len(row) == 8 && d.below(4) == 0 {
			text += "|" + textOfLits(row[:3])
		}
		texts := []string{text, text[:d.below(len(text)+1)]}
		for range 5 {
			at := d.below(len(text))
			b := string(bytes[d.below(len(bytes))])
			texts = append(texts, text[:at]+b+text[at+1:], text[:at]+b+text[at:], text[:at]+text[at+1:])
		}
		for _, text := range texts {
			if checkRead(t, s, text) {
				good++
			} else {
				bad++
			}
		}
	}
	if good < 3000 || bad < 3000 {
		t.Error("too few cases of a kind", good, bad)
	}
}

// TestReadClauseBack: ReadClause gives back what ClauseText printed, if it has at most 1000 bytes.
func TestReadClauseBack(t *testing.T) {
	d := &dice{state: 42}
	back, tooLong := 0, 0
	for i := range 5000 {
		s := d.sign()
		row := d.lits(s, 8, 40)
		for j := range row {
			if i%2 == 0 {
				row[j].l, row[j].r = d.large(s), d.large(s)
			}
		}
		c := madeOf(row)
		text, ok := impl.ClauseText(s, c)
		if text != textOfLits(row) || !ok {
			t.Fatalf("ClauseText(%v, %v): %q, %v", s, c, text, ok)
		}
		got, at, ok := impl.ReadClause(s, text)
		if len(text) > 1000 {
			tooLong++
			if len(got) != 0 || at != 0 || ok {
				t.Fatalf("ReadClause(%v, %q): %v, %d, %v", s, text, got, at, ok)
			}
			continue
		}
		if !sameClauses(got, c) || at != len(text) || !ok {
			t.Fatalf("ReadClause(%v, %q): %v, %d, %v", s, text, got, at, ok)
		}
		back++
	}
	if back < 3000 || tooLong == 0 {
		t.Error("too few cases of a kind", back, tooLong)
	}
}

// TestClauseBackSmall prints and reads all clauses of at most two literals of a few terms.
func TestClauseBackSmall(t *testing.T) {
	s := impl.Sign{Arity: []int{0, 1}}
	for _, row := range smallClauses(s) {
		c := madeOf(row)
		text, ok := impl.ClauseText(s, c)
		if text != textOfLits(row) || !ok {
			t.Fatalf("ClauseText(%v): %q, %v", c, text, ok)
		}
		if got, at, ok := impl.ReadClause(s, text); !sameClauses(got, c) || at != len(text) || !ok {
			t.Fatalf("ReadClause(%q): %v, %d, %v", text, got, at, ok)
		}
	}
}

// smallClauses are all clauses of at most two literals whose terms have at most two integers, with the variables A and B.
func smallClauses(s impl.Sign) [][]lit {
	all := smallTrees(s, []int{0, 1}, 2)
	var lits []lit
	for _, x := range all {
		for _, y := range all {
			lits = append(lits, lit{true, x, y}, lit{false, x, y})
		}
	}
	rows := [][]lit{nil}
	for _, x := range lits {
		rows = append(rows, []lit{x})
		for _, y := range lits {
			rows = append(rows, slices.Concat([]lit{x}, []lit{y}))
		}
	}
	return rows
}
