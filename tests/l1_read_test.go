package tests

import (
	"slices"
	"strings"
	"testing"

	"loop.example/g00682/impl"
)

func TestReadTermGood(t *testing.T) {
	tests := []struct {
		s    impl.Sign
		text string
		want []int
	}{
		{sampleSign(), "a", []int{0}},
		{sampleSign(), "c", []int{2}},
		{sampleSign(), "A", []int{-1}},
		{sampleSign(), "L", []int{-12}},
		{sampleSign(), "d(L)", []int{3, -12}},
		{sampleSign(), "f(e(f(L,c)),d(a))", []int{5, 4, 5, -12, 2, 3, 0}},
		{sampleSign(), strings.Repeat("d(", 39) + "a" + strings.Repeat(")", 39), chain(39, 0)},
		{wideSign(0), "j", []int{9}},
		{wideSign(3), "j(C,i,b)", []int{9, -3, 8, 1}},
		{impl.Sign{Arity: []int{0}}, "a", []int{0}},
	}
	for _, c := range tests {
		got, at, ok := impl.ReadTerm(c.s, c.text)
		if !slices.Equal(got, c.want) || at != len(c.text) || !ok {
			t.Errorf("ReadTerm(%q): %v, %d, %v", c.text, got, at, ok)
		}
	}
}

func TestReadTermFaults(t *testing.T) {
	s := sampleSign()
	opened := strings.Repeat("d(", 100)
	long := strings.Repeat("d(", 40) + "a" + strings.Repeat(")", 40)
	tests := []struct {
		s    impl.Sign
		text string
		at   int
	}{
		{s, "d(b", 3},
		{s, "d(M)", 2},
		// The text ends too early.
		{s, "", 0},
		{s, "d", 1},
		{s, "d(", 2},
		{s, "f(a", 3},
		{s, "f(a,", 4},
		{s, "f(a,b", 5},
		{s, "f(d(A),b", 8},
		// It goes on behind a complete term.
		{s, "aa", 1},
		{s, "a(", 1},
		{s, "a)", 1},
		{s, "a,", 1},
		{s, "A(a)", 1},
		{s, "AA", 1},
		{s, "a()", 1},
		{s, "d(a))", 4},
		{s, "d(a)d(a)", 4},
		{s, "f(d(A),b)\n", 9},
		{s, "f(d(A),b) ", 9},
		{s, "a\x00", 1},
		// A byte does not fit.
		{s, "(", 0},
		{s, ")", 0},
		{s, ",", 0},
		{s, " a", 0},
		{s, "g", 0},
		{s, "z", 0},
		{s, "M", 0},
		{s, "@", 0},
		{s, "`", 0},
		{s, "0", 0},
		{s, "-1", 0},
		{s, "\x00", 0},
		{s, "\xff", 0},
		{s, "\u00e4", 0},
		{s, "da", 1},
		{s, "d)", 1},
		{s, "d,", 1},
		{s, "d()", 2},
		{s, "d(,", 2},
		{s, "d((", 2},
		{s, "d( a)", 2},
		{s, "d(a,", 3},
		{s, "d(a,b)", 3},
		{s, "d(ab", 3},
		{s, "d(a ", 3},
		{s, "d(a(", 3},
		{s, "f(a)", 3},
		{s, "f(ab", 3},
		{s, "f(a(", 3},
		{s, "f(a;b)", 3},
		{s, "f(a,,", 4},
		{s, "f(a,)", 4},
		{s, "f(a,b,", 5},
		{s, "f(a,b,c)", 5},
		{s, "f(a,b\u00e4", 5},
		{s, "f(d(A),g)", 7},
		{s, "f(d(A)),b)", 6},
		{wideSign(3), "j(a,b)", 5},
		{wideSign(3), "j(a,b,c,", 7},
		{wideSign(3), "j(a,b,c", 7},
		{wideSign(3), "k", 0},
		{impl.Sign{Arity: []int{0}}, "b", 0},
		{impl.Sign{Arity: []int{0, 1}}, "b(c)", 2},
		// More than 40 integers: position 0, but a fault counts first.
		{s, long, 0},
		{s, long + ")", 121},
		{s, long[:120], 120},
		{s, strings.Replace(long, "a", "g", 1), 80},
		{s, "f(" + long + "," + strings.Repeat("d(", 10) + "b" + strings.Repeat(")", 10) + ")", 0},
		// 200 bytes are read, one more is not.
		{s, opened, 200},
		{s, opened[:199] + "x", 199},
		{s, "d(x" + opened[:197], 2},
		{s, opened + "a", 0},
		{s, opened + "x", 0},
		{s, "d(x" + opened[:198], 0},
		{s, "a" + opened[:199], 1},
		{s, "a" + opened, 0},
		{s, "d(" + strings.Repeat("b", 1<<20), 0},
		// Without a valid signature nothing is read.
		{impl.Sign{}, "A", 0},
		{impl.Sign{}, "", 0},
		{impl.Sign{}, "d(b", 0},
		{impl.Sign{Arity: make([]int, 11)}, "a(", 0},
		{impl.Sign{Arity: []int{1, 0}}, "bb", 0},
		{impl.Sign{Arity: []int{0, 4}}, "aa", 0},
		{impl.Sign{Arity: []int{0, -1}}, "aa", 0},
		{impl.Sign{Arity: []int{0, 4}}, "b(a,a,a,a)", 0},
	}
	for _, c := range tests {
		got, at, ok := impl.ReadTerm(c.s, c.text)
		if len(got) != 0 || at != c.at || ok {
			t.Errorf("ReadTerm(%q): %v, %d, %v, expected position %d", c.text[:min(len(c.text), 250)], got, at, ok, c.at)
		}
	}
}

// startsOf lists all beginnings, of at most that many bytes, of texts of terms; the value is true for a complete text.
// It replaces the first T, which stands for any term, in every way until it is behind the end.
func startsOf(s impl.Sign, most int) map[string]bool {
	starts := map[string]bool{}
	seen := map[string]bool{}
	work := []string{"T"}
	for len(work) > 0 {
		form := work[0]
		work = work[1:]
		if seen[form] {
			continue
		}
		seen[form] = true
		at := strings.IndexByte(form, 'T')
		fixed := form
		if at >= 0 {
			fixed = form[:at]
		}
		for i := range min(len(fixed), most) + 1 {
			starts[fixed[:i]] = starts[fixed[:i]]
		}
		if at < 0 && len(form) <= most {
			starts[form] = true
		}
		if at < 0 || at >= most {
			continue
		}
		for v := range 12 {
			work = append(work, fixed+string(rune('A'+v))+form[at+1:])
		}
		for n, arity := range s.Arity {
			text := string(rune('a' + n))
			if arity > 0 {
				text += "(" + strings.Repeat("T,", arity-1) + "T)"
			}
			work = append(work, fixed+text+form[at+1:])
		}
	}
	return starts
}

// TestReadTermAllShort reads every text of at most 5 bytes over an alphabet that has each kind of byte.
func TestReadTermAllShort(t *testing.T) {
	s := impl.Sign{Arity: []int{0, 1, 2, 3}}
	const alphabet = "abcdeAL(),M "
	starts := startsOf(s, 5)
	texts := []string{""}
	for len(texts) > 0 {
		text := texts[0]
		texts = texts[1:]
		if len(text) < 5 {
			for _, b := range alphabet {
				texts = append(texts, text+string(b))
			}
		}
		want := 0
		for want < len(text) {
			if _, ok := starts[text[:want+1]]; !ok {
				break
			}
			want++
		}
		got, at, ok := impl.ReadTerm(s, text)
		if ok != starts[text] || at != want || (len(got) > 0) != ok {
			t.Fatalf("ReadTerm(%q): %v, %d, %v, expected position %d", text, got, at, ok, want)
		}
		if !ok {
			continue
		}
		if back, ok := impl.TermText(s, got); back != text || !ok {
			t.Fatalf("TermText of ReadTerm of %q: %q, %v", text, back, ok)
		}
	}
}

// place is a text, and the bytes with which it may go on.
type place struct{ before, fits string }

// checkAllBytes tries each byte at each place. A byte that fits nowhere stands behind it, so that no text can be read.
func checkAllBytes(t *testing.T, places []place, read func(text string) (many, at int, ok bool)) {
	t.Helper()
	for _, p := range places {
		for b := range 256 {
			text := p.before + string([]byte{byte(b), '!'})
			want := len(p.before)
			if strings.IndexByte(p.fits, byte(b)) >= 0 {
				want++
			}
			if many, at, ok := read(text); many != 0 || at != want || ok {
				t.Errorf("reading %q yields %d elements, position %d, %v", text, many, at, ok)
			}
		}
	}
}

// TestReadTermAllBytes tries each byte where a term, an opening mark, a separator, a closing mark or the end is expected.
func TestReadTermAllBytes(t *testing.T) {
	s := impl.Sign{Arity: []int{0, 1, 2}}
	places := []place{
		{"", "abcABCDEFGHIJKL"},
		{"b", "("},
		{"c(a", ","},
		{"c(a,", "abcABCDEFGHIJKL"},
		{"c(a,A", ")"},
		{"c(a,A)", ""},
	}
	checkAllBytes(t, places, func(text string) (int, int, bool) {
		got, at, ok := impl.ReadTerm(s, text)
		return len(got), at, ok
	})
}
