package utf_test

import (
	"math"
	"math/rand"
	"slices"
	"strings"
	"testing"

	"henkan/utf"
)

// example is the string of the chapter's examples: a kana and an exclamation mark.
const example = "\xE3\x81\x82\x21"

// agrees checks Valid, Count and Runes of s.
func agrees(t *testing.T, s string, want []rune, valid bool) {
	t.Helper()
	count := len(want)
	if !valid {
		count = -1
	}
	if got := utf.Valid(s); got != valid {
		t.Errorf("Valid(%+q): %v", s, got)
	}
	if got := utf.Count(s); got != count {
		t.Errorf("Count(%+q): %d, want %d", s, got, count)
	}
	if l, ok := utf.Runes(s); ok != valid || !slices.Equal(l, want) {
		t.Errorf("Runes(%+q): %x %v, want %x %v", s, l, ok, want, valid)
	}
}

// cuts checks one call of Cut.
func cuts(t *testing.T, s string, from, to int, want string, valid bool) {
	t.Helper()
	if got, ok := utf.Cut(s, from, to); got != want || ok != valid {
		t.Errorf("Cut(%+q, %d, %d): %+q %v, want %+q %v", s, from, to, got, ok, want, valid)
	}
}

// P1.1, P1.2: the examples of the chapter.
func TestExamples(t *testing.T) {
	agrees(t, example, []rune{0x3042, 0x21}, true)
	agrees(t, "\xC0\x80", nil, false)
	agrees(t, "\xED\xA0\x80", nil, false)
	agrees(t, "\xE3\x81", nil, false)
	agrees(t, "", nil, true)
	agrees(t, "\x7F", []rune{0x7F}, true)
	agrees(t, "\x80", nil, false)
	agrees(t, "\xC1\xBF", nil, false)
	agrees(t, "\xF4\x8F\xBF\xBF", []rune{0x10FFFF}, true)
	agrees(t, "\xF4\x90\x80\x80", nil, false)
	agrees(t, "\x61\xCC\x81", []rune{0x61, 0x301}, true)
}

// P1.1, P1.2: the bytes of the first and the last character of each row, written out.
func TestRows(t *testing.T) {
	for _, c := range []struct {
		code      string
		character rune
	}{
		{"\x00", 0}, {"\x7F", 0x7F}, {"\xC2\x80", 0x80}, {"\xDF\xBF", 0x7FF}, {"\xE0\xA0\x80", 0x800}, {"\xED\x9F\xBF", 0xD7FF},
		{"\xEE\x80\x80", 0xE000}, {"\xEF\xBF\xBD", 0xFFFD}, {"\xEF\xBF\xBF", 0xFFFF}, {"\xF0\x90\x80\x80", 0x10000}, {"\xF4\x8F\xBF\xBF", 0x10FFFF},
	} {
		agrees(t, c.code, []rune{c.character}, true)
		agrees(t, "a"+c.code+"\u3042", []rune{'a', c.character, 0x3042}, true)
	}
}

// P1.1, P1.2, P1.4: strings that are not valid have no characters, wherever the wrong bytes are.
func TestNotValid(t *testing.T) {
	for _, s := range notValid() {
		agrees(t, s, nil, false)
		for from := range 3 {
			for to := range 3 {
				cuts(t, s, from, to, "", false)
			}
		}
	}
}

// P1.1, P1.2, P1.3, P1.4, P1.5: every number from below 0 to above 10FFFF, as a string of its own.
func TestEveryNumber(t *testing.T) {
	for c := rune(-0x100); c <= 0x110100; c++ {
		code := encode(c)
		if got := utf.Text([]rune{c}); got != code {
			t.Fatalf("Text of %x: %+q", c, got)
		}
		if code == "" {
			continue
		}
		agrees(t, code, []rune{c}, true)
		cuts(t, code, 0, 1, code, true)
		if t.Failed() {
			t.Fatalf("at %x", c)
		}
	}
}

// P1.1, P1.2: all strings of up to two bytes, and those of up to four bytes that are at the edges of the table.
func TestAllBytes(t *testing.T) {
	var all [256]byte
	for i := range all {
		all[i] = byte(i)
	}
	near := []byte("\x00A\x7F\x80\x81\x82\x8F\x90\x9F\xA0\xBB\xBD\xBF\xC0\xC1\xC2\xDF\xE0\xE1\xEC\xED\xEE\xEF\xF0\xF1\xF3\xF4\xF5\xF8\xFC\xFF")
	extend(t, "", 2, all[:])
	extend(t, "", 4, near)
}

// extend checks s and the strings that up to n of the bytes make of it.
func extend(t *testing.T, s string, n int, bytes []byte) {
	want, valid := decode(s)
	agrees(t, s, want, valid)
	if t.Failed() {
		t.FailNow()
	}
	if n == 0 {
		return
	}
	for _, b := range bytes {
		extend(t, s+string([]byte{b}), n-1, bytes)
	}
}

// P1.1, P1.2: wrong bytes are found behind a long text, too.
func TestLong(t *testing.T) {
	s := strings.Repeat("a\u00E9\u3042\U0001F600", 100000)
	l := slices.Repeat([]rune{'a', 0xE9, 0x3042, 0x1F600}, 100000)
	if n := utf.Count(s); n != len(l) || !utf.Valid(s) {
		t.Errorf("%d characters", n)
	}
	if got, ok := utf.Runes(s); !ok || !slices.Equal(got, l) {
		t.Errorf("%d characters", len(got))
	}
	if utf.Text(l) != s {
		t.Error("Text")
	}
	if got, ok := utf.Cut(s, 399998, 400000); got != "\u3042\U0001F600" || !ok {
		t.Errorf("%+q %v", got, ok)
	}
	for _, end := range []string{"\xFF", "\xE3\x81", "\xED\xA0\x80"} {
		if l, ok := utf.Runes(s + end); utf.Valid(s+end) || utf.Count(s+end) != -1 || ok || len(l) != 0 {
			t.Errorf("with %+q at its end it is valid", end)
		}
	}
}

// P1.3: the example, and numbers that are no characters, in all places.
func TestText(t *testing.T) {
	if got := utf.Text([]rune{0x3042, 0xD800, -1, 0x21}); got != example {
		t.Errorf("%+q", got)
	}
	if utf.Text(nil) != "" || utf.Text([]rune{}) != "" || utf.Text(others()) != "" {
		t.Error("no characters")
	}
	for _, c := range others() {
		for _, l := range [][]rune{{c}, {c, 'a'}, {'a', c}, {0x3042, c, 0x10FFFF}, {c, c, 0xFFFD, c}} {
			if got, want := utf.Text(l), encodeAll(l); got != want {
				t.Errorf("%x: %+q, want %+q", l, got, want)
			}
		}
	}
}

// P1.4: the examples.
func TestCutExamples(t *testing.T) {
	cuts(t, example, 1, 2, "\x21", true)
	cuts(t, example, 2, 3, "", false)
	cuts(t, "", 0, 0, "", true)
	cuts(t, "", 0, 1, "", false)
	cuts(t, "\x80", 0, 0, "", false)
}

// P1.4: all indices in and around texts of characters of all lengths.
func TestCut(t *testing.T) {
	far := []int{math.MinInt, math.MinInt + 1, math.MinInt32, math.MaxInt32, math.MaxInt - 1, math.MaxInt}
	for _, l := range [][]rune{nil, {'a'}, {0x3042}, {'a', 0x301, 0xFFFD, 0x1F600, 'b'}, edges()} {
		s := encodeAll(l)
		for from := -3; from <= len(s)+3; from++ {
			for to := -3; to <= len(s)+3; to++ {
				if 0 <= from && from <= to && to <= len(l) {
					cuts(t, s, from, to, encodeAll(l[from:to]), true)
				} else {
					cuts(t, s, from, to, "", false)
				}
			}
			for _, n := range far {
				cuts(t, s, from, n, "", false)
				cuts(t, s, n, from, "", false)
			}
		}
		for _, from := range far {
			for _, to := range far {
				cuts(t, s, from, to, "", false)
			}
		}
	}
}

// P1.5: Text and Runes take each other back.
func TestRoundTrip(t *testing.T) {
	r := rand.New(rand.NewSource(1))
	for range 3000 {
		l := someText(r, 30)
		s := encodeAll(l)
		agrees(t, s, l, true)
		if got, _ := utf.Runes(s); utf.Text(got) != s {
			t.Errorf("Text of the characters of %+q: %+q", s, utf.Text(got))
		}
		mixed := slices.Clone(l)
		for _, c := range others() {
			mixed = slices.Insert(mixed, r.Intn(len(mixed)+1), c)
		}
		agrees(t, utf.Text(mixed), l, true)
	}
}

// P1.6: concatenation, and the three pieces of a text.
func TestConcatenation(t *testing.T) {
	r := rand.New(rand.NewSource(2))
	for range 2000 {
		a, b := someText(r, 8), someText(r, 8)
		agrees(t, utf.Text(a)+utf.Text(b), slices.Concat(a, b), true)
	}
	for range 200 {
		l := someText(r, 12)
		s := encodeAll(l)
		n := utf.Count(s)
		for i := 0; i <= n; i++ {
			for j := i; j <= n; j++ {
				before, ok1 := utf.Cut(s, 0, i)
				between, ok2 := utf.Cut(s, i, j)
				after, ok3 := utf.Cut(s, j, n)
				if !ok1 || !ok2 || !ok3 || before+between+after != s {
					t.Errorf("%+q at %d and %d: %+q %+q %+q", s, i, j, before, between, after)
				}
			}
		}
	}
}

// P1.7: bytes and characters have the same order.
func TestOrder(t *testing.T) {
	var l []string
	for _, a := range append(edges(), -1) {
		for _, b := range append(edges(), -1) {
			l = append(l, utf.Text([]rune{a, b}))
		}
	}
	for _, s := range l {
		for _, other := range l {
			a, _ := utf.Runes(s)
			b, _ := utf.Runes(other)
			if slices.Compare(a, b) != strings.Compare(s, other) {
				t.Errorf("%+q and %+q: %x and %x", s, other, a, b)
			}
		}
	}
}

// Arguments stay as they are, as do the elements between their length and their capacity (rule R3).
func TestArguments(t *testing.T) {
	room := []rune{'a', 0xD800, 0x3042, -1, 'b', 'c', 0xDFFF, 'd'}
	before := slices.Clone(room)
	if got := utf.Text(room[:4]); got != "a\u3042" {
		t.Errorf("%+q", got)
	}
	if !slices.Equal(room, before) {
		t.Errorf("%x", room)
	}
}

// Results are new memory, and a call depends on its arguments alone (rules R3 and R4).
func TestResults(t *testing.T) {
	one, _ := utf.Runes(example)
	two, _ := utf.Runes(example)
	for i := range one {
		one[i] = 'x'
	}
	one = append(one, 'y')
	three, _ := utf.Runes(example)
	if want := []rune{0x3042, 0x21}; !slices.Equal(two, want) || !slices.Equal(three, want) {
		t.Errorf("%x %x after %x", two, three, one)
	}
	l := []rune{0x3042, 0x21}
	s := utf.Text(l)
	l[0] = 'x'
	if s != example || utf.Text(l) != "x!" {
		t.Errorf("%+q %+q", s, utf.Text(l))
	}
	agrees(t, "\xE3\x81", nil, false)
	agrees(t, "\x82", nil, false)
	agrees(t, example, []rune{0x3042, 0x21}, true)
}
