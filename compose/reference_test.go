package compose_test

import (
	"fmt"
	"math/rand"
	"regexp"
	"slices"
	"strings"
	"testing"
	"unicode/utf8"

	"henkan/api"
	"henkan/auto"
	"henkan/compose"
	"henkan/roman"
)

// The tests hold the package against a second reading of the chapter: what is valid is written as patterns, and each function changes a buffer character by character. Buffers are written as texts in them.

// What Raw and Pending of a valid buffer consist of.
var (
	rawForm     = regexp.MustCompile("^[ -~]*$")
	pendingForm = regexp.MustCompile("^[!-~]{0,8}$")
)

// valid reports whether a buffer is valid.
func valid(b compose.Buffer) bool {
	wrong := func(it compose.Item) bool {
		return !utf8.ValidString(it.Out) || utf8.RuneCountInString(it.Out) != 1 || !rawForm.MatchString(it.Raw)
	}
	return len(b.Items) <= 64 && 0 <= b.Caret && b.Caret <= len(b.Items) && pendingForm.MatchString(b.Pending) && !slices.ContainsFunc(b.Items, wrong)
}

// inserted returns b after a text was inserted with raw keys.
func inserted(b compose.Buffer, raw, out string) compose.Buffer {
	for _, c := range out {
		b.Items = slices.Insert(slices.Clone(b.Items), b.Caret, compose.Item{Raw: raw, Out: string(c)})
		b.Caret++
		raw = ""
	}
	return b
}

// keyed is what Insert returns.
func keyed(a *auto.Auto, b compose.Buffer, key byte) (compose.Buffer, api.Errno) {
	if a == nil {
		return compose.Buffer{}, api.ErrNil
	}
	if !valid(b) || key < '!' || key > '~' {
		return compose.Buffer{}, api.ErrArg
	}
	out, rest := a.Step(b.Pending, key)
	used := b.Pending + string(rune(key))
	if strings.HasSuffix(used, rest) {
		used = used[:len(used)-len(rest)]
	}
	b = inserted(b, used, out)
	b.Pending = rest
	if len(b.Items) > 64 {
		return compose.Buffer{}, api.ErrFull
	}
	return b, api.OK
}

// written is what Put returns.
func written(b compose.Buffer, raw, out string) (compose.Buffer, api.Errno) {
	if !valid(b) || !rawForm.MatchString(raw) || out == "" || !utf8.ValidString(out) {
		return compose.Buffer{}, api.ErrArg
	}
	if b.Pending != "" {
		return compose.Buffer{}, api.ErrState
	}
	if b = inserted(b, raw, out); len(b.Items) > 64 {
		return compose.Buffer{}, api.ErrFull
	}
	return b, api.OK
}

// flushed is what Flush returns.
func flushed(a *auto.Auto, b compose.Buffer) compose.Buffer {
	if a == nil || !valid(b) || b.Pending == "" {
		return b
	}
	out := []rune(a.Flush(b.Pending))
	for len(b.Items)+len(out) > 64 {
		out = out[:len(out)-1]
	}
	b = inserted(b, b.Pending, string(out))
	b.Pending = ""
	return b
}

// shortened is what Back returns.
func shortened(b compose.Buffer) compose.Buffer {
	if !valid(b) {
		return b
	}
	if n := len(b.Pending); n > 0 {
		b.Pending = b.Pending[:n-1]
		return b
	}
	if b.Caret == 0 {
		return b
	}
	b.Caret--
	return cut(b)
}

// cut is what Delete returns.
func cut(b compose.Buffer) compose.Buffer {
	if valid(b) && b.Caret < len(b.Items) {
		b.Items = slices.Concat(b.Items[:b.Caret], b.Items[b.Caret+1:])
	}
	return b
}

// moved is what Move returns, for numbers that are not too far away to be counted.
func moved(b compose.Buffer, n int) compose.Buffer {
	if !valid(b) || b.Pending != "" {
		return b
	}
	for ; n > 0 && b.Caret < len(b.Items); n-- {
		b.Caret++
	}
	for ; n < 0 && b.Caret > 0; n++ {
		b.Caret--
	}
	return b
}

// texts is what Text and Raw return.
func texts(b compose.Buffer) (before, pending, after, raw string) {
	if !valid(b) {
		return "", "", "", ""
	}
	for i := 0; i <= len(b.Items); i++ {
		if i == b.Caret {
			raw += b.Pending
		}
		if i < len(b.Items) {
			raw += b.Items[i].Raw
		}
		if i < len(b.Items) && i < b.Caret {
			before += b.Items[i].Out
		}
		if i < len(b.Items) && i >= b.Caret {
			after += b.Items[i].Out
		}
	}
	return before, b.Pending, after, raw
}

// equal reports whether two buffers are the same.
func equal(b, other compose.Buffer) bool {
	return slices.Equal(b.Items, other.Items) && b.Caret == other.Caret && b.Pending == other.Pending
}

// show writes a buffer for a message.
func show(b compose.Buffer) string {
	return fmt.Sprintf("%+q at %d with %+q", b.Items, b.Caret, b.Pending)
}

// buffer returns the buffer of a text: its items (raw keys, =, and the character) and, between two bars, the pending keys.
func buffer(text string) compose.Buffer {
	parts := strings.Split(text, "|")
	b := compose.Buffer{Items: itemsOf(parts[0]), Pending: parts[1]}
	b.Caret = len(b.Items)
	b.Items = append(b.Items, itemsOf(parts[2])...)
	return b
}

// itemsOf returns the items of a text.
func itemsOf(text string) []compose.Item {
	var l []compose.Item
	for _, word := range strings.Fields(text) {
		raw, out, _ := strings.Cut(word, "=")
		l = append(l, compose.Item{Raw: raw, Out: out})
	}
	return l
}

// filled returns a buffer of n items with the caret somewhere, and pending keys.
func filled(n, caret int, pending string) compose.Buffer {
	b := compose.Buffer{Caret: caret, Pending: pending}
	for i := range n {
		b.Items = append(b.Items, compose.Item{Raw: strings.Repeat("k", i%3), Out: string([]rune("あaア漢😀")[i%5])})
	}
	return b
}

// separate returns b in memory of its own, with more memory than its items need, which has other items.
func separate(b compose.Buffer) compose.Buffer {
	l := make([]compose.Item, 0, len(b.Items)+3)
	for _, it := range b.Items {
		l = append(l, compose.Item{Raw: strings.Clone(it.Raw), Out: strings.Clone(it.Out)})
	}
	for i := range 3 {
		l[:cap(l)][len(l)+i] = compose.Item{Raw: "beyond", Out: "外"}
	}
	return compose.Buffer{Items: l, Caret: b.Caret, Pending: strings.Clone(b.Pending)}
}

// isSeparate reports whether what lies beyond the items of b is as separate left it.
func isSeparate(b compose.Buffer) bool {
	for _, it := range b.Items[:cap(b.Items)][len(b.Items):] {
		if it != (compose.Item{Raw: "beyond", Out: "外"}) {
			return false
		}
	}
	return true
}

// notValid returns buffers that are not valid.
func notValid() []compose.Buffer {
	l := []compose.Buffer{filled(65, 65, ""), filled(65, 0, ""), filled(66, 3, "k"), filled(1000, 1000, "")}
	for _, caret := range []int{-1, -2, -64, -1 << 31, -1 << 32, -1 << 63, 4, 5, 64, 65, 255, 256, 1<<31 - 1, 1 << 32, 1<<32 + 1, 1<<63 - 1} {
		l = append(l, filled(3, caret, ""), filled(3, caret, "k"))
	}
	l = append(l, filled(0, 1, ""), filled(0, -1, "k"), filled(64, 65, ""))
	for _, pending := range []string{"kkkkkkkkk", "!!!!!!!!!", " ", "k k", "\x7F", "~\x7F", "\x00", "\x1F", "k\n", "\x80", "あ", "\xFF", "kkkkkkk ", strings.Repeat("k", 256), strings.Repeat("k", 1000)} {
		l = append(l, filled(3, 1, pending), filled(0, 0, pending))
	}
	for _, out := range []string{"", "ああ", "ab", "あ\x80", "\x80", "\xE3\x81", "\xED\xA0\x80", "\xC0\x80", "\xF4\x90\x80\x80", "\xFF", "か\u3099", "漢字漢字"} {
		l = append(l, changed(filled(3, 1, ""), 0, "k", out), changed(filled(3, 1, "k"), 2, "", out), changed(filled(64, 64, ""), 63, "", out))
	}
	for _, raw := range []string{"\x1F", "\x7F", "k\x1F", "\x7Fk", "k\n", "\n", "\x00", "あ", "\x80", "\xFF", " \x1F ", "~\x7F~"} {
		l = append(l, changed(filled(3, 1, ""), 0, raw, "あ"), changed(filled(3, 1, "k"), 2, raw, "あ"), changed(filled(64, 64, ""), 63, raw, "あ"))
	}
	return l
}

// stillValid returns buffers that are at the edges of what is valid.
func stillValid() []compose.Buffer {
	l := []compose.Buffer{{}, {Items: []compose.Item{}}}
	for _, n := range []int{0, 1, 2, 3, 63, 64} {
		for _, caret := range []int{0, n / 2, n} {
			for _, pending := range []string{"", "k", "ky", "!", "~", "!~!~!~!~", "kkkkkkkk", "Shinkyou"} {
				l = append(l, filled(n, caret, pending))
			}
		}
	}
	for _, out := range []string{"\x00", "\n", " ", "a", "\x7F", "\u0080", "あ", "\uFFFD", "\uFFFF", "😀", "\U0010FFFF", "\u3099", "|", "="} {
		for _, raw := range []string{"", " ", "~", " ~", "!", "k a", strings.Repeat(" k~", 100)} {
			l = append(l, changed(filled(3, 1, ""), 0, raw, out), changed(filled(64, 64, "k"), 63, raw, out))
		}
	}
	return l
}

// changed returns b with another item at i.
func changed(b compose.Buffer, i int, raw, out string) compose.Buffer {
	b.Items[i] = compose.Item{Raw: raw, Out: out}
	return b
}

// some returns least to most characters of l; they depend only on the state of r.
func some(r *rand.Rand, l string, least, most int) string {
	from := []rune(l)
	s := make([]rune, least+r.Intn(most-least+1))
	for i := range s {
		s[i] = from[r.Intn(len(from))]
	}
	return string(s)
}

// someBuffer returns a valid buffer; many of them are nearly full.
func someBuffer(r *rand.Rand, keys string) compose.Buffer {
	n := []int{0, 1, 3, 20, 55, 60, 62, 63, 64}[r.Intn(9)]
	b := compose.Buffer{Caret: r.Intn(n + 1)}
	for range n {
		b.Items = append(b.Items, compose.Item{Raw: some(r, keys+" ", 0, 4), Out: some(r, "あん漢a 😀\u3099", 1, 1)})
	}
	if r.Intn(2) == 0 {
		b.Pending = some(r, keys, 0, 8)
	}
	return b
}

// someRules returns up to most rules of these keys that are allowed together.
func someRules(r *rand.Rand, most int, keys string) []roman.Rule {
	var l []roman.Rule
	for range most {
		more := append(slices.Clone(l), roman.Rule{Keys: some(r, keys, 1, 4), Out: some(r, "あいかんー", 0, 4), Next: some(r, keys, 0, 3)})
		if roman.Check(more) == api.OK {
			l = more
		}
	}
	return l
}

// automaton returns the automaton of rules that are allowed.
func automaton(t *testing.T, l []roman.Rule) *auto.Auto {
	t.Helper()
	a, e := auto.New(l)
	if a == nil || e != api.OK {
		t.Fatalf("New of %.1000q: %v, %d", l, a, e)
	}
	return a
}

// rules returns the rules of lines without a Next or with one: keys, =, what they write, + and the Next.
func rules(lines ...string) []roman.Rule {
	var l []roman.Rule
	for _, s := range lines {
		keys, written, _ := strings.Cut(s, "=")
		out, next, _ := strings.Cut(written, "+")
		l = append(l, roman.Rule{Keys: keys, Out: out, Next: next})
	}
	return l
}
