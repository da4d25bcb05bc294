package compose_test

import (
	"slices"
	"strings"
	"testing"
	"unsafe"

	"henkan/api"
	"henkan/compose"
	"henkan/roman"
)

// P8.5: Back removes a pending key, or the item before the caret.
func TestBack(t *testing.T) {
	for _, x := range [][2]string{
		{"||", "||"},
		{"|k|", "||"},
		{"|ky|", "|k|"},
		{"|!~!~!~!~|", "|!~!~!~!|"},
		{"a=あ|k|i=い", "a=あ||i=い"},
		{"a=あ||i=い", "||i=い"},
		{"||i=い", "||i=い"},
		{"a=あ i=い||", "a=あ||"},
		{"kyo=き =ょ||", "kyo=き||"},
		{"kyo=き||=ょ", "||=ょ"},
		{"a=あ i=い u=う||e=え", "a=あ i=い||e=え"},
	} {
		is(t, "Back of "+x[0], compose.Back(buffer(x[0])), buffer(x[1]))
	}
}

// P8.5: Delete removes the item after the caret, and leaves the pending keys.
func TestDelete(t *testing.T) {
	for _, x := range [][2]string{
		{"||", "||"},
		{"|k|", "|k|"},
		{"a=あ||", "a=あ||"},
		{"a=あ|ky|", "a=あ|ky|"},
		{"a=あ|ky|i=い u=う", "a=あ|ky|u=う"},
		{"a=あ||i=い", "a=あ||"},
		{"||i=い", "||"},
		{"||kyo=き =ょ", "||=ょ"},
		{"a=あ||i=い u=う e=え", "a=あ||u=う e=え"},
	} {
		is(t, "Delete of "+x[0], compose.Delete(buffer(x[0])), buffer(x[1]))
	}
}

// P8.5: Move by all numbers that are near, and by numbers far away.
func TestMove(t *testing.T) {
	for _, size := range []int{0, 1, 2, 5, 63, 64} {
		for caret := range size + 1 {
			for n := -70; n <= 70; n++ {
				is(t, "Move", compose.Move(filled(size, caret, ""), n), moved(filled(size, caret, ""), n))
				is(t, "Move with pending keys", compose.Move(filled(size, caret, "k"), n), filled(size, caret, "k"))
			}
			for _, n := range []int{200, 1 << 31, 1 << 32, 1<<32 + 1, 1 << 62, greatest - 64, greatest - 1, greatest} {
				is(t, "Move to the end", compose.Move(filled(size, caret, ""), n), filled(size, size, ""))
				is(t, "Move to the beginning", compose.Move(filled(size, caret, ""), -n), filled(size, 0, ""))
				is(t, "Move to the end with pending keys", compose.Move(filled(size, caret, "~"), n), filled(size, caret, "~"))
			}
			is(t, "Move to the beginning", compose.Move(filled(size, caret, ""), least), filled(size, 0, ""))
			is(t, "Move to the beginning with pending keys", compose.Move(filled(size, caret, "~"), least), filled(size, caret, "~"))
		}
	}
}

// P8.6: what is before and after the caret.
func TestText(t *testing.T) {
	for _, x := range [][5]string{
		{"||", "", "", "", ""},
		{"|n|", "", "n", "", "n"},
		{"kyo=き =ょ u=う||", "きょう", "", "", "kyou"},
		{"kyo=き||=ょ u=う", "き", "", "ょう", "kyou"},
		{"||kyo=き =ょ u=う", "", "", "きょう", "kyou"},
		{"kyo=き =ょ|sh|u=う", "きょ", "sh", "う", "kyoshu"},
		{"|sh|=漢 =字", "", "sh", "漢字", "sh"},
		{"=漢|!~!~!~!~|x=字", "漢", "!~!~!~!~", "字", "!~!~!~!~x"},
		{"=😀|k|", "😀", "k", "", "k"},
	} {
		reads(t, buffer(x[0]), x[1], x[2], x[3], x[4])
	}
	b := compose.Buffer{Items: []compose.Item{{Raw: " ~ ", Out: " "}, {Raw: "|", Out: "\x00"}, {Out: "="}}, Caret: 2, Pending: "="}
	reads(t, b, " \x00", "=", "=", " ~ |=")
	for _, b := range stillValid() {
		before, pending, after, raw := texts(b)
		reads(t, b, before, pending, after, raw)
	}
}

// shares reports whether two strings share memory.
func shares(s, other string) bool {
	begin, otherBegin := uintptr(unsafe.Pointer(unsafe.StringData(s))), uintptr(unsafe.Pointer(unsafe.StringData(other)))
	return s != "" && other != "" && begin < otherBegin+uintptr(len(other)) && otherBegin < begin+uintptr(len(s))
}

// sharesItems reports whether two buffers share the memory of their items.
func sharesItems(b, other compose.Buffer) bool {
	l, m := b.Items[:cap(b.Items)], other.Items[:cap(other.Items)]
	if len(l) == 0 || len(m) == 0 {
		return false
	}
	size := unsafe.Sizeof(l[0])
	begin, otherBegin := uintptr(unsafe.Pointer(&l[0])), uintptr(unsafe.Pointer(&m[0]))
	return begin < otherBegin+uintptr(len(m))*size && otherBegin < begin+uintptr(len(l))*size
}

// stringsOf returns all strings of a buffer.
func stringsOf(b compose.Buffer) []string {
	l := []string{b.Pending}
	for _, it := range b.Items {
		l = append(l, it.Raw, it.Out)
	}
	return l
}

// P8.1 to P8.6: the buffer that is passed stays as it was, and what is returned is new memory (rule R3).
func TestNewMemory(t *testing.T) {
	a := automaton(t, roman.Default())
	all := slices.Concat(notValid(), stillValid(), []compose.Buffer{buffer("||"), buffer("|k|"), buffer("||a=あ"), buffer("kya=き =ゃ|shi|ABC=A =漢 =字")})
	raw, out := strings.Clone("ra w"), strings.Clone("漢A字")
	for _, want := range all {
		b := separate(want)
		var results []compose.Buffer
		add := func(b compose.Buffer, _ api.Errno) { results = append(results, b) }
		add(compose.Insert(a, b, 'a'))
		add(compose.Insert(a, b, 'k'))
		add(compose.Insert(a, b, 'k'))
		add(compose.Insert(a, b, '!'))
		add(compose.Put(b, raw, out))
		add(compose.Put(b, raw, out[:3]))
		add(compose.Put(b, raw, out[3:4]))
		results = append(results, compose.Flush(a, b), compose.Flush(nil, b), compose.Back(b), compose.Delete(b), compose.Move(b, -1), compose.Move(b, 0), compose.Move(b, least))
		known := append(stringsOf(b), raw, out)
		for i, got := range results {
			if sharesItems(got, b) || slices.ContainsFunc(results[:i], func(other compose.Buffer) bool { return sharesItems(got, other) }) {
				t.Errorf("result %d of %s shares its items", i, show(b))
			}
			known = separates(t, known, stringsOf(got)...)
		}
		for range 2 {
			before, pending, after := compose.Text(b)
			known = separates(t, known, before, pending, after, compose.Raw(b))
		}
		if !equal(b, want) || !isSeparate(b) {
			t.Errorf("%s was changed to %s", show(want), show(b))
		}
	}
	if raw != "ra w" || out != "漢A字" {
		t.Errorf("the texts were changed to %q and %q", raw, out)
	}
}

// separates checks that strings share no memory with those that are known or with each other, and returns all of them.
func separates(t *testing.T, known []string, more ...string) []string {
	t.Helper()
	for _, s := range more {
		// Go writes many strings of one byte into memory that is never written again.
		if len(s) == 1 {
			continue
		}
		if i := slices.IndexFunc(known, func(other string) bool { return shares(s, other) }); i >= 0 {
			t.Errorf("%+q shares memory with %+q", s, known[i])
		}
		known = append(known, s)
	}
	return known
}

// Calls depend on nothing but their arguments (rule R4).
func TestNoState(t *testing.T) {
	a, other := automaton(t, roman.Default()), automaton(t, rules("k=か", "ka=き", "nn=+k"))
	for range 3 {
		inserts(t, a, buffer("i=い|k|u=う"), 'a', buffer("i=い ka=か||u=う"))
		inserts(t, other, buffer("i=い|k|u=う"), 'a', buffer("i=い ka=き||u=う"))
		refusesKey(t, a, filled(64, 3, ""), 'a', api.ErrFull)
		puts(t, buffer("||u=う"), "a", "あ", buffer("a=あ||u=う"))
		flushes(t, a, buffer("i=い|k|"), buffer("i=い k=k||"))
		flushes(t, other, buffer("i=い|k|"), buffer("i=い k=か||"))
		is(t, "Back", compose.Back(buffer("i=い||u=う")), buffer("||u=う"))
		is(t, "Delete", compose.Delete(buffer("i=い||u=う")), buffer("i=い||"))
		is(t, "Move", compose.Move(buffer("i=い||u=う"), 1), buffer("i=い u=う||"))
		reads(t, buffer("i=い|k|u=う"), "い", "k", "う", "iku")
	}
}
