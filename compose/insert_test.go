package compose_test

import (
	"strings"
	"testing"

	"henkan/api"
	"henkan/auto"
	"henkan/compose"
	"henkan/roman"
)

// inserts checks a call of Insert that returns a buffer.
func inserts(t *testing.T, a *auto.Auto, b compose.Buffer, key byte, want compose.Buffer) {
	t.Helper()
	got, e := compose.Insert(a, b, key)
	if e != api.OK || !equal(got, want) {
		t.Errorf("Insert of %s and %q: %s and %d, want %s", show(b), key, show(got), e, show(want))
	}
	checks(t, got, api.OK)
}

// refusesKey checks a call of Insert that returns an error.
func refusesKey(t *testing.T, a *auto.Auto, b compose.Buffer, key byte, want api.Errno) {
	t.Helper()
	if got, e := compose.Insert(a, b, key); e != want || !equal(got, compose.Buffer{}) {
		t.Errorf("Insert of %s and %q: %s and %d, want %d", show(b), key, show(got), e, want)
	}
}

// puts checks a call of Put that returns a buffer.
func puts(t *testing.T, b compose.Buffer, raw, out string, want compose.Buffer) {
	t.Helper()
	got, e := compose.Put(b, raw, out)
	if e != api.OK || !equal(got, want) {
		t.Errorf("Put of %s, %+q and %+q: %s and %d, want %s", show(b), raw, out, show(got), e, show(want))
	}
	checks(t, got, api.OK)
}

// refusesText checks a call of Put that returns an error.
func refusesText(t *testing.T, b compose.Buffer, raw, out string, want api.Errno) {
	t.Helper()
	if got, e := compose.Put(b, raw, out); e != want || !equal(got, compose.Buffer{}) {
		t.Errorf("Put of %s, %+q and %+q: %s and %d, want %d", show(b), raw, out, show(got), e, want)
	}
}

// rows checks rows of keys that are inserted into the first buffer, one after the other, and the buffers that they lead to.
func rows(t *testing.T, a *auto.Auto, l [][3]string) {
	t.Helper()
	for _, x := range l {
		is(t, x[1]+" after "+x[0], typing(t, a, buffer(x[0]), x[1]), buffer(x[2]))
	}
}

// P8.2: the caret at the beginning, in the middle and at the end.
func TestInsertAtCaret(t *testing.T) {
	rows(t, automaton(t, roman.Default()), [][3]string{
		{"||", "a", "a=あ||"},
		{"||", "k", "|k|"},
		{"|k|", "a", "ka=か||"},
		{"|k|", "y", "|ky|"},
		{"|ky|", "o", "kyo=き =ょ||"},
		{"||i=い", "a", "a=あ||i=い"},
		{"i=い||", "a", "i=い a=あ||"},
		{"i=い||u=う", "a", "i=い a=あ||u=う"},
		{"i=い||u=う", "sh", "i=い|sh|u=う"},
		{"i=い|sh|u=う", "o", "i=い sho=し =ょ||u=う"},
		{"i=い|n|u=う", "k", "i=い n=ん|k|u=う"},
		{"i=い||u=う", "tte", "i=い t=っ te=て||u=う"},
		{"=い||=う", "nn", "=い nn=ん||=う"},
		{"||i=い", "aeo", "a=あ e=え o=お||i=い"},
	})
}

// P8.2: keys that occur in no rule write themselves, with the keys that were pending before them.
func TestInsertOtherKeys(t *testing.T) {
	a := automaton(t, roman.Default())
	rows(t, a, [][3]string{
		{"||", "A", "A=A||"},
		{"||", "!", "!=!||"},
		{"||", "~", "~=~||"},
		{"|k|", "A", "kA=k =A||"},
		{"|ky|", "~", "ky~=k =y =~||"},
		{"|ky|", "k", "ky=k =y|k|"},
		{"a=あ|n|", "1", "a=あ n1=ん =1||"},
		{"|n|i=い", "n", "nn=ん||i=い"},
	})
	none := automaton(t, nil)
	for i := range 256 {
		key := byte(i)
		if 33 <= key && key <= 126 {
			inserts(t, none, buffer("i=い||u=う"), key, compose.Buffer{Items: []compose.Item{{Raw: "i", Out: "い"}, {Raw: string(rune(key)), Out: string(rune(key))}, {Raw: "u", Out: "う"}}, Caret: 2})
		} else {
			refusesKey(t, none, buffer("i=い||u=う"), key, api.ErrArg)
			refusesKey(t, a, compose.Buffer{}, key, api.ErrArg)
			refusesKey(t, a, buffer("|k|"), key, api.ErrArg)
		}
	}
}

// P8.2: rules that write nothing, one or several characters, and that leave keys pending, which are the end of the keys or are not.
func TestInsertRules(t *testing.T) {
	a := automaton(t, rules("aaaa=いうえお+bbb", "bbbb=か+ccc", "cccc=んん", "xy=+a", "ab=き+x", "bcd=+cc", "zz=っ+z", "zy=+y", "yz=ー", "q=あ", "qv=ゔ+q"))
	rows(t, a, [][3]string{
		{"||", "aaa", "|aaa|"},
		{"||", "aaaa", "aaaa=い =う =え =お|bbb|"},
		{"a=あ|aaa|i=い", "a", "a=あ aaaa=い =う =え =お|bbb|i=い"},
		{"||", "aaaab", "aaaa=い =う =え =お bbbb=か|ccc|"},
		{"||", "aaaabc", "aaaa=い =う =え =お bbbb=か cccc=ん =ん||"},
		{"||", "xy", "|a|"},
		{"||", "xyb", "ab=き|x|"},
		{"||", "ab", "ab=き|x|"},
		{"||", "bcd", "|cc|"},
		{"||", "bcdcc", "cccc=ん =ん||"},
		{"||", "zz", "z=っ|z|"},
		{"||", "zzz", "z=っ z=っ|z|"},
		{"||", "zy", "|y|"},
		{"||", "zyz", "yz=ー||"},
		{"||", "q", "|q|"},
		{"|q|", "q", "q=あ|q|"},
		{"|q|", "v", "qv=ゔ|q|"},
		{"||", "qvv", "qv=ゔ qv=ゔ|q|"},
		{"||", "aab", "aab=a =き|x|"},
		{"||", "xx", "x=x|x|"},
	})
}

// P8.2: pending keys that no key could have left.
func TestInsertPending(t *testing.T) {
	a := automaton(t, roman.Default())
	rows(t, a, [][3]string{
		{"|kakikuke|", "k", "kakikuke=か =き =く =け|k|"},
		{"|kakikuke|", "!", "kakikuke!=か =き =く =け =!||"},
		{"|AAAAAAAA|", "A", "AAAAAAAAA=A =A =A =A =A =A =A =A =A||"},
		{"|kkkkkkkk|", "k", "kkkkkkkk=っ =っ =っ =っ =っ =っ =っ =っ|k|"},
		{"i=い|nnnnnnnn|u=う", "y", "i=い nnnnnnnn=ん =ん =ん =ん|y|u=う"},
		{"|nnnnnnn|", "y", "nnnnnn=ん =ん =ん|ny|"},
	})
	rows(t, automaton(t, rules("abcd=ん+bcd", "bcde=か+xyz", "xyzx=い")), [][3]string{
		{"|abcdabcd|", "e", "abcdabcde=ん =b =c =d =ん =か|xyz|"},
		{"|abcd|", "e", "abcde=ん =か|xyz|"},
		{"|xyzxyzxy|", "z", "xyzxyz=い =y =z|xyz|"},
		{"||", "abcd", "a=ん|bcd|"},
	})
}

// P8.2: whether there is room; keys can become pending in a full buffer.
func TestInsertRoom(t *testing.T) {
	a := automaton(t, roman.Default())
	for _, caret := range []int{0, 31, 60} {
		inserts(t, a, filled(63, caret, ""), 'a', inserted(filled(63, caret, ""), "a", "あ"))
		inserts(t, a, filled(62, caret, "ky"), 'o', inserted(filled(62, caret, ""), "kyo", "きょ"))
		inserts(t, a, filled(63, caret, ""), 'k', filled(63, caret, "k"))
		inserts(t, a, filled(64, caret, ""), 'k', filled(64, caret, "k"))
		inserts(t, a, filled(64, caret, "k"), 'y', filled(64, caret, "ky"))
		refusesKey(t, a, filled(63, caret, "ky"), 'o', api.ErrFull)
		refusesKey(t, a, filled(64, caret, ""), 'a', api.ErrFull)
		refusesKey(t, a, filled(64, caret, "k"), 'k', api.ErrFull)
		refusesKey(t, a, filled(64, caret, "ky"), 'o', api.ErrFull)
		refusesKey(t, a, filled(64, caret, ""), '!', api.ErrFull)
		inserts(t, a, filled(55, caret/2, "AAAAAAAA"), 'A', inserted(filled(55, caret/2, ""), "AAAAAAAAA", "AAAAAAAAA"))
		refusesKey(t, a, filled(56, caret/2, "AAAAAAAA"), 'A', api.ErrFull)
		after := inserted(filled(56, caret/2, ""), "AAAAAAAA", "AAAAAAAA")
		after.Pending = "k"
		inserts(t, a, filled(56, caret/2, "AAAAAAAA"), 'k', after)
		refusesKey(t, a, filled(57, caret/2, "AAAAAAAA"), 'k', api.ErrFull)
	}
	four := automaton(t, rules("aa=ああああ", "bb=+b"))
	inserts(t, four, filled(60, 60, "a"), 'a', inserted(filled(60, 60, ""), "aa", "ああああ"))
	for _, n := range []int{61, 62, 63, 64} {
		refusesKey(t, four, filled(n, n, "a"), 'a', api.ErrFull)
		inserts(t, four, filled(n, n, "b"), 'b', filled(n, n, "b"))
	}
}

// P8.2: which error is returned where several apply.
func TestInsertErrors(t *testing.T) {
	a := automaton(t, roman.Default())
	for _, b := range append(notValid(), stillValid()...) {
		for _, key := range []byte("a \x00!~\x7F\xFF") {
			refusesKey(t, nil, b, key, api.ErrNil)
		}
	}
	for _, key := range []byte(" \x00\x1F\x7F\x80\xE3\xFF") {
		refusesKey(t, a, filled(64, 64, ""), key, api.ErrArg)
		refusesKey(t, a, filled(64, 64, "ky"), key, api.ErrArg)
		refusesKey(t, a, filled(65, 64, "ky"), key, api.ErrArg)
	}
	refusesKey(t, a, filled(65, 65, ""), 'a', api.ErrArg)
	refusesKey(t, a, changed(filled(64, 64, ""), 5, "", ""), 'a', api.ErrArg)
	refusesKey(t, a, filled(64, 64, "kkkkkkkkk"), 'a', api.ErrArg)
}

// P8.3: texts written out.
func TestPut(t *testing.T) {
	puts(t, compose.Buffer{}, "", "あ", buffer("=あ||"))
	puts(t, compose.Buffer{}, "a", "あ", buffer("a=あ||"))
	puts(t, compose.Buffer{}, "abc", "漢字", buffer("abc=漢 =字||"))
	puts(t, buffer("||i=い"), "a", "あ", buffer("a=あ||i=い"))
	puts(t, buffer("i=い||"), "a", "あいう", buffer("i=い a=あ =い =う||"))
	puts(t, buffer("i=い||u=う e=え"), "xyz", "1😀", buffer("i=い xyz=1 =😀||u=う e=え"))
	puts(t, compose.Buffer{}, " ", " ", compose.Buffer{Items: []compose.Item{{Raw: " ", Out: " "}}, Caret: 1})
	puts(t, compose.Buffer{}, " ~", "\x00\n\U0010FFFF", compose.Buffer{Items: []compose.Item{{Raw: " ~", Out: "\x00"}, {Out: "\n"}, {Out: "\U0010FFFF"}}, Caret: 3})
	long := strings.Repeat(" ~kya", 1000)
	puts(t, compose.Buffer{}, long, "\uFFFD", compose.Buffer{Items: []compose.Item{{Raw: long, Out: "\uFFFD"}}, Caret: 1})
}

// P8.3: every byte among the raw keys.
func TestPutRaw(t *testing.T) {
	for i := range 256 {
		for _, raw := range []string{string([]byte{byte(i)}), string([]byte{'k', byte(i), 'k'}), string([]byte{'k', 'k', byte(i)})} {
			if 32 <= i && i <= 126 {
				puts(t, buffer("i=い||u=う"), raw, "あ", inserted(buffer("i=い||u=う"), raw, "あ"))
			} else {
				refusesText(t, buffer("i=い||u=う"), raw, "あ", api.ErrArg)
			}
		}
	}
}

// P8.3: whether there is room.
func TestPutRoom(t *testing.T) {
	for _, caret := range []int{0, 20, 61} {
		puts(t, filled(63, caret, ""), "a", "あ", inserted(filled(63, caret, ""), "a", "あ"))
		puts(t, filled(61, caret, ""), "a", "あいう", inserted(filled(61, caret, ""), "a", "あいう"))
		refusesText(t, filled(64, caret, ""), "a", "あ", api.ErrFull)
		refusesText(t, filled(63, caret, ""), "a", "あい", api.ErrFull)
		refusesText(t, filled(62, caret, ""), "", "あいう", api.ErrFull)
	}
	full := strings.Repeat("漢", 64)
	puts(t, compose.Buffer{}, "", full, inserted(compose.Buffer{}, "", full))
	puts(t, compose.Buffer{}, "a", full, inserted(compose.Buffer{}, "a", full))
	for _, n := range []int{65, 66, 256, 257, 1000} {
		refusesText(t, compose.Buffer{}, "a", strings.Repeat("漢", n), api.ErrFull)
	}
	refusesText(t, buffer("||a=あ"), "a", full, api.ErrFull)
}

// P8.3: which error is returned where several apply.
func TestPutErrors(t *testing.T) {
	long := strings.Repeat("漢", 65)
	for _, b := range append(stillValid(), notValid()...) {
		for _, out := range []string{"", "\x80", "あ\xE3\x81", "\xED\xA0\x80", long + "\xFF"} {
			refusesText(t, b, "a", out, api.ErrArg)
		}
		refusesText(t, b, "\x1F", "あ", api.ErrArg)
		refusesText(t, b, "a\x7F", long, api.ErrArg)
		refusesText(t, b, "あ", "\x80", api.ErrArg)
	}
	for _, b := range notValid() {
		refusesText(t, b, "a", "あ", api.ErrArg)
		refusesText(t, b, "a", long, api.ErrArg)
	}
	for _, pending := range []string{"k", "n", "!", "~~~~~~~~"} {
		for _, n := range []int{0, 3, 63, 64} {
			refusesText(t, filled(n, n, pending), "a", "あ", api.ErrState)
			refusesText(t, filled(n, 0, pending), "", long, api.ErrState)
		}
	}
}

// flushes checks one call of Flush.
func flushes(t *testing.T, a *auto.Auto, b, want compose.Buffer) {
	t.Helper()
	is(t, "Flush", compose.Flush(a, b), want)
}

// P8.4: what pending keys write.
func TestFlush(t *testing.T) {
	a := automaton(t, roman.Default())
	flushes(t, a, compose.Buffer{}, compose.Buffer{})
	flushes(t, a, buffer("i=い||u=う"), buffer("i=い||u=う"))
	flushes(t, a, buffer("|n|"), buffer("n=ん||"))
	flushes(t, a, buffer("|ky|"), buffer("ky=k =y||"))
	flushes(t, a, buffer("i=い|sh|u=う"), buffer("i=い sh=s =h||u=う"))
	flushes(t, a, buffer("|n|u=う"), buffer("n=ん||u=う"))
	flushes(t, a, buffer("|kyanntte|"), buffer("kyanntte=き =ゃ =ん =っ =て||"))
	flushes(t, a, buffer("i=い|!~!~!~!~|"), buffer("i=い !~!~!~!~=! =~ =! =~ =! =~ =! =~||"))
	flushes(t, automaton(t, nil), buffer("|n|u=う"), buffer("n=n||u=う"))
}

// P8.4: rules that write several characters, or only leave others pending.
func TestFlushRules(t *testing.T) {
	a := automaton(t, rules("a=いうえお", "ab=か", "xy=+q", "qq=ん", "cccc=んんんん+ccc", "ccc=ああああ+cc"))
	flushes(t, a, buffer("|a|"), buffer("a=い =う =え =お||"))
	flushes(t, a, buffer("i=い|aa|u=う"), buffer("i=い aa=い =う =え =お =い =う =え =お||u=う"))
	flushes(t, a, buffer("|xy|"), buffer("xy=q||"))
	flushes(t, a, buffer("|cccc|"), buffer("cccc=ん =ん =ん =ん =あ =あ =あ =あ =c =c||"))
	silent := automaton(t, rules("ab=+c", "cd=+a", "aa=+a", "xyz=+xy", "xy=+p"))
	for _, pending := range []string{"ab", "cd", "aa", "aaaaaaaa", "xyz", "xyxyxyxy"} {
		b := buffer("i=い|" + pending + "|u=う")
		flushes(t, silent, b, flushed(silent, b))
	}
}

// P8.4: only as many characters as there is room for.
func TestFlushRoom(t *testing.T) {
	a := automaton(t, roman.Default())
	for _, caret := range []int{0, 31, 56} {
		for n, out := range map[int]string{56: "ABCDEFGH", 57: "ABCDEFG", 60: "ABCD", 62: "AB", 63: "A", 64: ""} {
			flushes(t, a, filled(n, caret, "ABCDEFGH"), inserted(filled(n, caret, ""), "ABCDEFGH", out))
		}
		flushes(t, a, filled(64, caret, "n"), filled(64, caret, ""))
		flushes(t, a, filled(63, caret, "n"), inserted(filled(63, caret, ""), "n", "ん"))
		flushes(t, a, filled(63, caret, "ky"), inserted(filled(63, caret, ""), "ky", "k"))
	}
	four := automaton(t, rules("a=いうえお", "ab=か"))
	flushes(t, four, filled(61, 61, "a"), inserted(filled(61, 61, ""), "a", "いうえ"))
	flushes(t, four, filled(64, 61, "a"), filled(64, 61, ""))
}

// P8.4: no automaton leaves everything as it is.
func TestFlushNil(t *testing.T) {
	for _, b := range stillValid() {
		flushes(t, nil, b, b)
	}
}
