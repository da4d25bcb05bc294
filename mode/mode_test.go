package mode_test

import (
	"math/rand"
	"slices"
	"strings"
	"testing"
	"unicode/utf8"
	"unsafe"

	"henkan/kana"
	"henkan/mode"
)

// shows checks one call of Show.
func shows(t *testing.T, m int, s, want string) {
	t.Helper()
	if got := mode.Show(m, s); got != want {
		t.Errorf("Show of %+q in mode %d: %+q, want %+q", s, m, got, want)
	}
}

// toggles checks one call of Toggle.
func toggles(t *testing.T, m int, key byte, want int) {
	t.Helper()
	if got := mode.Toggle(m, key); got != want {
		t.Errorf("Toggle of %d and %q: %d, want %d", m, key, got, want)
	}
}

// writes checks one call of Char; the empty string stands for none.
func writes(t *testing.T, m int, c byte, want string) {
	t.Helper()
	if got, ok := mode.Char(m, c); got != want || ok != (want != "") {
		t.Errorf("Char of %d and %d: %+q %v, want %+q", m, c, got, ok, want)
	}
}

// after returns the mode after some mode keys.
func after(m int, keys string) int {
	for _, key := range []byte(keys) {
		m = mode.Toggle(m, key)
	}
	return m
}

// P7.1 to P7.5: the examples of the chapter.
func TestExamples(t *testing.T) {
	shows(t, mode.HalfKana, "か゛", "ｶ゛")
	shows(t, mode.HalfKana, "かな", "ｶﾅ")
	if got := after(mode.Hiragana, "khrr"); got != mode.Hiragana {
		t.Errorf("after k, h, r, r: %d", got)
	}
	toggles(t, mode.HalfKana, 'k', mode.HalfKana)
	toggles(t, mode.Ascii, 'h', mode.Ascii)
	toggles(t, 9, 'r', 9)
	toggles(t, mode.WideAscii, 'r', mode.Ascii)
	writes(t, mode.WideAscii, 'a', "ａ")
	writes(t, mode.Ascii, 31, "")
	writes(t, mode.Hiragana, 'a', "")
	writes(t, mode.WideAscii, 32, "\u3000")
	forms(t, "ニほン", "nihon", [5]string{"にほん", "ニホン", "ﾆﾎﾝ", "ｎｉｈｏｎ", "nihon"})
	noForm(t, 11, "ニほン", "nihon")
	hasForm(t, 8, "ばん", "", "ﾊﾞﾝ")
}

// P7.1 to P7.5: the numbers of the modes.
func TestNumbers(t *testing.T) {
	for i, m := range []int{mode.Hiragana, mode.Katakana, mode.HalfKana, mode.WideAscii, mode.Ascii} {
		if m != i+1 {
			t.Errorf("mode %d is %d", i+1, m)
		}
	}
}

// The tables that the tests rely on belong together.
func TestTables(t *testing.T) {
	if n, m := utf8.RuneCountInString(hiragana), utf8.RuneCountInString(katakana); n != 87 || m != 87 {
		t.Errorf("%d hiragana and %d katakana", n, m)
	}
	if n, m := utf8.RuneCountInString(narrow), utf8.RuneCountInString(wide); n != 95 || m != 95 {
		t.Errorf("%d characters and %d full-width ones", n, m)
	}
	for i := range len(narrow) {
		if narrow[i] != byte(i+32) {
			t.Errorf("%q at %d", narrow[i], i)
		}
	}
	for _, s := range readings(1, 100) {
		if !kana.Reading(s) {
			t.Errorf("%+q is no reading", s)
		}
	}
	for _, s := range notValid() {
		if utf8.ValidString(s) {
			t.Errorf("%+q is valid", s)
		}
	}
}

// P7.1: texts written out, in all modes and for numbers that are no modes.
func TestShow(t *testing.T) {
	for _, x := range []struct{ s, katakana, half string }{
		{"", "", ""},
		{"か", "カ", "ｶ"},
		{"かな", "カナ", "ｶﾅ"},
		{"がっこう", "ガッコウ", "ｶﾞｯｺｳ"},
		{"ぱーてぃー", "パーティー", "ﾊﾟｰﾃｨｰ"},
		{"ゔヴ", "ヴヴ", "ｳﾞｳﾞ"},
		{"ニほン", "ニホン", "ﾆﾎﾝ"},
		{"きょうは、いいてんき。", "キョウハ、イイテンキ。", "ｷｮｳﾊ､ｲｲﾃﾝｷ｡"},
		{"「・ー」", "「・ー」", "｢･ｰ｣"},
		// Marks that stand alone or follow a kana.
		{"か゛", "カ゛", "ｶ゛"},
		{"は゜゛", "ハ゜゛", "ﾊ゜゛"},
		{"か\u3099", "カ\u3099", "ｶ\u3099"},
		{"かﾞ", "カﾞ", "ｶﾞ"},
		{"ﾞか", "ﾞカ", "ﾞｶ"},
		// Kana that have no half-width form.
		{"ゎゐゑゕゖ", "ヮヰヱヵヶ", "ゎゐゑゕゖ"},
		{"ヮヰヱヵヶヷヸヹヺ", "ヮヰヱヵヶヷヸヹヺ", "ヮヰヱヵヶヷヸヹヺ"},
		{"かゐガヱ", "カヰガヱ", "ｶゐｶﾞヱ"},
		{"ゝゞヽヾ", "ゝゞヽヾ", "ゝゞヽヾ"},
		// Half-width characters, letters, and characters of other kinds stay.
		{"ｶﾞｯｺｳ", "ｶﾞｯｺｳ", "ｶﾞｯｺｳ"},
		{"a A1~ａＡ１\u3000", "a A1~ａＡ１\u3000", "a A1~ａＡ１\u3000"},
		{"漢字々\u0000\n\u007F\uFFFD\U0001F600", "漢字々\u0000\n\u007F\uFFFD\U0001F600", "漢字々\u0000\n\u007F\uFFFD\U0001F600"},
		{"kかky", "kカky", "kｶky"},
		// Strings that are not valid stay.
		{"\xFF", "\xFF", "\xFF"},
		{"かな\xE3\x81", "かな\xE3\x81", "かな\xE3\x81"},
		{"\x80がカ", "\x80がカ", "\x80がカ"},
		{"か\xED\xA0\x80か", "か\xED\xA0\x80か", "か\xED\xA0\x80か"},
	} {
		shows(t, mode.Katakana, x.s, x.katakana)
		shows(t, mode.HalfKana, x.s, x.half)
		for _, m := range slices.Concat([]int{mode.Hiragana, mode.WideAscii, mode.Ascii}, noModes) {
			shows(t, m, x.s, x.s)
		}
	}
}

// P7.1: texts of all kinds, by the functions that the chapter names.
func TestShowTexts(t *testing.T) {
	for _, s := range append(texts(1, 3000), hiragana, katakana, narrow, wide) {
		shows(t, mode.Hiragana, s, s)
		shows(t, mode.Katakana, s, kana.Kata(s))
		shows(t, mode.HalfKana, s, kana.Half(s))
		shows(t, mode.WideAscii, s, s)
		shows(t, mode.Ascii, s, s)
		shows(t, noModes[len(s)%len(noModes)], s, s)
	}
	long := strings.Repeat("がﾞゐa", 50000)
	shows(t, mode.Katakana, long, strings.Repeat("ガﾞヰa", 50000))
	shows(t, mode.HalfKana, long, strings.Repeat("ｶﾞﾞゐa", 50000))
	shows(t, mode.Ascii, long, long)
}

// P7.1: every reading of one or two characters, and longer ones.
func TestShowReadings(t *testing.T) {
	for _, s := range readings(2, 300) {
		shows(t, mode.Hiragana, s, s)
		shows(t, mode.Katakana, s, inKatakana(s))
		shows(t, mode.HalfKana, s, kana.Half(s))
	}
}

// P7.2: each of the 256 bytes, in all modes and for numbers that are no modes.
func TestToggle(t *testing.T) {
	rows := map[byte][5]int{
		'k': {mode.Katakana, mode.Hiragana, mode.HalfKana, mode.WideAscii, mode.Ascii},
		'h': {mode.Hiragana, mode.HalfKana, mode.Katakana, mode.WideAscii, mode.Ascii},
		'w': {mode.Hiragana, mode.Katakana, mode.HalfKana, mode.Ascii, mode.WideAscii},
		'r': {mode.Ascii, mode.Ascii, mode.Ascii, mode.Ascii, mode.Hiragana},
	}
	for key := range 256 {
		for i, m := range allModes {
			want := m
			if row, ok := rows[byte(key)]; ok {
				want = row[i]
			}
			toggles(t, m, byte(key), want)
			if other := togglesTo(m, byte(key)); other != want {
				t.Errorf("the tables differ for %d and %q: %d and %d", m, byte(key), want, other)
			}
		}
		for _, m := range noModes {
			toggles(t, m, byte(key), m)
		}
	}
}

// P7.2: keys one after the other, among them bytes that are no mode keys.
func TestToggleKeys(t *testing.T) {
	for _, x := range []struct {
		from int
		keys string
		want int
	}{
		{mode.Hiragana, "", mode.Hiragana}, {mode.Hiragana, "kh", mode.HalfKana}, {mode.Hiragana, "hk", mode.Katakana}, {mode.Hiragana, "khh", mode.Katakana}, {mode.Hiragana, "khk", mode.HalfKana}, {mode.Hiragana, "khhk", mode.Hiragana},
		{mode.Hiragana, "r", mode.Ascii}, {mode.Hiragana, "rw", mode.WideAscii}, {mode.Hiragana, "rww", mode.Ascii}, {mode.Hiragana, "rwr", mode.Ascii}, {mode.Hiragana, "rwrr", mode.Hiragana}, {mode.Hiragana, "wr", mode.Ascii}, {mode.Hiragana, "rkhr", mode.Hiragana},
		{mode.Katakana, "rr", mode.Hiragana}, {mode.HalfKana, "rr", mode.Hiragana}, {mode.HalfKana, "hkrwrr", mode.Hiragana}, {mode.WideAscii, "rrk", mode.Katakana}, {mode.Ascii, "khw", mode.WideAscii}, {mode.Ascii, "rkhrw", mode.WideAscii},
		{mode.Hiragana, "K k\x00H\xFFh", mode.HalfKana}, {0, "khwrkhwr", 0}, {6, "rrww", 6},
	} {
		if got := after(x.from, x.keys); got != x.want {
			t.Errorf("%q from %d: %d, want %d", x.keys, x.from, got, x.want)
		}
	}
	r := rand.New(rand.NewSource(3))
	for range 500 {
		m := allModes[r.Intn(len(allModes))]
		want := m
		for range r.Intn(30) {
			key := "khwrkhwrKx"[r.Intn(10)]
			m, want = mode.Toggle(m, key), togglesTo(want, key)
			if m != want {
				t.Fatalf("after %q: %d, want %d", key, m, want)
			}
		}
	}
}

// P7.3: the modes, and other numbers.
func TestRoman(t *testing.T) {
	for i, want := range []bool{true, true, true, false, false} {
		if got := mode.Roman(allModes[i]); got != want {
			t.Errorf("Roman of %d: %v", allModes[i], got)
		}
	}
	for m := -1000; m <= 1000; m++ {
		if got := mode.Roman(m); got != slices.Contains(kanaModes, m) {
			t.Errorf("Roman of %d: %v", m, got)
		}
	}
	for _, m := range noModes {
		if mode.Roman(m) {
			t.Errorf("Roman of %d", m)
		}
	}
}

// P7.4: every byte, in all modes and for numbers that are no modes.
func TestChar(t *testing.T) {
	for i := range 256 {
		c := byte(i)
		inWide, ok := wideOf(c)
		if ok != (32 <= c && c <= 126) {
			t.Errorf("the table has %d: %v", c, ok)
		}
		inAscii := ""
		if ok {
			inAscii = string([]byte{c})
		}
		writes(t, mode.WideAscii, c, inWide)
		writes(t, mode.Ascii, c, inAscii)
		for _, m := range slices.Concat(kanaModes, noModes) {
			writes(t, m, c, "")
		}
	}
	for _, c := range []byte(narrow) {
		writes(t, mode.WideAscii, c, kana.Wide(string([]byte{c})))
	}
}

// P7.6: the keys k, h and w take themselves back, r only in Ascii.
func TestTwice(t *testing.T) {
	for _, m := range slices.Concat(allModes, noModes) {
		for _, keys := range []string{"kk", "hh", "ww"} {
			if got := after(m, keys); got != m {
				t.Errorf("%s from %d: %d", keys, m, got)
			}
		}
	}
	for i, want := range []int{mode.Hiragana, mode.Hiragana, mode.Hiragana, mode.Hiragana, mode.Ascii} {
		if got := after(allModes[i], "rr"); got != want {
			t.Errorf("rr from %d: %d, want %d", allModes[i], got, want)
		}
	}
}

// P7.6: some keys lead from each mode to each other one, and none to anything else.
func TestReached(t *testing.T) {
	for _, from := range allModes {
		reached := []int{from}
		for i := 0; i < len(reached); i++ {
			for key := range 256 {
				if m := mode.Toggle(reached[i], byte(key)); !slices.Contains(reached, m) {
					reached = append(reached, m)
				}
			}
		}
		slices.Sort(reached)
		if !slices.Equal(reached, allModes) {
			t.Errorf("from %d: %v", from, reached)
		}
	}
}

// P7.8: a full-width character, narrowed, is the ASCII one.
func TestCharNarrowed(t *testing.T) {
	for i := range 256 {
		inWide, okWide := mode.Char(mode.WideAscii, byte(i))
		inAscii, okAscii := mode.Char(mode.Ascii, byte(i))
		if kana.Narrow(inWide) != inAscii || okWide != okAscii {
			t.Errorf("%d: %+q %v and %+q %v", i, inWide, okWide, inAscii, okAscii)
		}
	}
}

// P7.1, P7.5: results are new memory (rule R3), and depend on the arguments alone (rule R4).
func TestNewMemory(t *testing.T) {
	shares := func(s, other string) bool {
		begin, otherBegin := uintptr(unsafe.Pointer(unsafe.StringData(s))), uintptr(unsafe.Pointer(unsafe.StringData(other)))
		return s != "" && other != "" && begin < otherBegin+uintptr(len(other)) && otherBegin < begin+uintptr(len(s))
	}
	var others []string
	first := map[string]string{}
	for _, s := range []string{"かな", "カナ", "ｶﾅ", "kana", "ｋａｎａ", "亜", "\xFF\xFE", "か", "k"} {
		for range 2 {
			kept := strings.Clone(s)
			others = append(others, kept)
			var results []string
			for m := 0; m <= 6; m++ {
				results = append(results, mode.Show(m, kept))
			}
			for n := 6; n <= 10; n++ {
				form, _ := mode.Form(n, kept, kept)
				results = append(results, form)
			}
			for _, result := range results {
				if slices.ContainsFunc(others, func(other string) bool { return shares(result, other) }) {
					t.Errorf("%+q of %+q is not new", result, s)
				}
				others = append(others, result)
			}
			all := strings.Join(results, "|")
			if before, ok := first[s]; ok && before != all {
				t.Errorf("%+q: %+q, then %+q", s, before, all)
			}
			first[s] = all
			if kept != s {
				t.Errorf("%+q becomes %+q", s, kept)
			}
		}
	}
}
