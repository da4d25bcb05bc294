package kana_test

import (
	"math"
	"math/rand"
	"strings"
	"testing"
	"unicode/utf8"

	"henkan/kana"
)

// functions returns the six functions that replace forms, by their names.
func functions() map[string]func(string) string {
	return map[string]func(string) string{"Hira": kana.Hira, "Kata": kana.Kata, "Half": kana.Half, "Full": kana.Full, "Wide": kana.Wide, "Narrow": kana.Narrow}
}

// gives checks one result.
func gives(t *testing.T, name, s, got, want string) {
	t.Helper()
	if got != want {
		t.Errorf("%s of %q (%+q): %q (%+q), want %q (%+q)", name, s, s, got, got, want, want)
	}
}

// The tables that the tests rely on have the numbers of the chapter.
func TestTables(t *testing.T) {
	for _, row := range []struct {
		text  string
		first rune
		size  int
	}{{allHiragana, 0x3041, 86}, {allKatakana, 0x30A1, 86}, {asciis[1:], 0x21, 94}, {wides[len("\u3000"):], 0xFF01, 94}} {
		l := []rune(row.text)
		if len(l) != row.size {
			t.Errorf("%d characters from %x", len(l), row.first)
		}
		for i, c := range l {
			if c != row.first+rune(i) {
				t.Errorf("%x at %d from %x", c, i, row.first)
			}
		}
	}
	seen := map[rune]bool{}
	for _, c := range halfSigns + allHalves {
		seen[c] = true
	}
	for c := rune(0xFF61); c <= 0xFF9F; c++ {
		if !seen[c] {
			t.Errorf("%x is missing", c)
		}
	}
	if n := len(strings.Fields(allHalves)); n != 86 {
		t.Errorf("%d halves", n)
	}
}

// P2.1 to P2.5: the examples of the chapter.
func TestExamples(t *testing.T) {
	gives(t, "Hira", "カタヴーA", kana.Hira("カタヴーA"), "かたゔーA")
	gives(t, "Kata", "かたゔーA", kana.Kata("かたゔーA"), "カタヴーA")
	gives(t, "Half", "がっこう", kana.Half("がっこう"), "ｶﾞｯｺｳ")
	gives(t, "Half", "ぱーヴ", kana.Half("ぱーヴ"), "ﾊﾟｰｳﾞ")
	gives(t, "Half", "ゐヶ亜", kana.Half("ゐヶ亜"), "ゐヶ亜")
	gives(t, "Full", "ｶﾞｯｺｳ", kana.Full("ｶﾞｯｺｳ"), "ガッコウ")
	gives(t, "Full", "ｱﾞﾟ", kana.Full("ｱﾞﾟ"), "ア゛゜")
	gives(t, "Full", "カﾞ", kana.Full("カﾞ"), "カ゛")
	gives(t, "Wide", "a 1~", kana.Wide("a 1~"), "ａ\u3000１\uFF5E")
	gives(t, "Narrow", "ａ\u3000１\uFF5E", kana.Narrow("ａ\u3000１\uFF5E"), "a 1~")
	for s, want := range map[string]bool{"きょー": true, "キ": false, "": false, strings.Repeat("あ", 65): false} {
		if got := kana.Reading(s); got != want {
			t.Errorf("Reading(%q): %v", s, got)
		}
	}
	for c, want := range map[rune]int{'あ': 1, 'ア': 2, 'ー': 2, 'ｱ': 3, 'Ａ': 4, 'A': 5, '々': 6, '゛': 0, 0x10: 0} {
		if got := kana.Class(c); got != want {
			t.Errorf("Class(%c): %d", c, got)
		}
	}
}

// P2.1: the numbers of the kinds.
func TestKinds(t *testing.T) {
	for i, got := range []int{kana.Other, kana.Hiragana, kana.Katakana, kana.HalfKana, kana.WideChar, kana.Ascii, kana.Han} {
		if got != i {
			t.Errorf("kind %d is %d", i, got)
		}
	}
}

// P2.1: the first and the last number of each kind, and their neighbours.
func TestClassEdges(t *testing.T) {
	for _, k := range []struct {
		first, last  rune
		kind         int
		before, next int
	}{
		{0x3041, 0x3096, kana.Hiragana, kana.Other, kana.Other},
		{0x30A1, 0x30F6, kana.Katakana, kana.Other, kana.Other},
		{0x30FC, 0x30FC, kana.Katakana, kana.Other, kana.Other},
		{0xFF61, 0xFF9F, kana.HalfKana, kana.Other, kana.Other},
		{0xFF01, 0xFF5E, kana.WideChar, kana.Other, kana.Other},
		{0x3000, 0x3000, kana.WideChar, kana.Other, kana.Other},
		{0x20, 0x7E, kana.Ascii, kana.Other, kana.Other},
		{0x3400, 0x4DBF, kana.Han, kana.Other, kana.Other},
		{0x4E00, 0x9FFF, kana.Han, kana.Other, kana.Other},
		{0x3005, 0x3005, kana.Han, kana.Other, kana.Other},
	} {
		got := [4]int{kana.Class(k.first - 1), kana.Class(k.first), kana.Class(k.last), kana.Class(k.last + 1)}
		if want := [4]int{k.before, k.kind, k.kind, k.next}; got != want {
			t.Errorf("%x to %x: %v", k.first, k.last, got)
		}
	}
}

// P2.1: every number from below 0 to above 10FFFF, and those far away.
func TestClass(t *testing.T) {
	for c := rune(-0x100); c <= 0x110100; c++ {
		want := kana.Other
		if c >= 0x20 && c <= 0xFFFF {
			want = kindOf(c)
		}
		if got := kana.Class(c); got != want {
			t.Fatalf("Class(%x): %d, want %d", c, got, want)
		}
	}
	for _, c := range []rune{math.MinInt32, math.MinInt32 + 0x3041, -0x3041, -0x10000 + 0x30A1, 0x13041, 0x1FF61, math.MaxInt32} {
		if got := kana.Class(c); got != kana.Other {
			t.Errorf("Class(%x): %d", c, got)
		}
	}
}

// P2.1: readings of all lengths up to 65 characters, and very long ones.
func TestReadingLengths(t *testing.T) {
	for _, s := range []string{"あ", "ー", "ゖ", "ぁ"} {
		for n := 0; n <= 65; n++ {
			if got, want := kana.Reading(strings.Repeat(s, n)), 1 <= n && n <= 64; got != want {
				t.Errorf("%d times %s: %v", n, s, got)
			}
		}
		if kana.Reading(strings.Repeat(s, 100000)) {
			t.Errorf("100000 times %s", s)
		}
	}
}

// P2.1: a reading has hiragana and long vowel marks only, at all its places.
func TestReadingCharacters(t *testing.T) {
	for c := rune(0); c <= 0x10FFFF; c++ {
		if c == 0xD800 {
			c = 0xE000
		}
		want := c >= 0x3041 && c <= 0x3096 || c == 0x30FC
		if got := kana.Reading(string(c)); got != want {
			t.Fatalf("Reading of %x: %v", c, got)
		}
	}
	whole := []rune(strings.Repeat("きょうー", 16))
	if !kana.Reading(string(whole)) {
		t.Error("64 characters")
	}
	for _, wrong := range "キｷA 亜゛・\u3040\u3097\n\u0000\uFFFD" {
		for _, i := range []int{0, 1, 31, 62, 63} {
			l := append([]rune{}, whole...)
			l[i] = wrong
			if kana.Reading(string(l)) {
				t.Errorf("%+q at %d", wrong, i)
			}
		}
	}
}

// P2.1: a string that is not valid is no reading.
func TestReadingNotValid(t *testing.T) {
	for _, s := range []string{"\x80", "\xFF", "あ\xFF", "\xE3\x81", "あ\xE3\x81", "\xE3\x81あ", "\xED\xA0\x80", "あ\xC0\x80い", strings.Repeat("あ", 63) + "\x82", strings.Repeat("あ", 64) + "\xE3"} {
		if kana.Reading(s) {
			t.Errorf("Reading(%+q)", s)
		}
	}
}

// P2.2 to P2.5: every character, one after the other with something between them; those near the kinds also alone and between others.
func TestEveryCharacter(t *testing.T) {
	want := references()
	for name, f := range functions() {
		for first := rune(0); first <= 0x10FFFF; first += 0x80 {
			if first >= 0xD800 && first <= 0xDFFF {
				continue
			}
			all := ""
			for c := first; c < first+0x80; c++ {
				all += string(c) + "|"
			}
			if got := f(all); got != want[name](all) {
				t.Fatalf("%s of %+q: %+q, want %+q", name, all, got, want[name](all))
			}
			if first > 0x100 && first < 0x2F00 || first >= 0x3200 && first < 0xFE00 || first > 0xFFFF {
				continue
			}
			for c := first; c < first+0x80; c++ {
				s := string(c)
				gives(t, name, s, f(s), want[name](s))
				s = s + s + "かｶ" + s + "A" + s
				gives(t, name, s, f(s), want[name](s))
			}
		}
	}
}

// P2.2 to P2.5: texts of characters of all kinds.
func TestTexts(t *testing.T) {
	r := rand.New(rand.NewSource(1))
	l, want := pool(), references()
	for name, f := range functions() {
		for range 5000 {
			s := someText(r, l, 20)
			gives(t, name, s, f(s), want[name](s))
		}
	}
}

// P2.2: the long vowel mark, the kana beside the last ones and the iteration marks stay.
func TestHiraKataStay(t *testing.T) {
	const stay = "ー゛゜ゝゞヷヸヹヺ・ヽヾｱｧﾞＡA亜々\u3040\u3097\u30A0"
	gives(t, "Hira", stay, kana.Hira(stay), stay)
	gives(t, "Kata", stay, kana.Kata(stay), stay)
	gives(t, "Hira", allKatakana, kana.Hira(allKatakana), allHiragana)
	gives(t, "Kata", allHiragana, kana.Kata(allHiragana), allKatakana)
	gives(t, "Hira", allHiragana, kana.Hira(allHiragana), allHiragana)
	gives(t, "Kata", allKatakana, kana.Kata(allKatakana), allKatakana)
}

// P2.3: the characters that stay, among them kana that have no half-width characters, letters and sound marks.
func TestHalfStay(t *testing.T) {
	const stay = without + "ヷヸヹヺ゛゜ゝゞヽヾ々亜Ａａ\u3000A ｶﾞ｡"
	gives(t, "Half", stay, kana.Half(stay), stay)
	gives(t, "Half", signs, kana.Half(signs), halfSigns)
	gives(t, "Half", "か゛", kana.Half("か゛"), "ｶ゛")
	gives(t, "Half", "か\u3099", kana.Half("か\u3099"), "ｶ\u3099")
}

// P2.4: each half-width character, with each sound mark directly after it.
func TestFullMarks(t *testing.T) {
	const (
		voiced     = "ガギグゲゴザジズゼゾダヂヅデドバビブベボヴ"
		ofVoiced   = "ｶｷｸｹｺｻｼｽｾｿﾀﾁﾂﾃﾄﾊﾋﾌﾍﾎｳ"
		halfVoiced = "パピプペポ"
		ofHalf     = "ﾊﾋﾌﾍﾎ"
	)
	joined := map[string]string{}
	for i, c := range characters(ofVoiced) {
		joined[c+"ﾞ"] = characters(voiced)[i]
	}
	for i, c := range characters(ofHalf) {
		joined[c+"ﾟ"] = characters(halfVoiced)[i]
	}
	alone := references()["Full"]
	marks := map[string]string{"ﾞ": "゛", "ﾟ": "゜"}
	for c := rune(0xFF61); c <= 0xFF9D; c++ {
		for mark, written := range marks {
			s := string(c) + mark
			want, ok := joined[s]
			if !ok {
				want = alone(string(c)) + written
			}
			gives(t, "Full", s, kana.Full(s), want)
			for second, after := range marks {
				gives(t, "Full", s+second, kana.Full(s+second), want+after)
			}
			gives(t, "Full", s+s, kana.Full(s+s), want+want)
		}
	}
}

// P2.4: sound marks that are joined with nothing.
func TestFullMarksAlone(t *testing.T) {
	for s, want := range map[string]string{
		"ﾞ": "゛", "ﾟ": "゜", "ﾞﾟ": "゛゜", "ﾟﾞ": "゜゛", "ﾞｶ": "゛カ", "ﾞｶﾞ": "゛ガ",
		"カﾞ": "カ゛", "ハﾟ": "ハ゜", "ウﾞ": "ウ゛", "かﾞ": "か゛", "はﾟ": "は゜", "ガﾞ": "ガ゛",
		"ｶ゛": "カ゛", "ﾊ゜": "ハ゜", "ｶ ﾞ": "カ ゛", "ｶ\u200Bﾞ": "カ\u200B゛", "ｶﾟ": "カ゜", "ｳﾟ": "ウ゜", "ﾜﾞ": "ワ゛", "ｦﾞ": "ヲ゛", "ﾅﾞ": "ナ゛", "ﾏﾟ": "マ゜", "ｰﾞ": "ー゛", "｡ﾞ": "。゛",
		"ｶﾞﾞ": "ガ゛", "ﾊﾞﾟ": "バ゜", "ﾊﾟﾞ": "パ゛", "aﾞ": "a゛", "亜ﾟ": "亜゜", "ｶｶﾞｶ": "カガカ", "ﾊﾊﾟﾊﾞﾊ": "ハパバハ",
	} {
		gives(t, "Full", s, kana.Full(s), want)
	}
}

// P2.5: all letters at once, and the signs beside the first and the last one.
func TestLetters(t *testing.T) {
	gives(t, "Wide", asciis, kana.Wide(asciis), wides)
	gives(t, "Narrow", wides, kana.Narrow(wides), asciis)
	const stay = "\u0000\n\u001F\u007F\u00A0\u2003\u3001\uFF00\uFF5F\uFF60｡ｱﾞ￠￥あア亜é"
	gives(t, "Wide", stay, kana.Wide(stay), stay)
	gives(t, "Narrow", stay, kana.Narrow(stay), stay)
}

// P2.2 to P2.5: the empty string, and strings that are not valid, stay as they are.
func TestNotValid(t *testing.T) {
	for name, f := range functions() {
		gives(t, name, "", f(""), "")
		for _, s := range notValid() {
			gives(t, name, s, f(s), s)
		}
	}
}

// P2.2 to P2.5: long texts, and wrong bytes at their end.
func TestLong(t *testing.T) {
	s := strings.Repeat("。あアゔｶﾞﾊﾟﾞａA 亜\U0001F600", 20000)
	want := references()
	for name, f := range functions() {
		if f(s) != want[name](s) {
			t.Errorf("%s of a long text", name)
		}
		if f(s+"\xE3\x81") != s+"\xE3\x81" {
			t.Errorf("%s of a long text that is not valid", name)
		}
	}
}

// P2.6: there and back, for each character and for texts.
func TestThereAndBack(t *testing.T) {
	var l []rune
	for _, c := range allHiragana + allKatakana + signs {
		if !strings.ContainsRune(without, c) {
			l = append(l, c)
		}
	}
	check := func(s string) {
		t.Helper()
		gives(t, "Full of Half", s, kana.Full(kana.Half(s)), kana.Kata(s))
	}
	for _, c := range l {
		check(string(c))
		for _, d := range l {
			check(string([]rune{c, d}))
		}
	}
	check(string(l))
	r := rand.New(rand.NewSource(2))
	for range 3000 {
		check(someText(r, l, 30))
	}
}

// P2.7: each function leaves its results as they are, and those that take each other back agree.
func TestOnceIsEnough(t *testing.T) {
	check := func(s string) {
		t.Helper()
		for name, f := range functions() {
			gives(t, name+" twice", s, f(f(s)), f(s))
		}
		gives(t, "Hira of Kata", s, kana.Hira(kana.Kata(s)), kana.Hira(s))
		gives(t, "Kata of Hira", s, kana.Kata(kana.Hira(s)), kana.Kata(s))
		gives(t, "Narrow of Wide", s, kana.Narrow(kana.Wide(s)), kana.Narrow(s))
		gives(t, "Wide of Narrow", s, kana.Wide(kana.Narrow(s)), kana.Wide(s))
	}
	l := pool()
	for _, c := range l {
		check(string(c))
	}
	for _, s := range notValid() {
		check(s)
	}
	r := rand.New(rand.NewSource(3))
	for range 3000 {
		check(someText(r, l, 30))
	}
}

// P2.8: a text is replaced part by part; a sound mark at the beginning of the second part may belong to the first one.
func TestParts(t *testing.T) {
	r := rand.New(rand.NewSource(4))
	l := pool()
	for range 3000 {
		a, b := someText(r, l, 10), someText(r, l, 10)
		for name, f := range functions() {
			if name == "Full" && (strings.HasPrefix(b, "ﾞ") || strings.HasPrefix(b, "ﾟ")) {
				continue
			}
			gives(t, name, a+b, f(a+b), f(a)+f(b))
		}
	}
	few := append(l[:0:0], []rune("かカｶはハﾊうウｳヴゔガぱパわヮーｰ゛゜\uFF9E\uFF9F、､aＡ \u3000亜|")...)
	for _, c := range few {
		for _, d := range l {
			a, b := string(c), string(d)
			for name, f := range functions() {
				if name != "Full" || b != "ﾞ" && b != "ﾟ" {
					gives(t, name, a+b, f(a+b), f(a)+f(b))
				}
				if name != "Full" || a != "ﾞ" && a != "ﾟ" {
					gives(t, name, b+a, f(b+a), f(b)+f(a))
				}
			}
		}
	}
	gives(t, "Full", "ｶ, ﾞ", kana.Full("ｶ")+kana.Full("ﾞ"), "カ゛")
}

// Results depend on the arguments alone (rule R4), and are valid for valid strings.
func TestResults(t *testing.T) {
	first, again := map[string]string{}, map[string]string{}
	for _, results := range []map[string]string{first, again} {
		for name, f := range functions() {
			for _, s := range []string{"ｶ", "ﾞ", "かﾞ", "ｶﾞ", "\xFF", "ﾟ"} {
				results[name+s] = f(s)
			}
		}
	}
	for name, got := range first {
		if again[name] != got {
			t.Errorf("%+q: %+q, then %+q", name, got, again[name])
		}
	}
	r := rand.New(rand.NewSource(5))
	l := pool()
	for name, f := range functions() {
		for range 500 {
			if s := someText(r, l, 30); !utf8.ValidString(f(s)) {
				t.Errorf("%s of %+q: %+q", name, s, f(s))
			}
		}
	}
}
