package kana_test

import (
	"math/rand"
	"strings"
	"unicode/utf8"
)

// The tests hold the package against tables that are written out row by row, most of which the package computes from distances of numbers.

// allHiragana and allKatakana have the kana that correspond, at the same places, and allHalves what Half writes for them; "-" stands for the kana that stay.
const (
	allHiragana = "ぁあぃいぅうぇえぉおかがきぎくぐけげこごさざしじすずせぜそぞただちぢっつづてでとどなにぬねのはばぱひびぴふぶぷへべぺほぼぽまみむめもゃやゅゆょよらりるれろゎわゐゑをんゔゕゖ"
	allKatakana = "ァアィイゥウェエォオカガキギクグケゲコゴサザシジスズセゼソゾタダチヂッツヅテデトドナニヌネノハバパヒビピフブプヘベペホボポマミムメモャヤュユョヨラリルレロヮワヰヱヲンヴヵヶ"
	allHalves   = "ｧ ｱ ｨ ｲ ｩ ｳ ｪ ｴ ｫ ｵ ｶ ｶﾞ ｷ ｷﾞ ｸ ｸﾞ ｹ ｹﾞ ｺ ｺﾞ ｻ ｻﾞ ｼ ｼﾞ ｽ ｽﾞ ｾ ｾﾞ ｿ ｿﾞ ﾀ ﾀﾞ ﾁ ﾁﾞ ｯ ﾂ ﾂﾞ ﾃ ﾃﾞ ﾄ ﾄﾞ ﾅ ﾆ ﾇ ﾈ ﾉ ﾊ ﾊﾞ ﾊﾟ ﾋ ﾋﾞ ﾋﾟ ﾌ ﾌﾞ ﾌﾟ ﾍ ﾍﾞ ﾍﾟ ﾎ ﾎﾞ ﾎﾟ ﾏ ﾐ ﾑ ﾒ ﾓ ｬ ﾔ ｭ ﾕ ｮ ﾖ ﾗ ﾘ ﾙ ﾚ ﾛ - ﾜ - - ｦ ﾝ ｳﾞ - -"
)

// signs are the characters with half-width ones that are no kana, and halfSigns are these.
const (
	signs     = "。「」、・ー"
	halfSigns = "｡｢｣､･ｰ"
)

// without are the kana that have no half-width characters.
const without = "ヮヰヱヵヶゎゐゑゕゖ"

// asciis and wides have the characters from 20 to 7E and those that correspond to them, at the same places.
const (
	asciis = " !\"#$%&'()*+,-./0123456789:;<=>?@ABCDEFGHIJKLMNOPQRSTUVWXYZ[\\]^_`abcdefghijklmnopqrstuvwxyz{|}~"
	wides  = "\u3000！＂＃＄％＆＇（）＊＋，－．／０１２３４５６７８９：；＜＝＞？＠ＡＢＣＤＥＦＧＨＩＪＫＬＭＮＯＰＱＲＳＴＵＶＷＸＹＺ［＼］＾＿｀ａｂｃｄｅｆｇｈｉｊｋｌｍｎｏｐｑｒｓｔｕｖｗｘｙｚ｛｜｝\uFF5E"
)

// characters returns the characters of s as strings.
func characters(s string) []string { return strings.Split(s, "") }

// replacer returns a function that writes the strings of to for those of from, at the same places, where the earlier ones come first, and that returns a string that is not valid as it is.
func replacer(from, to []string) func(string) string {
	var pairs []string
	for i, s := range from {
		pairs = append(pairs, s, to[i])
	}
	r := strings.NewReplacer(pairs...)
	return func(s string) string {
		if !utf8.ValidString(s) {
			return s
		}
		return r.Replace(s)
	}
}

// references returns the six functions by the tables, with the names of those that they stand for.
func references() map[string]func(string) string {
	hiragana, katakana := characters(allHiragana), characters(allKatakana)
	var full, half, kanaWithHalf, halvesLongFirst, fullLongFirst []string
	for i, h := range strings.Fields(allHalves) {
		if h == "-" {
			continue
		}
		full, half = append(full, katakana[i]), append(half, h)
		kanaWithHalf = append(kanaWithHalf, hiragana[i])
		if utf8.RuneCountInString(h) == 2 {
			halvesLongFirst, fullLongFirst = append(halvesLongFirst, h), append(fullLongFirst, katakana[i])
		}
	}
	toHalf := replacer(append(append(append([]string{}, full...), kanaWithHalf...), characters(signs)...), append(append(append([]string{}, half...), half...), characters(halfSigns)...))
	toFull := replacer(append(append(halvesLongFirst, half...), characters(halfSigns+"ﾞﾟ")...), append(append(fullLongFirst, full...), characters(signs+"゛゜")...))
	return map[string]func(string) string{
		"Hira":   replacer(katakana, hiragana),
		"Kata":   replacer(hiragana, katakana),
		"Half":   toHalf,
		"Full":   toFull,
		"Wide":   replacer(characters(asciis), characters(wides)),
		"Narrow": replacer(characters(wides), characters(asciis)),
	}
}

// kindOf returns the kind of a character by the chapter's list.
func kindOf(c rune) int {
	for _, k := range []struct {
		first, last rune
		kind        int
	}{
		{0x3041, 0x3096, 1}, {0x30A1, 0x30F6, 2}, {0x30FC, 0x30FC, 2}, {0xFF61, 0xFF9F, 3}, {0xFF01, 0xFF5E, 4}, {0x3000, 0x3000, 4},
		{0x20, 0x7E, 5}, {0x3400, 0x4DBF, 6}, {0x4E00, 0x9FFF, 6}, {0x3005, 0x3005, 6},
	} {
		for n := k.first; n <= k.last; n++ {
			if n == c {
				return k.kind
			}
		}
	}
	return 0
}

// neighbours are characters that are easily mistaken for kana, marks or letters, or stand beside them.
const neighbours = "\u0000\u001F\u007F\u0080\u00A0\u2FFF\u3001\u3004\u3006\u3007\u3040\u3097\u3099\u309A゛゜\u309D\u309E\u309F\u30A0\u30F7\u30FA\u30FB\u30FD\u30FF\u33FF\u4DC0\uA000\uFF00\uFF5F\uFF60\uFFA0\uFFBE\uFFDC\uFFE0\uFFE5\uFFFD\U0001B000\U0001F600\U0010FFFF亜々。・"

// pool returns characters of all kinds, with sound marks and the kana before them more often than others.
func pool() []rune {
	halves := strings.NewReplacer(" ", "", "-", "").Replace(allHalves)
	return []rune(allHiragana + allKatakana + halves + halves + signs + halfSigns + asciis + wides + neighbours + strings.Repeat("ﾞﾟ", 40) + strings.Repeat("ｳｶﾊカハかは", 5))
}

// someText returns up to n characters of l; they depend only on the state of r.
func someText(r *rand.Rand, l []rune, n int) string {
	text := make([]rune, r.Intn(n+1))
	for i := range text {
		text[i] = l[r.Intn(len(l))]
	}
	return string(text)
}

// notValid are strings that are not valid, with characters around the wrong bytes that every function would replace.
func notValid() []string {
	var l []string
	for _, wrong := range []string{"\x80", "\xFF", "\xC0\x80", "\xC1\xBF", "\xE0\x80\x80", "\xED\xA0\x80", "\xF4\x90\x80\x80", "\xE3\x81", "\xE3", "\xEF\xBD", "\xEF\xBF"} {
		for _, text := range []string{"", "a", "ア", "あ", "ｶﾞ", "Ａ", "\u3000", "\uFFFD", "。あアｱﾞａA 亜"} {
			l = append(l, wrong+text, text+wrong, text+wrong+text)
		}
	}
	return l
}
