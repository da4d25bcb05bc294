package mode_test

import (
	"math"
	"math/rand"
	"strings"
	"unicode/utf8"

	"henkan/mode"
)

// The tests hold the package against tables that are written out row by row, and against package kana where the chapter names its functions.

// allModes are the five modes, and kanaModes those with kana.
var (
	allModes  = []int{mode.Hiragana, mode.Katakana, mode.HalfKana, mode.WideAscii, mode.Ascii}
	kanaModes = []int{mode.Hiragana, mode.Katakana, mode.HalfKana}
)

// noModes are numbers that are no modes; the lower bits of some are those of a mode.
var noModes = []int{0, 6, -1, 7, 8, 9, 10, -2, -3, -4, -5, -6, 100, 'k', 'r', 255, 256, 257, 258, 259, 260, 261, -255, -254, -253, 1<<16 + 2, 1<<16 + 5, math.MaxInt32, math.MinInt32, 1<<32 + 1, 1<<32 + 2, 1<<32 + 3, 1<<32 + 4, 1<<32 + 5, math.MaxInt - 1, math.MaxInt, math.MinInt, math.MinInt + 1, math.MinInt + 2, math.MinInt + 3, math.MinInt + 4, math.MinInt + 5}

// noForms are numbers that are no forms; the lower bits of some are those of a form.
var noForms = []int{0, 1, 2, 3, 4, 5, 11, 12, 13, 14, 15, 16, -1, -5, -6, -7, -8, -9, -10, -11, 100, '6', 255, 256, 256 + 6, 256 + 7, 256 + 8, 256 + 9, 256 + 10, 1<<16 + 6, math.MaxInt32, math.MinInt32, 1<<32 + 6, 1<<32 + 7, 1<<32 + 8, 1<<32 + 9, 1<<32 + 10, math.MaxInt - 1, math.MaxInt, math.MinInt, math.MinInt + 1, math.MinInt + 6, math.MinInt + 7, math.MinInt + 8, math.MinInt + 9, math.MinInt + 10}

// hiragana and katakana are the kana that correspond, at the same places; the long vowel mark is its own katakana.
const (
	hiragana = "ぁあぃいぅうぇえぉおかがきぎくぐけげこごさざしじすずせぜそぞただちぢっつづてでとどなにぬねのはばぱひびぴふぶぷへべぺほぼぽまみむめもゃやゅゆょよらりるれろゎわゐゑをんゔゕゖー"
	katakana = "ァアィイゥウェエォオカガキギクグケゲコゴサザシジスズセゼソゾタダチヂッツヅテデトドナニヌネノハバパヒビピフブプヘベペホボポマミムメモャヤュユョヨラリルレロヮワヰヱヲンヴヵヶー"
)

// The characters from 32 to 126, and their full-width forms at the same places.
const (
	narrow = " !\"#$%&'()*+,-./0123456789:;<=>?@ABCDEFGHIJKLMNOPQRSTUVWXYZ[\\]^_`abcdefghijklmnopqrstuvwxyz{|}~"
	wide   = "\u3000！＂＃＄％＆＇（）＊＋，－．／０１２３４５６７８９：；＜＝＞？＠ＡＢＣＤＥＦＧＨＩＪＫＬＭＮＯＰＱＲＳＴＵＶＷＸＹＺ［＼］＾＿｀ａｂｃｄｅｆｇｈｉｊｋｌｍｎｏｐｑｒｓｔｕｖｗｘｙｚ｛｜｝\uFF5E"
)

// notValid are strings that are not valid, with characters around the wrong bytes that a form would replace.
func notValid() []string {
	var l []string
	for _, wrong := range []string{"\x80", "\xFF", "\xC0\x80", "\xC1\xBF", "\xE0\x80\x80", "\xED\xA0\x80", "\xF4\x90\x80\x80", "\xE3\x81", "\xE3", "\xEF\xBD", "\xEF\xBE"} {
		for _, text := range []string{"", "a", " ", "か", "カ", "が゛", "ｶﾞ", "ﾞ", "Ａ", "\u3000", "\uFFFD", "。あアｱﾞａA 亜"} {
			l = append(l, wrong+text, text+wrong, text+wrong+text)
		}
	}
	return l
}

// someText returns up to n characters of letters; they depend only on the state of r.
func someText(r *rand.Rand, letters []rune, n int) string {
	text := make([]rune, r.Intn(n+1))
	for i := range text {
		text[i] = letters[r.Intn(len(letters))]
	}
	return string(text)
}

// letters are characters of all kinds, with sound marks and the kana before them more often than others.
func letters() []rune {
	const halves = "｡｢｣､･ｦｧｨｩｪｫｬｭｮｯｰｱｲｳｴｵｶｷｸｹｺｻｼｽｾｿﾀﾁﾂﾃﾄﾅﾆﾇﾈﾉﾊﾋﾌﾍﾎﾏﾐﾑﾒﾓﾔﾕﾖﾗﾘﾙﾚﾛﾜﾝ"
	return []rune(hiragana + katakana + narrow + wide + halves + "。「」、・゛゜ヷヸヹヺヽヾゝゞ々亜漢\u0000\u001F\u007F\u0080\u3099\u309A\uFFFD\U0001F600\U0010FFFF" + strings.Repeat("ﾞﾟ", 30) + strings.Repeat("ｳｶﾊカウハかうは", 4))
}

// texts are random texts of all kinds, the empty string, and strings that are not valid.
func texts(seed int64, many int) []string {
	r, l := rand.New(rand.NewSource(seed)), letters()
	all := append(notValid(), "")
	for range many {
		all = append(all, someText(r, l, 20))
	}
	return all
}

// readings are all readings of one and two characters, and random ones of up to 64.
func readings(seed int64, many int) []string {
	r, l := rand.New(rand.NewSource(seed)), []rune(hiragana)
	all := []string{hiragana[:len("あ")*64], hiragana[len(hiragana)-len("あ")*64:]}
	for _, c := range l {
		all = append(all, string(c), strings.Repeat(string(c), 64))
		for _, d := range l {
			all = append(all, string(c)+string(d))
		}
	}
	for range many {
		if s := someText(r, l, 64); s != "" {
			all = append(all, s)
		}
	}
	return all
}

// inKatakana returns a reading in katakana, by the table.
func inKatakana(reading string) string {
	from, to := []rune(hiragana), []rune(katakana)
	katakanaOf := make(map[rune]rune, len(from))
	for i, c := range from {
		katakanaOf[c] = to[i]
	}
	return strings.Map(func(c rune) rune { return katakanaOf[c] }, reading)
}

// wideOf returns the full-width form of a character by the table, and whether it has one.
func wideOf(c byte) (string, bool) {
	i := strings.IndexByte(narrow, c)
	if i < 0 || c >= utf8.RuneSelf {
		return "", false
	}
	return string([]rune(wide)[i]), true
}

// togglesTo returns the mode after a mode key, by the rows of the chapter.
func togglesTo(before int, key byte) int {
	switch {
	case key == 'k' && before == mode.Hiragana:
		return mode.Katakana
	case key == 'k' && before == mode.Katakana:
		return mode.Hiragana
	case key == 'h' && before == mode.Katakana:
		return mode.HalfKana
	case key == 'h' && before == mode.HalfKana:
		return mode.Katakana
	case key == 'w' && before == mode.Ascii:
		return mode.WideAscii
	case key == 'w' && before == mode.WideAscii:
		return mode.Ascii
	case key == 'r' && before == mode.Ascii:
		return mode.Hiragana
	case key == 'r' && before >= mode.Hiragana && before <= mode.WideAscii:
		return mode.Ascii
	}
	return before
}
