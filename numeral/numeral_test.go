package numeral_test

import (
	"math/rand"
	"slices"
	"strconv"
	"strings"
	"testing"

	"henkan/kana"
	"henkan/numeral"
)

// writers returns the four functions that write numbers, by their names.
func writers() map[string]func(string) (string, bool) {
	return map[string]func(string) (string, bool){"Kanji": numeral.Kanji, "Positional": numeral.Positional, "Formal": numeral.Formal, "Commas": numeral.Commas}
}

// readable are the names of the functions whose writing Parse reads.
var readable = []string{"Kanji", "Positional", "Formal"}

// writes checks what the function of that name writes.
func writes(t *testing.T, name, digits, want string) {
	t.Helper()
	if got, ok := writers()[name](digits); got != want || !ok {
		t.Errorf("%s of %q: %q %v, want %q", name, digits, got, ok, want)
	}
}

// parses checks one call of Parse; the empty string stands for none.
func parses(t *testing.T, s, want string) {
	t.Helper()
	if got, ok := numeral.Parse(s); got != want || ok != (want != "") {
		t.Errorf("Parse of %q: %q %v, want %q", s, got, ok, want)
	}
}

// hasForms checks one call of Forms.
func hasForms(t *testing.T, s string, want []string) {
	t.Helper()
	if got := numeral.Forms(s); !slices.Equal(got, want) {
		t.Errorf("Forms of %q: %q, want %q", s, got, want)
	}
}

// row is a number with its four writings.
type row struct{ digits, kanji, positional, formal, commas string }

// examples are those of the chapter.
func examples() []row {
	return []row{
		{"12030", "一万二千三十", "一二〇三〇", "壱万弐千参拾", "12,030"},
		{"0", "零", "〇", "零", "0"},
		{"11", "十一", "一一", "壱拾壱", "11"},
		{"1110", "千百十", "一一一〇", "壱千壱百壱拾", "1,110"},
		{"10000000", "千万", "一〇〇〇〇〇〇〇", "壱千万", "10,000,000"},
		{"100010000", "一億一万", "一〇〇〇一〇〇〇〇", "壱億壱万", "100,010,000"},
	}
}

// rows are numbers of all lengths at which something changes, written out.
func rows() []row {
	return []row{
		{"1", "一", "一", "壱", "1"},
		{"2", "二", "二", "弐", "2"},
		{"3", "三", "三", "参", "3"},
		{"4", "四", "四", "四", "4"},
		{"5", "五", "五", "五", "5"},
		{"6", "六", "六", "六", "6"},
		{"7", "七", "七", "七", "7"},
		{"8", "八", "八", "八", "8"},
		{"9", "九", "九", "九", "9"},
		{"10", "十", "一〇", "壱拾", "10"},
		{"14", "十四", "一四", "壱拾四", "14"},
		{"20", "二十", "二〇", "弐拾", "20"},
		{"21", "二十一", "二一", "弐拾壱", "21"},
		{"40", "四十", "四〇", "四拾", "40"},
		{"100", "百", "一〇〇", "壱百", "100"},
		{"101", "百一", "一〇一", "壱百壱", "101"},
		{"110", "百十", "一一〇", "壱百壱拾", "110"},
		{"123", "百二十三", "一二三", "壱百弐拾参", "123"},
		{"400", "四百", "四〇〇", "四百", "400"},
		{"999", "九百九十九", "九九九", "九百九拾九", "999"},
		{"1000", "千", "一〇〇〇", "壱千", "1,000"},
		{"1001", "千一", "一〇〇一", "壱千壱", "1,001"},
		{"1010", "千十", "一〇一〇", "壱千壱拾", "1,010"},
		{"1100", "千百", "一一〇〇", "壱千壱百", "1,100"},
		{"1111", "千百十一", "一一一一", "壱千壱百壱拾壱", "1,111"},
		{"5678", "五千六百七十八", "五六七八", "五千六百七拾八", "5,678"},
		{"9999", "九千九百九十九", "九九九九", "九千九百九拾九", "9,999"},
		{"10000", "一万", "一〇〇〇〇", "壱万", "10,000"},
		{"10001", "一万一", "一〇〇〇一", "壱万壱", "10,001"},
		{"11000", "一万千", "一一〇〇〇", "壱万壱千", "11,000"},
		{"40000", "四万", "四〇〇〇〇", "四万", "40,000"},
		{"100000", "十万", "一〇〇〇〇〇", "壱拾万", "100,000"},
		{"110000", "十一万", "一一〇〇〇〇", "壱拾壱万", "110,000"},
		{"1000000", "百万", "一〇〇〇〇〇〇", "壱百万", "1,000,000"},
		{"1234567", "百二十三万四千五百六十七", "一二三四五六七", "壱百弐拾参万四千五百六拾七", "1,234,567"},
		{"10000001", "千万一", "一〇〇〇〇〇〇一", "壱千万壱", "10,000,001"},
		{"10010000", "千一万", "一〇〇一〇〇〇〇", "壱千壱万", "10,010,000"},
		{"99999999", "九千九百九十九万九千九百九十九", "九九九九九九九九", "九千九百九拾九万九千九百九拾九", "99,999,999"},
		{"100000000", "一億", "一〇〇〇〇〇〇〇〇", "壱億", "100,000,000"},
		{"100001000", "一億千", "一〇〇〇〇一〇〇〇", "壱億壱千", "100,001,000"},
		{"1000000000000", "一兆", "一〇〇〇〇〇〇〇〇〇〇〇〇", "壱兆", "1,000,000,000,000"},
		{"1000000000001", "一兆一", "一〇〇〇〇〇〇〇〇〇〇〇一", "壱兆壱", "1,000,000,000,001"},
		{"1000000000000000", "千兆", "一〇〇〇〇〇〇〇〇〇〇〇〇〇〇〇", "壱千兆", "1,000,000,000,000,000"},
		{"10000000000000000", "一京", "一〇〇〇〇〇〇〇〇〇〇〇〇〇〇〇〇", "壱京", "10,000,000,000,000,000"},
		{"10000000100000000", "一京一億", "一〇〇〇〇〇〇〇一〇〇〇〇〇〇〇〇", "壱京壱億", "10,000,000,100,000,000"},
		{"10000000000000000000", "千京", "一〇〇〇〇〇〇〇〇〇〇〇〇〇〇〇〇〇〇〇", "壱千京", "10,000,000,000,000,000,000"},
		{"10001000100010001000", "千京千兆千億千万千", "一〇〇〇一〇〇〇一〇〇〇一〇〇〇一〇〇〇", "壱千京壱千兆壱千億壱千万壱千", "10,001,000,100,010,001,000"},
		{
			"12345678901234567890", "千二百三十四京五千六百七十八兆九千十二億三千四百五十六万七千八百九十", "一二三四五六七八九〇一二三四五六七八九〇",
			"壱千弐百参拾四京五千六百七拾八兆九千壱拾弐億参千四百五拾六万七千八百九拾", "12,345,678,901,234,567,890",
		},
		{
			"99999999999999999999", "九千九百九十九京九千九百九十九兆九千九百九十九億九千九百九十九万九千九百九十九", "九九九九九九九九九九九九九九九九九九九九",
			"九千九百九拾九京九千九百九拾九兆九千九百九拾九億九千九百九拾九万九千九百九拾九", "99,999,999,999,999,999,999",
		},
	}
}

// P3.1 to P3.5: the examples of the chapter, and rows written out.
func TestRows(t *testing.T) {
	for _, x := range append(examples(), rows()...) {
		writes(t, "Kanji", x.digits, x.kanji)
		writes(t, "Positional", x.digits, x.positional)
		writes(t, "Formal", x.digits, x.formal)
		writes(t, "Commas", x.digits, x.commas)
		parses(t, x.kanji, x.digits)
		parses(t, x.positional, x.digits)
		parses(t, x.formal, x.digits)
	}
}

// P3.1 to P3.4: numbers of all lengths, among them all up to 9999 and those with groups of zeros.
func TestNumbers(t *testing.T) {
	for _, digits := range numbers(1) {
		for name := range writers() {
			writes(t, name, digits, wanted(name, digits))
		}
		if t.Failed() {
			t.FailNow()
		}
	}
}

// P3.1 to P3.4: the examples and all other strings that are no decimal digits.
func TestNotDecimal(t *testing.T) {
	for _, s := range append([]string{"00", "1a", "", strings.Repeat("1", 21)}, notDecimal()...) {
		if isDecimal.MatchString(s) {
			t.Fatalf("%q are decimal digits", s)
		}
		for name, write := range writers() {
			if got, ok := write(s); got != "" || ok {
				t.Errorf("%s of %.50q: %q %v", name, s, got, ok)
			}
		}
	}
}

// P3.1 to P3.4: all strings of up to two bytes, and those of three characters that may be taken for digits.
func TestAllBytes(t *testing.T) {
	check := func(s string) {
		t.Helper()
		for name, write := range writers() {
			want := ""
			if isDecimal.MatchString(s) {
				want = wanted(name, s)
			}
			if got, ok := write(s); got != want || ok != (want != "") {
				t.Fatalf("%s of %q: %q %v, want %q", name, s, got, ok, want)
			}
		}
	}
	for a := range 256 {
		check(string([]byte{byte(a)}))
		for b := range 256 {
			check(string([]byte{byte(a), byte(b)}))
		}
	}
	some := strings.Split("0 1 9 / : a １ 〇 一 \xFF \xEF\xBC", " ")
	for _, a := range some {
		for _, b := range some {
			for _, c := range some {
				check(a + b + c)
			}
		}
	}
}

// P3.5: the examples.
func TestParseExamples(t *testing.T) {
	parses(t, "千一", "1001")
	parses(t, "一〇〇一", "1001")
	parses(t, "壱千壱", "1001")
	parses(t, "一千一", "")
	parses(t, "〇一", "")
}

// P3.5: strings that resemble numbers.
func TestParseRefuses(t *testing.T) {
	for _, s := range []string{
		"", " ", "0", "1", "12", "1001", "1,001", "１", "１２", "1一", "一1", "1万", "１万", "2千", "一,〇〇一",
		"一十", "一百", "一千", "一百一", "二千一百", "一千万", "一万一千", "一万一百", "一億一千万", "一億一千", "一十万", "千一百", "一百万",
		"〇〇", "〇一", "〇〇一", "〇十", "〇千", "〇万", "〇百一", "一十〇", "十〇", "千〇一", "千〇", "百〇五", "一万〇", "一万〇一", "二十〇", "一二十", "十二三", "一二万", "一〇〇万", "一〇万", "二〇千",
		"零零", "零一", "一零", "十零", "零十", "零万", "一万零", "万零", "一零一", "千零一", "〇零", "零〇", "壱零", "零壱", "壱拾零", "壱千零壱", "壱零零壱",
		"拾", "拾壱", "百壱", "千壱", "壱拾一", "壱拾壱一", "十壱", "二拾", "弐十", "一拾", "壱十", "壱百十", "千壱百", "壱万千", "百壱拾", "壱千一", "千一万壱", "壱億一万", "四拾一", "四十壱", "壱〇", "壱〇〇壱", "壱壱", "弐参", "参四", "四四拾",
		"十十", "百百", "千千", "万万", "十百", "百千", "十千", "一二千三", "二十百", "二百千", "一十百", "十二十", "十一十", "二十二十", "百二百", "百十百", "壱拾弐拾", "一二十三四", "四拾四十", "四百四百",
		"万", "億", "兆", "京", "万一", "億万", "一億万", "京一", "一京億", "一万億", "一万一億", "一億一億", "一万二万", "一万一万", "一億二万三億", "一万万", "一兆一京", "一億億", "十万十億", "一垓", "千垓", "一京一垓", "十万億",
		"一万 ", " 一万", "一 万", "一\n", "\n一", "一\x00", "\x00一", "十\x00", "\x00", "一、二", "一・二", "・", "負一", "マイナス一", "-一", "一点五", "第一", "一つ", "十日",
		"壹", "貳", "參", "弌", "廿", "卅", "萬", "壱萬", "陌", "仟", "佰", "伍", "陸", "漆", "捌", "玖", "両", "○", "◯", "O", "ー", "ニ", "ハ", "口", "丁",
		"\xFF", "一\xFF", "\xFF一", "一\xFF万", "\xE4\xB8", "一\xE4\xB8", "\xE4\xB8一", "\x80", "千\x80一", "\uFFFD", "一\uFFFD", "\xED\xA0\x80",
	} {
		parses(t, s, "")
	}
}

// P3.5: the numbers with the most digits, and those with too many.
func TestParseLong(t *testing.T) {
	for n := 1; n <= 60; n++ {
		for _, d := range []string{"1", "9"} {
			want := strings.Repeat(d, n)
			if n > 20 {
				want = ""
			}
			parses(t, each(strings.Repeat(d, n), positional), want)
		}
	}
	for _, s := range []string{"一", "〇", "零", "壱", "十", "千", "拾", "万", "京", "千京", "千万千", "九千九百九十九京", "一万"} {
		parses(t, strings.Repeat(s, 25), "")
		parses(t, strings.Repeat(s, 100000), "")
	}
	long := units("Kanji", strings.Repeat("9", 20))
	parses(t, long, strings.Repeat("9", 20))
	for _, s := range []string{"一", "〇", "十", "万", "京", "九", "九千", "\xFF"} {
		parses(t, long+s, "")
		parses(t, s+long, "")
	}
}

// P3.5: all short strings of the characters of numbers, and of some others.
func TestParseShort(t *testing.T) {
	extend(t, "", 3, strings.Split("〇零一二三四五六七八九壱弐参十拾百千万億兆京0１,\xFF垓", ""))
	extend(t, "", 4, strings.Split("〇零一壱二四十拾百千万億京", ""))
	extend(t, "", 6, strings.Split("〇一二十千万億", ""))
	extend(t, "", 6, strings.Split("零壱四拾千万京", ""))
}

// extend checks s and the strings that up to n of the characters make of it.
func extend(t *testing.T, s string, n int, l []string) {
	t.Helper()
	parses(t, s, read(s))
	if t.Failed() {
		t.FailNow()
	}
	if n == 0 {
		return
	}
	for _, c := range l {
		extend(t, s+c, n-1, l)
	}
}

// P3.5: numbers that were written, with one character left out, put in, changed, or moved.
func TestParseChanged(t *testing.T) {
	r := rand.New(rand.NewSource(2))
	l := []rune("〇零一二三四五六七八九壱弐参十拾百千万億兆京\u0000a１")
	for range 20000 {
		s := []rune(wanted(readable[r.Intn(3)], someDigits(r, 1+r.Intn(20))))
		i := r.Intn(len(s))
		switch r.Intn(4) {
		case 0:
			s = slices.Delete(s, i, i+1)
		case 1:
			s = slices.Insert(s, i, l[r.Intn(len(l))])
		case 2:
			s[i] = l[r.Intn(len(l))]
		case 3:
			j := r.Intn(len(s))
			s[i], s[j] = s[j], s[i]
		}
		parses(t, string(s), read(string(s)))
	}
}

// P3.6: the examples, forms that coincide, and digits of all forms, mixed.
func TestForms(t *testing.T) {
	hasForms(t, "5", []string{"5", "５", "五"})
	hasForms(t, "10", []string{"10", "１０", "一〇", "十", "壱拾"})
	hasForms(t, "0", []string{"0", "０", "〇", "零"})
	hasForms(t, "1", []string{"1", "１", "一", "壱"})
	hasForms(t, "2", []string{"2", "２", "二", "弐"})
	hasForms(t, "3", []string{"3", "３", "三", "参"})
	hasForms(t, "4", []string{"4", "４", "四"})
	hasForms(t, "40", []string{"40", "４０", "四〇", "四十", "四拾"})
	hasForms(t, "400", []string{"400", "４００", "四〇〇", "四百"})
	hasForms(t, "405", []string{"405", "４０５", "四〇五", "四百五"})
	hasForms(t, "123", []string{"123", "１２３", "一二三", "百二十三", "壱百弐拾参"})
	hasForms(t, "1000", []string{"1000", "１０００", "1,000", "一〇〇〇", "千", "壱千"})
	hasForms(t, "9000", []string{"9000", "９０００", "9,000", "九〇〇〇", "九千"})
	hasForms(t, "45000", []string{"45000", "４５０００", "45,000", "四五〇〇〇", "四万五千"})
	forms := []string{"1234567890", "１２３４５６７８９０", "1,234,567,890", "一二三四五六七八九〇", "十二億三千四百五十六万七千八百九十", "壱拾弐億参千四百五拾六万七千八百九拾"}
	for _, s := range []string{"1234567890", "１２３４５６７８９０", "1２3４5６7８9０", "１2３4５6７8９0", "123456789０", "１234567890"} {
		hasForms(t, s, forms)
	}
	hasForms(t, "５", []string{"5", "５", "五"})
	hasForms(t, "０", []string{"0", "０", "〇", "零"})
}

// P3.6: numbers of all lengths, in ASCII, in full-width digits, and in both.
func TestFormsNumbers(t *testing.T) {
	r := rand.New(rand.NewSource(3))
	for i, digits := range numbers(4) {
		if i%3 != 0 && len(digits) > 3 {
			continue
		}
		want := wantedForms(digits)
		mixed := ""
		for _, d := range digits {
			mixed += each(string(d), []string{"0123456789", "０１２３４５６７８９"}[r.Intn(2)])
		}
		for _, s := range []string{digits, each(digits, "０１２３４５６７８９"), mixed} {
			hasForms(t, s, want)
		}
		if t.Failed() {
			t.FailNow()
		}
	}
}

// P3.6: strings that are no digits, or whose digits are no decimal digits, have no forms.
func TestNoForms(t *testing.T) {
	for _, s := range notDecimal() {
		// Those that are digits all the same, full-width ones, have forms.
		if !isDecimal.MatchString(kana.Narrow(s)) {
			hasForms(t, s, nil)
		}
	}
	for _, s := range []string{
		"", "00", "01", "０１", "0１", "０1", "００", "０0", "000", "００１", strings.Repeat("1", 21), strings.Repeat("１", 21), strings.Repeat("1", 20) + "１", "１" + strings.Repeat("0", 20), strings.Repeat("0", 20), strings.Repeat("1", 100000), strings.Repeat("１", 100000), strings.Repeat("0", 100000), "0" + strings.Repeat("１", 19),
		"／", "：", "１／", "１：", "／１", "：１", "１ａ", "１，０００", "１.５", "－１", "１　", "　１", "1,000", "五", "十", "〇", "零", "１十", "一１", "百２", "1\uFFFD", "１\xFF", "\xFF１", "１\xEF\xBC", "\xEF\xBC１", "\xEF１", "１\x91", "1\x00", "\x00１",
	} {
		hasForms(t, s, nil)
	}
	for n := 1; n <= 25; n++ {
		for _, s := range []string{strings.Repeat("1", n), strings.Repeat("１", n), strings.Repeat("1１", n/2) + strings.Repeat("１", n%2)} {
			want := wantedForms(strings.Repeat("1", min(n, 20)))
			if n > 20 {
				want = nil
			}
			hasForms(t, s, want)
		}
	}
}

// P3.6: every character alone, and beside a digit.
func TestFormsCharacters(t *testing.T) {
	digit := func(c rune) string {
		i := slices.Index([]rune("0123456789０１２３４５６７８９"), c)
		if i < 0 {
			return ""
		}
		return strconv.Itoa(i % 10)
	}
	for c := rune(0); c <= 0x10FFFF; c++ {
		want := digit(c)
		if want == "" {
			if s := string(c); len(numeral.Forms(s)) != 0 || len(numeral.Forms("1"+s)) != 0 || len(numeral.Forms(s+"１")) != 0 {
				t.Fatalf("%x has forms", c)
			}
			continue
		}
		hasForms(t, string(c), wantedForms(want))
		hasForms(t, "1"+string(c), wantedForms("1"+want))
	}
}

// P3.7: Parse takes back what the three functions write.
func TestRoundTrip(t *testing.T) {
	for _, digits := range numbers(5) {
		for _, name := range readable {
			s, ok := writers()[name](digits)
			if !ok {
				t.Errorf("%s of %s", name, digits)
			}
			parses(t, s, digits)
		}
		if t.Failed() {
			t.FailNow()
		}
	}
}

// P3.8: no two numbers are written alike.
func TestOneToOne(t *testing.T) {
	numberOf, withCommas := map[string]string{}, map[string]string{}
	enter := func(m map[string]string, name, digits string) {
		s, ok := writers()[name](digits)
		if other, twice := m[s]; !ok || twice && other != digits {
			t.Errorf("%s of %s: %q %v, which %s is, too", name, digits, s, ok, other)
		}
		m[s] = digits
	}
	for _, digits := range numbers(6) {
		for _, name := range readable {
			enter(numberOf, name, digits)
		}
		enter(withCommas, "Commas", digits)
	}
}

// P3.9: groups are written one after the other.
func TestGroups(t *testing.T) {
	r := rand.New(rand.NewSource(7))
	written := func(name, digits string) string {
		s, ok := writers()[name](digits)
		if !ok {
			t.Errorf("%s of %s", name, digits)
		}
		return s
	}
	check := func(name string, n, m int) {
		digits := strconv.Itoa(m)
		want := written(name, strconv.Itoa(n)) + "万"
		if m != 0 {
			want += written(name, digits)
		}
		writes(t, name, strconv.Itoa(n)+strings.Repeat("0", 4-len(digits))+digits, want)
	}
	for _, name := range []string{"Kanji", "Formal"} {
		for n := 1; n <= 9999; n++ {
			for k, unit := range []string{"", "万", "億", "兆", "京"} {
				writes(t, name, strconv.Itoa(n)+strings.Repeat("0000", k), written(name, strconv.Itoa(n))+unit)
			}
			for _, other := range []int{1, 10, 11, 1000, 1001, 9999, 1 + r.Intn(9999)} {
				check(name, other, n)
				check(name, n, other)
			}
			check(name, n, 0)
		}
	}
}

// P3.10: the places of the commas.
func TestCommas(t *testing.T) {
	for _, digits := range numbers(8) {
		s, ok := numeral.Commas(digits)
		parts := strings.Split(s, ",")
		if !ok || strings.Join(parts, "") != digits || len(parts[0]) < 1 || len(parts[0]) > 3 {
			t.Errorf("Commas of %s: %s %v", digits, s, ok)
		}
		for _, part := range parts[1:] {
			if len(part) != 3 {
				t.Errorf("Commas of %s: %s", digits, s)
			}
		}
	}
}

// Results are new memory, and a call depends on its arguments alone (rules R3 and R4).
func TestResults(t *testing.T) {
	want := []string{"1000", "１０００", "1,000", "一〇〇〇", "千", "壱千"}
	one, two := numeral.Forms("1000"), numeral.Forms("1000")
	for i := range one {
		one[i] = "x"
	}
	one = append(one[:3], "y")
	if three := numeral.Forms("1000"); !slices.Equal(two, want) || !slices.Equal(three, want) {
		t.Errorf("%q %q after %q", two, three, one)
	}
	for range 2 {
		parses(t, "一万一千", "")
		parses(t, "千京", "1"+strings.Repeat("0", 19))
		parses(t, "二", "2")
		parses(t, "万", "")
		writes(t, "Kanji", "10000", "一万")
		writes(t, "Kanji", "1", "一")
		writes(t, "Formal", "0", "零")
		hasForms(t, "x", nil)
		hasForms(t, "7", []string{"7", "７", "七"})
	}
}
