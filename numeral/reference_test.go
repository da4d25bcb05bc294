package numeral_test

import (
	"math/rand"
	"regexp"
	"slices"
	"strconv"
	"strings"
)

// The tests hold the package against a second reading of the chapter, which goes other ways: it writes every digit with its unit and strikes out what is not written, and it reads by regular expressions.

// style is a way of writing numbers with units: its digits from 0 on, its units from the right, and a regular expression of a group.
type style struct {
	digits, units string
	group         *regexp.Regexp
}

// styles has the ways of Kanji and of Formal.
var styles = map[string]style{
	"Kanji":  {"零一二三四五六七八九", " 十百千", regexp.MustCompile(`^([二三四五六七八九]?千)?([二三四五六七八九]?百)?([二三四五六七八九]?十)?([一二三四五六七八九])?$`)},
	"Formal": {"零壱弐参四五六七八九", " 拾百千", regexp.MustCompile(`^([壱弐参四五六七八九]千)?([壱弐参四五六七八九]百)?([壱弐参四五六七八九]拾)?([壱弐参四五六七八九])?$`)},
}

// positional are the digits of Positional, and onlyDigits is what they write.
const positional = "〇一二三四五六七八九"

var onlyDigits = regexp.MustCompile(`^(〇|[一二三四五六七八九][〇一二三四五六七八九]{0,19})$`)

// isDecimal are the decimal digits of the chapter.
var isDecimal = regexp.MustCompile(`^(0|[1-9][0-9]{0,19})$`)

// at returns the i-th character of s, and nothing for a space.
func at(s string, i int) string { return strings.TrimSpace(string([]rune(s)[i])) }

// units returns what Kanji or Formal writes for decimal digits.
func units(name, digits string) string {
	if digits == "0" {
		return "零"
	}
	w, s := styles[name], ""
	padded := strings.Repeat("0", 20-len(digits)) + digits
	for g := range 5 {
		group := padded[4*g : 4*g+4]
		for i, d := range group {
			s += at(w.digits, int(d-'0')) + at(w.units, 3-i)
		}
		if group != "0000" {
			s += at("京兆億万 ", g)
		}
	}
	for _, unwritten := range []string{"零千", "零百", "零" + at(w.units, 1), "零"} {
		s = strings.ReplaceAll(s, unwritten, "")
	}
	if name == "Kanji" {
		s = strings.NewReplacer("一千", "千", "一百", "百", "一十", "十").Replace(s)
	}
	return s
}

// each returns the digits with other characters for 0 to 9.
func each(digits, row string) string {
	s := ""
	for _, d := range digits {
		s += at(row, int(d-'0'))
	}
	return s
}

// commas returns the digits with commas, which are put in from the right.
func commas(digits string) string {
	s := ""
	for len(digits) > 3 {
		s = "," + digits[len(digits)-3:] + s
		digits = digits[:len(digits)-3]
	}
	return digits + s
}

// wanted returns what the function of that name writes for decimal digits.
func wanted(name, digits string) string {
	switch name {
	case "Positional":
		return each(digits, positional)
	case "Commas":
		return commas(digits)
	}
	return units(name, digits)
}

// wantedForms returns the forms of decimal digits.
func wantedForms(digits string) []string {
	var l []string
	for _, s := range []string{digits, each(digits, "０１２３４５６７８９"), commas(digits), each(digits, positional), units("Kanji", digits), units("Formal", digits)} {
		if !slices.Contains(l, s) {
			l = append(l, s)
		}
	}
	return l
}

// read returns the decimal digits that one of the three functions writes as s, or the empty string.
func read(s string) string {
	if s == "零" {
		return "0"
	}
	if onlyDigits.MatchString(s) {
		digits := ""
		for _, c := range s {
			digits += strconv.Itoa(slices.Index([]rune(positional), c))
		}
		return digits
	}
	for _, w := range styles {
		if digits := w.read(s); digits != "" {
			return digits
		}
	}
	return ""
}

// read returns the decimal digits that the style writes as s, or the empty string.
func (w style) read(s string) string {
	digits := ""
	for _, unit := range []string{"京", "兆", "億", "万", ""} {
		group, rest := s, ""
		if unit != "" {
			before, after, found := strings.Cut(s, unit)
			if !found {
				digits += "0000"
				continue
			}
			if before == "" {
				return ""
			}
			group, rest = before, after
		}
		value, ok := w.readGroup(group)
		if !ok {
			return ""
		}
		digits, s = digits+value, rest
	}
	return strings.TrimLeft(digits, "0")
}

// readGroup returns the four digits of a group.
func (w style) readGroup(s string) (string, bool) {
	parts := w.group.FindStringSubmatch(s)
	if parts == nil {
		return "", false
	}
	value := ""
	for _, part := range parts[1:] {
		digit := 0
		if part != "" {
			// A part that begins with its unit counts once.
			if digit = slices.Index([]rune(w.digits), []rune(part)[0]); digit < 0 {
				digit = 1
			}
		}
		value += strconv.Itoa(digit)
	}
	return value, true
}

// notDecimal are strings that are no decimal digits, though some resemble them.
func notDecimal() []string {
	l := []string{
		"", "00", "01", "000", "0000", "00000", "09", "0123", "01000", "1a", "a1", "a", "1a1", "-1", "-0", "+1", " 1", "1 ", " ", "1\n", "\n1", "1,000", "1,", ",1", ".5", "1.0", "1e3", "0x1", "1_000",
		"/", ":", "1/", "1:", "/1", ":1", "1/1", "1:1", "\x00", "1\x00", "\x001", "1\x001",
		"１", "１２", "1２", "１2", "０", "一", "十", "〇", "零", "1十", "一0", "٣", "1٣", "¹", "1²", "①", "५",
		"\xFF", "1\xFF", "\xFF1", "1\xFF1", "\x80", "1\x80", "\xB1", "\xEF\xBC", "1\xEF\xBC", "\xEF\xBC1", "\xC0\xB1", "\xE0\x80\xB1", "\xED\xA0\x80", "1\xED\xA0\x801",
		"0\xFF", "0a", "0 ", "0,", "0１", "0\x00",
	}
	for _, n := range []int{21, 22, 24, 40, 1000, 100000} {
		l = append(l, strings.Repeat("1", n), strings.Repeat("9", n), "1"+strings.Repeat("0", n-1), strings.Repeat("0", n))
	}
	// As long as a number may be, but wrong at one place.
	for i := range 20 {
		for _, wrong := range []string{"a", "/", ":", "\xFF", "\x00", ","} {
			l = append(l, strings.Repeat("1", i)+wrong+strings.Repeat("1", 19-i))
		}
	}
	for n := 2; n <= 21; n++ {
		l = append(l, "0"+strings.Repeat("1", n-1), strings.Repeat("0", n))
	}
	return l
}

// numbers are decimal digits of all lengths: all up to 9999, all whose groups are some that are easily written wrongly, and others that depend only on the seed.
func numbers(seed int64) []string {
	var l []string
	for n := range 10000 {
		l = append(l, strconv.Itoa(n))
	}
	groups := []string{"0000", "0001", "0010", "0101", "1000", "1011", "2345", "9999"}
	for n := range len(groups) * len(groups) * len(groups) * len(groups) * len(groups) {
		s := ""
		for range 5 {
			s, n = groups[n%len(groups)]+s, n/len(groups)
		}
		if s = strings.TrimLeft(s, "0"); len(s) > 4 {
			l = append(l, s)
		}
	}
	r := rand.New(rand.NewSource(seed))
	for n := 1; n <= 20; n++ {
		for range 200 {
			l = append(l, someDigits(r, n))
		}
		l = append(l, strings.Repeat("1", n), strings.Repeat("9", n), "1"+strings.Repeat("0", n-1), strings.Repeat("10", n)[:n])
	}
	return l
}

// someDigits returns n decimal digits, of which 0 and 1 are more frequent than others.
func someDigits(r *rand.Rand, n int) string {
	s := ""
	for i := range n {
		d := r.Intn(10)
		if r.Intn(3) == 0 {
			d = r.Intn(2)
		}
		if i == 0 && d == 0 && n > 1 {
			d = 1 + r.Intn(9)
		}
		s += strconv.Itoa(d)
	}
	return s
}
