package utf_test

import "math/rand"

// The tests hold the package against this second reading of the chapter's table, which decodes nothing by itself: a sequence of bytes is a code if it is what the table writes for some character.

// encode returns the code of a character by the table, and no bytes for a number that is no character.
func encode(c rune) string {
	switch {
	case c < 0 || c >= 0xD800 && c <= 0xDFFF || c > 0x10FFFF:
		return ""
	case c <= 0x7F:
		return string([]byte{byte(c)})
	case c <= 0x7FF:
		return string([]byte{0xC0 + byte(c>>6), 0x80 + byte(c&63)})
	case c <= 0xFFFF:
		return string([]byte{0xE0 + byte(c>>12), 0x80 + byte(c>>6&63), 0x80 + byte(c&63)})
	}
	return string([]byte{0xF0 + byte(c>>18), 0x80 + byte(c>>12&63), 0x80 + byte(c>>6&63), 0x80 + byte(c&63)})
}

// encodeAll returns the codes of the characters among l.
func encodeAll(l []rune) string {
	s := ""
	for _, c := range l {
		s += encode(c)
	}
	return s
}

// first returns the character whose code s begins with, and the length of the code, or 0 if there is none.
func first(s string) (rune, int) {
	for n := 1; n <= 4 && n <= len(s); n++ {
		c := rune(s[0])
		if n > 1 {
			c = rune(s[0]) & (0x7F >> n)
		}
		for _, b := range []byte(s[1:n]) {
			c = c<<6 + rune(b&63)
		}
		if encode(c) == s[:n] {
			return c, n
		}
	}
	return 0, 0
}

// decode returns the characters of s, or false if s is not valid.
func decode(s string) ([]rune, bool) {
	var l []rune
	for s != "" {
		c, n := first(s)
		if n == 0 {
			return nil, false
		}
		l, s = append(l, c), s[n:]
	}
	return l, true
}

// edges are the first and last characters of the table's rows and of the gap, and characters that are easily mistaken for errors or marks.
func edges() []rune {
	return []rune{0, 0x0A, 0x21, 0x7F, 0x80, 0x301, 0x7FF, 0x800, 0x3042, 0xD7FF, 0xE000, 0xFDD0, 0xFEFF, 0xFFFD, 0xFFFE, 0xFFFF, 0x10000, 0x1F600, 0x10FFFF}
}

// others are numbers that are no characters.
func others() []rune {
	return []rune{-1 << 31, -0x3042, -1, 0xD800, 0xDBFF, 0xDC00, 0xDFFF, 0x110000, 0x200000, 1<<31 - 1}
}

// notValid are strings that are not valid, each for a reason of its own, alone and with valid text around them.
func notValid() []string {
	wrong := []string{
		"\x80", "\xBF", // no first byte
		"\xFE", "\xFF", "\xF5\x80\x80\x80", "\xF8\x88\x80\x80\x80", "\xFC\x84\x80\x80\x80\x80", // no first byte of the table
		"\xC0\x80", "\xC1\xBF", // too long: 0 and 7F
		"\xE0\x80\x80", "\xE0\x81\xBF", "\xE0\x82\x80", "\xE0\x9F\xBF", // too long: 0, 7F, 80 and 7FF
		"\xF0\x80\x80\x80", "\xF0\x82\x82\xAC", "\xF0\x8F\xBF\xBF", // too long: 0, 20AC and FFFF
		"\xED\xA0\x80", "\xED\xAF\xBF", "\xED\xB0\x80", "\xED\xBF\xBF", "\xED\xA0\xBD\xED\xB8\x80", // D800 to DFFF, alone and as a pair
		"\xF4\x90\x80\x80", "\xF4\xBF\xBF\xBF", "\xF7\xBF\xBF\xBF", // above 10FFFF
		"\xC2", "\xDF", "\xE3", "\xE3\x81", "\xEF\xBF", "\xF0", "\xF0\x9F", "\xF0\x9F\x98", "\xF4\x8F\xBF", // cut short
		"\xC2A", "\xE3\x81A", "\xE3A\x82", "\xF0\x9F\x98A", "\xC2\xC2\x80", "\xE3\x81\xE3\x81\x82", // another code begins too early
	}
	var l []string
	for _, s := range wrong {
		l = append(l, s, "a"+s, s+"a", "\u3042\uFFFD"+s, s+"\uFFFD\u3042", "\U0001F600"+s+"\U0001F600")
	}
	return l
}

// someText returns up to n characters, edges and others alike; they depend only on the state of r.
func someText(r *rand.Rand, n int) []rune {
	var l []rune
	for range r.Intn(n + 1) {
		c := rune(r.Intn(0x110000))
		if r.Intn(2) == 0 {
			c = edges()[r.Intn(len(edges()))]
		}
		if encode(c) != "" {
			l = append(l, c)
		}
	}
	return l
}
