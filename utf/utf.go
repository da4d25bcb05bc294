// Package utf is layer 1: characters of strings. See shared/doc/01-utf.md.
package utf

// The numbers of characters are 0 to lastCharacter, without firstGap to lastGap.
const (
	firstGap      = 0xD800
	lastGap       = 0xDFFF
	lastCharacter = 0x10FFFF
)

// A range over a string yields broken where no code begins. The same number is a character, whose code is brokenCode.
const (
	broken     = 0xFFFD
	brokenCode = "\xEF\xBF\xBD"
)

// Valid reports whether s is valid UTF-8.
func Valid(s string) bool { return Count(s) >= 0 }

// Runes returns the characters of s, and whether s is valid.
func Runes(s string) ([]rune, bool) {
	n := Count(s)
	if n < 0 {
		return nil, false
	}
	l := make([]rune, 0, n)
	for _, c := range s {
		l = append(l, c)
	}
	return l, true
}

// Text returns the string of the characters in l; numbers that are no characters are left out.
func Text(l []rune) string {
	kept := make([]rune, 0, len(l))
	for _, c := range l {
		if isCharacter(c) {
			kept = append(kept, c)
		}
	}
	return string(kept)
}

// Count returns the number of characters of s, or -1 if s is not valid.
func Count(s string) int {
	n := 0
	for i, c := range s {
		if c == broken && !beginsWith(s[i:], brokenCode) {
			return -1
		}
		n++
	}
	return n
}

// Cut returns the characters from (included) to (not included) of s, or false if there are no such characters.
func Cut(s string, from, to int) (string, bool) {
	l, ok := Runes(s)
	if !ok || from < 0 || to < from || len(l) < to {
		return "", false
	}
	// A part of s would share its memory, and a result shares none with an argument.
	return Text(l[from:to]), true
}

// isCharacter reports whether c is the number of a character.
func isCharacter(c rune) bool {
	return 0 <= c && c < firstGap || lastGap < c && c <= lastCharacter
}

// beginsWith reports whether s begins with prefix.
func beginsWith(s, prefix string) bool {
	return len(s) >= len(prefix) && s[:len(prefix)] == prefix
}
