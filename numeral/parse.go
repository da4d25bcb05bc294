package numeral

import (
	"strconv"
	"strings"
)

// Parse returns the decimal digits of a number that Kanji, Positional or Formal writes.
func Parse(s string) (string, bool) {
	// What is read is a guess: it is the number only if one of the three functions writes s for it.
	for _, digits := range [...]string{readEach(s), readUnits(s)} {
		for _, write := range [...]func(string) (string, bool){Kanji, Positional, Formal} {
			if written, ok := write(digits); ok && written == s {
				return digits, true
			}
		}
	}
	return "", false
}

// readEach returns the digits of s, read one by one, or the empty string if s has anything else.
func readEach(s string) string {
	var digits strings.Builder
	for _, c := range s {
		digit, ok := digitOf(c)
		if !ok {
			return ""
		}
		digits.WriteString(strconv.Itoa(digit))
	}
	return digits.String()
}

// readUnits returns the decimal digits of the number that the digits and units of s are, or the empty string if s has anything else, or for 0, which has no units and is read by readEach. It does not ask whether their order is that of a number.
func readUnits(s string) string {
	// Digits are kept by the number of digits after them.
	var number [maxDigits]int
	var group [groupSize]int
	digit := 0
	endGroup := func(place int) {
		group[0] = digit
		copy(number[place*groupSize:], group[:])
		group, digit = [groupSize]int{}, 0
	}
	for _, c := range s {
		if d, ok := digitOf(c); ok {
			digit = d
		} else if unit, ok := unitOf(c); ok {
			// A unit without a digit before it counts once.
			group[unit], digit = max(digit, 1), 0
		} else if place, ok := groupOf(c); ok {
			endGroup(place)
		} else {
			return ""
		}
	}
	endGroup(0)
	digits := ""
	for _, d := range number {
		digits = strconv.Itoa(d) + digits
	}
	return strings.TrimLeft(digits, "0")
}

// digitOf returns the digit that c is, plain or formal.
func digitOf(c rune) (int, bool) {
	for digit := range plainDigits {
		if s := string(c); s == plainDigits[digit] || s == formalDigits[digit] {
			return digit, true
		}
	}
	return 0, false
}

// unitOf returns the place of the digits in a group whose unit is c, plain or formal.
func unitOf(c rune) (int, bool) {
	for unit := range plainUnits {
		if s := string(c); s == plainUnits[unit] || s == formalUnits[unit] {
			return unit, true
		}
	}
	return 0, false
}

// groupOf returns the place of the group whose unit is c.
func groupOf(c rune) (int, bool) {
	for place := range groupUnits {
		if string(c) == groupUnits[place] {
			return place, true
		}
	}
	return 0, false
}
