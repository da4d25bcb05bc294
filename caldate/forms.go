package caldate

import (
	"slices"
	"strconv"
	"strings"

	"henkan/numeral"
)

// Units of the fields of forms, and the year with which an era begins.
const (
	yearUnit  = "年"
	monthUnit = "月"
	dayUnit   = "日"
	firstYear = "元"
)

// Digits of fields of the forms whose lengths are fixed.
const (
	yearDigits = 4
	partDigits = 2
)

// field is a number of a form, at least how many digits are written of it, and what follows it.
type field struct {
	number, digits int
	unit           string
}

// Forms returns all ways of writing a day.
func Forms(day int) []string {
	_, m, d, ok := Date(day)
	if !ok {
		return nil
	}
	return append(formsWithYear(day),
		join(decimal, field{m, 1, monthUnit}, field{d, 1, dayUnit}),
		join(decimal, field{m, 1, "/"}, field{d, 1, ""}))
}

// Parse returns the day that Forms writes as s.
func Parse(s string) (int, bool) {
	// What is read is a guess: it is the day only if s is one of its forms.
	day, ok := read(s)
	if !ok || !slices.Contains(formsWithYear(day), s) {
		return 0, false
	}
	return day, true
}

// formsWithYear returns the forms of a day that exists, up to the last one with a year.
func formsWithYear(day int) []string {
	y, m, d, _ := Date(day)
	month, dayOfMonth := field{m, 1, monthUnit}, field{d, 1, dayUnit}
	plain := join(decimal, field{y, 1, yearUnit}, month, dayOfMonth)
	weekday, _ := Weekday(day)
	forms := []string{plain, plain + "(" + weekday + ")"}
	for _, unit := range [...]string{"/", "-"} {
		forms = append(forms, join(decimal, field{y, yearDigits, unit}, field{m, partDigits, unit}, field{d, partDigits, ""}))
	}
	if name, year, ok := Era(day); ok {
		for _, write := range [...]func(field) string{decimal, kanji} {
			forms = append(forms, name+join(inEra(write), field{year, 1, yearUnit}, month, dayOfMonth))
		}
	}
	return forms
}

// join returns a form: its fields as write writes them, one after the other.
func join(write func(field) string, fields ...field) string {
	var form strings.Builder
	for _, f := range fields {
		form.WriteString(write(f))
	}
	return form.String()
}

// decimal writes a field with decimal digits, and zeros before them if they are too few.
func decimal(f field) string {
	digits := strconv.Itoa(f.number)
	return strings.Repeat("0", max(0, f.digits-len(digits))) + digits + f.unit
}

// kanji writes a field with a number in kanji.
func kanji(f field) string {
	number, _ := numeral.Kanji(strconv.Itoa(f.number))
	return number + f.unit
}

// inEra returns a function that writes a field as write does, but for the first year of an era.
func inEra(write func(field) string) func(field) string {
	return func(f field) string {
		if f.number == 1 && f.unit == yearUnit {
			return firstYear + yearUnit
		}
		return write(f)
	}
}

// read returns the day of the first three numbers of s, of which the first one is the year, counted in an era if s begins with one. It does not ask what stands between and after them.
func read(s string) (int, bool) {
	yearsBefore := 0
	for _, e := range eras {
		if rest, found := strings.CutPrefix(s, e.name); found {
			s, yearsBefore = rest, e.year-1
		}
	}
	parts := strings.FieldsFunc(s, func(c rune) bool { return strings.ContainsRune(yearUnit+monthUnit+dayUnit+"/-", c) })
	if len(parts) < 3 {
		return 0, false
	}
	return Day(yearsBefore+readNumber(parts[0]), readNumber(parts[1]), readNumber(parts[2]))
}

// readNumber returns the number that s is in a field, or 0 if it is none.
func readNumber(s string) int {
	if s == firstYear {
		return 1
	}
	if digits, ok := numeral.Parse(s); ok {
		s = digits
	}
	// A number that is too large is refused with the rest: there is no day of it.
	n, _ := strconv.Atoi(s)
	return n
}
