package caldate_test

import (
	"fmt"
	"math/rand"
	"regexp"
	"strconv"
	"strings"
	"time"

	"henkan/api"
	"henkan/numeral"
)

// The tests hold the package against a second reading of the chapter, which goes other ways: it leaves the calendar to package time, finds eras by comparing dates as strings, and reads by regular expressions.

// dateOf returns the date of a day number.
func dateOf(day int) time.Time { return time.Date(1, 1, day, 0, 0, 0, 0, time.UTC) }

// numberOf returns the number of a day, or 0 if there is none.
func numberOf(y, m, d int) int {
	date := time.Date(y, time.Month(m), d, 0, 0, 0, 0, time.UTC)
	// Package time takes April 31 for May 1.
	if y < 1 || y > 9999 || date.Year() != y || int(date.Month()) != m || date.Day() != d {
		return 0
	}
	// Two times may be too far from each other for one duration.
	return int((date.Unix()-dateOf(1).Unix())/(24*60*60)) + 1
}

// firstDays are the first days of the eras, the latest one first.
var firstDays = []string{"2019-05-01 令和", "1989-01-08 平成", "1926-12-25 昭和", "1912-07-30 大正", "1868-01-25 明治"}

// eraOf returns the era of a date and the year in it, or nothing.
func eraOf(date time.Time) (string, int) {
	for _, first := range firstDays {
		if first[:10] <= date.Format(time.DateOnly) {
			year, _ := strconv.Atoi(first[:4])
			return first[11:], date.Year() - year + 1
		}
	}
	return "", 0
}

// weekdayOf returns the weekday of a date.
func weekdayOf(date time.Time) string { return string([]rune("日月火水木金土")[date.Weekday()]) }

// inKanji returns a number in kanji.
func inKanji(n int) string {
	s, _ := numeral.Kanji(strconv.Itoa(n))
	return s
}

// formsOf returns the forms of a day.
func formsOf(day int) []string {
	date := dateOf(day)
	y, m, d := date.Year(), int(date.Month()), date.Day()
	l := []string{
		fmt.Sprintf("%d年%d月%d日", y, m, d),
		fmt.Sprintf("%d年%d月%d日(%s)", y, m, d, weekdayOf(date)),
		date.Format("2006/01/02"),
		date.Format("2006-01-02"),
	}
	switch name, year := eraOf(date); {
	case year == 1:
		l = append(l, fmt.Sprintf("%s元年%d月%d日", name, m, d), fmt.Sprintf("%s元年%s月%s日", name, inKanji(m), inKanji(d)))
	case year > 1:
		l = append(l, fmt.Sprintf("%s%d年%d月%d日", name, year, m, d), fmt.Sprintf("%s%s年%s月%s日", name, inKanji(year), inKanji(m), inKanji(d)))
	}
	return append(l, fmt.Sprintf("%d月%d日", m, d), fmt.Sprintf("%d/%d", m, d))
}

// The forms with a year, as regular expressions: of the era or nothing, of the year, the month, the day, and the weekday or nothing.
const (
	anEra   = `(明治|大正|昭和|平成|令和)`
	someOne = `[一二三四五六七八九]`
	someTwo = `[二三四五六七八九]`
)

var patterns = []*regexp.Regexp{
	regexp.MustCompile(`^()([1-9][0-9]{0,3})年([1-9]|1[0-2])月([1-9]|[12][0-9]|3[01])日()$`),
	regexp.MustCompile(`^()([1-9][0-9]{0,3})年([1-9]|1[0-2])月([1-9]|[12][0-9]|3[01])日\(([日月火水木金土])\)$`),
	regexp.MustCompile(`^()([0-9]{4})/([0-9]{2})/([0-9]{2})()$`),
	regexp.MustCompile(`^()([0-9]{4})-([0-9]{2})-([0-9]{2})()$`),
	regexp.MustCompile(`^` + anEra + `(元|[2-9]|[1-9][0-9]{1,3})年([1-9]|1[0-2])月([1-9]|[12][0-9]|3[01])日()$`),
	regexp.MustCompile(`^` + anEra + `(元|` + someTwo + `|` + someTwo + `?十` + someOne + `?|` + someTwo + `?百(?:` + someTwo + `?十)?` + someOne + `?|` + someTwo + `?千(?:` + someTwo + `?百)?(?:` + someTwo + `?十)?` + someOne + `?)年(` + someOne + `|十[一二]?)月(` + someOne + `|二?十` + someOne + `?|三十一?)日()$`),
}

// readDay returns the day of which s is a form with a year, or 0.
func readDay(s string) int {
	for _, p := range patterns {
		parts := p.FindStringSubmatch(s)
		if parts == nil {
			continue
		}
		y := readPart(parts[2])
		if parts[1] != "" {
			for _, first := range firstDays {
				if first[11:] == parts[1] {
					year, _ := strconv.Atoi(first[:4])
					y += year - 1
				}
			}
		}
		day := numberOf(y, readPart(parts[3]), readPart(parts[4]))
		if day == 0 {
			return 0
		}
		if name, _ := eraOf(dateOf(day)); parts[1] != "" && parts[1] != name || parts[5] != "" && parts[5] != weekdayOf(dateOf(day)) {
			return 0
		}
		return day
	}
	return 0
}

// readPart returns the number that a part of a form is, read from the left.
func readPart(s string) int {
	if s == "元" {
		return 1
	}
	if n, err := strconv.Atoi(s); err == nil {
		return n
	}
	n, digit := 0, 0
	for _, c := range s {
		if unit := map[rune]int{'十': 10, '百': 100, '千': 1000}[c]; unit > 0 {
			n, digit = n+max(digit, 1)*unit, 0
		} else {
			digit = strings.IndexRune(" 一二三四五六七八九", c)/len("一") + 1
		}
	}
	return n + digit
}

// someDays are days at which something changes, and others that depend only on the seed.
func someDays(seed int64) []int {
	var l []int
	for _, span := range [][2]int{{1, 800}, {numberOf(1867, 12, 1), numberOf(1870, 3, 1)}, {numberOf(9998, 1, 1), api.MaxDay}} {
		for day := span[0]; day <= span[1]; day++ {
			l = append(l, day)
		}
	}
	for _, first := range firstDays {
		date, _ := time.Parse(time.DateOnly, first[:10])
		for day := -400; day <= 800; day++ {
			l = append(l, numberOf(date.Year(), int(date.Month()), date.Day())+day)
		}
	}
	for _, y := range []int{4, 9, 10, 11, 99, 100, 101, 400, 999, 1000, 1001, 1582, 1600, 1700, 1800, 1868, 1869, 1877, 1878, 1887, 1888, 1900, 1904, 1945, 1999, 2000, 2001, 2024, 2026, 2028, 2029, 2100, 2117, 2118, 2119, 2400, 3017, 3018, 3019, 3128, 3129, 4000, 9996} {
		for day := numberOf(y, 1, 1) - 2; day <= numberOf(y, 12, 31)+2; day++ {
			l = append(l, day)
		}
	}
	r := rand.New(rand.NewSource(seed))
	for range 10000 {
		l = append(l, 1+r.Intn(api.MaxDay))
	}
	return l
}
