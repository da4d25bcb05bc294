package caldate_test

import (
	"math"
	"math/rand"
	"slices"
	"strconv"
	"strings"
	"testing"

	"henkan/api"
	"henkan/caldate"
)

// noDays are numbers of no day.
var noDays = []int{0, -1, -2, -6, -7, -365, -366, -api.MaxDay, api.MaxDay + 1, api.MaxDay + 2, api.MaxDay + 7, 2 * api.MaxDay, math.MaxInt32, math.MaxInt32 + 1, math.MinInt32, math.MaxInt, math.MaxInt - 1, math.MinInt, math.MinInt + 1}

// hasNumber checks one call of Day; 0 stands for no such day.
func hasNumber(t *testing.T, y, m, d, want int) {
	t.Helper()
	if got, ok := caldate.Day(y, m, d); got != want || ok != (want != 0) {
		t.Errorf("Day of %d-%d-%d: %d %v, want %d", y, m, d, got, ok, want)
	}
}

// hasDate checks one call of Date.
func hasDate(t *testing.T, day, y, m, d int) {
	t.Helper()
	if gotY, gotM, gotD, ok := caldate.Date(day); gotY != y || gotM != m || gotD != d || !ok {
		t.Errorf("Date of %d: %d-%d-%d %v, want %d-%d-%d", day, gotY, gotM, gotD, ok, y, m, d)
	}
}

// hasWeekday checks one call of Weekday.
func hasWeekday(t *testing.T, day int, want string) {
	t.Helper()
	if got, ok := caldate.Weekday(day); got != want || !ok {
		t.Errorf("Weekday of %d: %q %v, want %q", day, got, ok, want)
	}
}

// hasEra checks one call of Era; the empty string stands for no era.
func hasEra(t *testing.T, day int, name string, year int) {
	t.Helper()
	if gotName, gotYear, ok := caldate.Era(day); gotName != name || gotYear != year || ok != (name != "") {
		t.Errorf("Era of %d: %q %d %v, want %q %d", day, gotName, gotYear, ok, name, year)
	}
}

// hasForms checks one call of Forms.
func hasForms(t *testing.T, day int, want []string) {
	t.Helper()
	if got := caldate.Forms(day); !slices.Equal(got, want) {
		t.Errorf("Forms of %d: %q, want %q", day, got, want)
	}
}

// parses checks one call of Parse; 0 stands for none.
func parses(t *testing.T, s string, want int) {
	t.Helper()
	if got, ok := caldate.Parse(s); got != want || ok != (want != 0) {
		t.Errorf("Parse of %.100q: %d %v, want %d", s, got, ok, want)
	}
}

// number returns the number of a day that exists.
func number(t *testing.T, y, m, d int) int {
	t.Helper()
	day, ok := caldate.Day(y, m, d)
	if !ok {
		t.Fatalf("no day %d-%d-%d", y, m, d)
	}
	return day
}

// P4.1 to P4.5: the examples of the chapter.
func TestExamples(t *testing.T) {
	hasNumber(t, 1, 1, 1, 1)
	hasNumber(t, 2000, 2, 29, 730179)
	hasNumber(t, 2026, 11, 16, 739936)
	hasNumber(t, 9999, 12, 31, 3652059)
	hasNumber(t, 1900, 2, 29, 0)
	hasWeekday(t, 1, "月")
	hasWeekday(t, 739936, "月")
	hasEra(t, number(t, 2026, 11, 16), "令和", 8)
	hasEra(t, number(t, 1989, 1, 7), "昭和", 64)
	hasEra(t, number(t, 1868, 1, 24), "", 0)
	hasForms(t, number(t, 2019, 5, 1), []string{"2019年5月1日", "2019年5月1日(水)", "2019/05/01", "2019-05-01", "令和元年5月1日", "令和元年五月一日", "5月1日", "5/1"})
	parses(t, "平成元年1月8日", 726110)
	parses(t, "平成1年1月8日", 0)
	parses(t, "5月1日", 0)
	for _, s := range []string{"2026年11月16日", "2026年11月16日(月)", "2026/11/16", "2026-11-16", "令和8年11月16日", "令和八年十一月十六日"} {
		parses(t, s, 739936)
	}
	parses(t, "11月16日", 0)
	parses(t, "11/16", 0)
}

// P4.1: days whose numbers are found by counting, written out.
func TestDates(t *testing.T) {
	for _, x := range [][4]int{
		{1, 1, 1, 1}, {1, 1, 2, 2}, {1, 1, 31, 31}, {1, 2, 1, 32}, {1, 2, 28, 59}, {1, 3, 1, 60}, {1, 3, 31, 90}, {1, 4, 1, 91}, {1, 4, 30, 120}, {1, 5, 1, 121},
		{1, 5, 31, 151}, {1, 6, 1, 152}, {1, 6, 30, 181}, {1, 7, 1, 182}, {1, 7, 31, 212}, {1, 8, 1, 213}, {1, 8, 31, 243}, {1, 9, 1, 244}, {1, 9, 30, 273}, {1, 10, 1, 274},
		{1, 10, 31, 304}, {1, 11, 1, 305}, {1, 11, 30, 334}, {1, 12, 1, 335}, {1, 12, 31, 365}, {2, 1, 1, 366}, {3, 1, 1, 731}, {4, 1, 1, 1096}, {4, 2, 28, 1154}, {4, 2, 29, 1155},
		{4, 3, 1, 1156}, {4, 12, 31, 1461}, {5, 1, 1, 1462}, {100, 12, 31, 36524}, {101, 1, 1, 36525}, {400, 2, 29, 145791}, {400, 12, 31, 146097}, {401, 1, 1, 146098},
		{1970, 1, 1, 719163}, {2000, 2, 28, 730178}, {2000, 3, 1, 730180}, {2019, 4, 30, 737179}, {9999, 12, 30, 3652058}, {9999, 1, 1, 3651695},
	} {
		hasNumber(t, x[0], x[1], x[2], x[3])
		hasDate(t, x[3], x[0], x[1], x[2])
	}
}

// P4.1 to P4.3 and P4.6: every day, counted one after the other.
func TestAllDays(t *testing.T) {
	day := 0
	for y := 1; y <= 9999; y++ {
		leap := y%4 == 0 && y%100 != 0 || y%400 == 0
		for m := 1; m <= 12; m++ {
			days := []int{31, 28, 31, 30, 31, 30, 31, 31, 30, 31, 30, 31}[m-1]
			if m == 2 && leap {
				days++
			}
			for d := 1; d <= days; d++ {
				day++
				hasNumber(t, y, m, d, day)
				hasDate(t, day, y, m, d)
				hasWeekday(t, day, string([]rune("日月火水木金土")[day%7]))
			}
			hasNumber(t, y, m, 0, 0)
			hasNumber(t, y, m, days+1, 0)
			if t.Failed() {
				t.FailNow()
			}
		}
		hasNumber(t, y, 0, 31, 0)
		hasNumber(t, y, 13, 1, 0)
	}
	if day != api.MaxDay {
		t.Errorf("%d days", day)
	}
}

// P4.1: years, months and days that are none, beside some that are.
func TestNoSuchDay(t *testing.T) {
	far := []int{math.MinInt, math.MinInt + 1, math.MinInt32, -10000, -1000, -400, -100, -4, -1, 0, 13, 32, 100, 10000, 10001, math.MaxInt32, math.MaxInt - 1, math.MaxInt}
	for _, y := range append([]int{1, 2, 3, 4, 100, 200, 300, 400, 1600, 1700, 1800, 1900, 2000, 2023, 2024, 2100, 9996, 9999}, far...) {
		for _, m := range append([]int{1, 2, 3, 4, 5, 6, 7, 8, 9, 10, 11, 12}, far...) {
			for _, d := range append([]int{1, 2, 27, 28, 29, 30, 31}, far...) {
				want := 0
				if m >= 1 && m <= 12 && d >= 1 && d <= 31 {
					want = numberOf(y, m, d)
				}
				hasNumber(t, y, m, d, want)
			}
		}
	}
	for _, y := range []int{1, 3, 5, 100, 200, 300, 500, 1700, 1800, 1900, 1901, 2023, 2025, 2100, 2200, 2300, 9900, 9999} {
		hasNumber(t, y, 2, 29, 0)
	}
	for _, y := range []int{4, 8, 96, 104, 400, 800, 1600, 1904, 2000, 2024, 2400, 9600, 9996} {
		hasNumber(t, y, 2, 29, number(t, y, 2, 28)+1)
		hasNumber(t, y, 2, 30, 0)
	}
	for _, m := range []int{2, 4, 6, 9, 11} {
		hasNumber(t, 2026, m, 31, 0)
	}
}

// P4.1 to P4.4: numbers of no day have no date, no weekday, no era and no forms.
func TestNoDay(t *testing.T) {
	for _, day := range noDays {
		if y, m, d, ok := caldate.Date(day); y != 0 || m != 0 || d != 0 || ok {
			t.Errorf("Date of %d: %d-%d-%d %v", day, y, m, d, ok)
		}
		if s, ok := caldate.Weekday(day); s != "" || ok {
			t.Errorf("Weekday of %d: %q %v", day, s, ok)
		}
		hasEra(t, day, "", 0)
		hasForms(t, day, nil)
	}
}

// P4.2: a week, and days whose weekdays are known.
func TestWeekdays(t *testing.T) {
	for i, s := range []string{"月", "火", "水", "木", "金", "土", "日", "月"} {
		hasWeekday(t, 1+i, s)
		hasWeekday(t, number(t, 2026, 11, 16)+i, s)
	}
	hasWeekday(t, number(t, 1868, 1, 25), "土")
	hasWeekday(t, number(t, 1945, 8, 15), "水")
	hasWeekday(t, number(t, 2000, 1, 1), "土")
	hasWeekday(t, number(t, 2024, 2, 29), "木")
	hasWeekday(t, api.MaxDay, "金")
}

// P4.3: the first days of the eras and the days before them, the ends of years, and the ends of the calendar.
func TestEras(t *testing.T) {
	for _, x := range []struct {
		y, m, d int
		name    string
		year    int
	}{
		{1, 1, 1, "", 0}, {1867, 12, 31, "", 0}, {1868, 1, 1, "", 0}, {1868, 1, 24, "", 0},
		{1868, 1, 25, "明治", 1}, {1868, 1, 26, "明治", 1}, {1868, 12, 31, "明治", 1}, {1869, 1, 1, "明治", 2}, {1911, 12, 31, "明治", 44}, {1912, 1, 1, "明治", 45}, {1912, 7, 29, "明治", 45},
		{1912, 7, 30, "大正", 1}, {1912, 7, 31, "大正", 1}, {1912, 12, 31, "大正", 1}, {1913, 1, 1, "大正", 2}, {1926, 1, 1, "大正", 15}, {1926, 12, 24, "大正", 15},
		{1926, 12, 25, "昭和", 1}, {1926, 12, 31, "昭和", 1}, {1927, 1, 1, "昭和", 2}, {1945, 8, 15, "昭和", 20}, {1988, 12, 31, "昭和", 63}, {1989, 1, 1, "昭和", 64}, {1989, 1, 7, "昭和", 64},
		{1989, 1, 8, "平成", 1}, {1989, 12, 31, "平成", 1}, {1990, 1, 1, "平成", 2}, {2018, 12, 31, "平成", 30}, {2019, 1, 1, "平成", 31}, {2019, 4, 30, "平成", 31},
		{2019, 5, 1, "令和", 1}, {2019, 12, 31, "令和", 1}, {2020, 1, 1, "令和", 2}, {2026, 11, 16, "令和", 8}, {9999, 12, 31, "令和", 7981},
	} {
		hasEra(t, number(t, x.y, x.m, x.d), x.name, x.year)
	}
	for _, day := range someDays(1) {
		name, year := eraOf(dateOf(day))
		hasEra(t, day, name, year)
	}
}

// P4.4: forms written out.
func TestForms(t *testing.T) {
	for _, l := range [][]string{
		{"1年1月1日", "1年1月1日(月)", "0001/01/01", "0001-01-01", "1月1日", "1/1"},
		{"99年10月9日", "99年10月9日(金)", "0099/10/09", "0099-10-09", "10月9日", "10/9"},
		{"812年2月29日", "812年2月29日(水)", "0812/02/29", "0812-02-29", "2月29日", "2/29"},
		{"1868年1月24日", "1868年1月24日(金)", "1868/01/24", "1868-01-24", "1月24日", "1/24"},
		{"1868年1月25日", "1868年1月25日(土)", "1868/01/25", "1868-01-25", "明治元年1月25日", "明治元年一月二十五日", "1月25日", "1/25"},
		{"1869年1月1日", "1869年1月1日(金)", "1869/01/01", "1869-01-01", "明治2年1月1日", "明治二年一月一日", "1月1日", "1/1"},
		{"1912年7月29日", "1912年7月29日(月)", "1912/07/29", "1912-07-29", "明治45年7月29日", "明治四十五年七月二十九日", "7月29日", "7/29"},
		{"1912年7月30日", "1912年7月30日(火)", "1912/07/30", "1912-07-30", "大正元年7月30日", "大正元年七月三十日", "7月30日", "7/30"},
		{"1921年12月31日", "1921年12月31日(土)", "1921/12/31", "1921-12-31", "大正10年12月31日", "大正十年十二月三十一日", "12月31日", "12/31"},
		{"1926年12月24日", "1926年12月24日(金)", "1926/12/24", "1926-12-24", "大正15年12月24日", "大正十五年十二月二十四日", "12月24日", "12/24"},
		{"1926年12月25日", "1926年12月25日(土)", "1926/12/25", "1926-12-25", "昭和元年12月25日", "昭和元年十二月二十五日", "12月25日", "12/25"},
		{"1936年11月11日", "1936年11月11日(水)", "1936/11/11", "1936-11-11", "昭和11年11月11日", "昭和十一年十一月十一日", "11月11日", "11/11"},
		{"1989年1月7日", "1989年1月7日(土)", "1989/01/07", "1989-01-07", "昭和64年1月7日", "昭和六十四年一月七日", "1月7日", "1/7"},
		{"1989年1月8日", "1989年1月8日(日)", "1989/01/08", "1989-01-08", "平成元年1月8日", "平成元年一月八日", "1月8日", "1/8"},
		{"2008年10月20日", "2008年10月20日(月)", "2008/10/20", "2008-10-20", "平成20年10月20日", "平成二十年十月二十日", "10月20日", "10/20"},
		{"2026年11月16日", "2026年11月16日(月)", "2026/11/16", "2026-11-16", "令和8年11月16日", "令和八年十一月十六日", "11月16日", "11/16"},
		{"2118年3月10日", "2118年3月10日(木)", "2118/03/10", "2118-03-10", "令和100年3月10日", "令和百年三月十日", "3月10日", "3/10"},
		{"3019年6月30日", "3019年6月30日(水)", "3019/06/30", "3019-06-30", "令和1001年6月30日", "令和千一年六月三十日", "6月30日", "6/30"},
		{"9999年12月31日", "9999年12月31日(金)", "9999/12/31", "9999-12-31", "令和7981年12月31日", "令和七千九百八十一年十二月三十一日", "12月31日", "12/31"},
	} {
		parts := strings.Split(l[3], "-")
		date := [3]int{}
		for i := range parts {
			date[i], _ = strconv.Atoi(parts[i])
		}
		day := number(t, date[0], date[1], date[2])
		hasForms(t, day, l)
		for _, s := range l[:len(l)-2] {
			parses(t, s, day)
		}
		parses(t, l[len(l)-2], 0)
		parses(t, l[len(l)-1], 0)
	}
}

// P4.4, P4.5 and P4.7: the forms of many days; they are distinct, and those with a year are read back.
func TestFormsOfDays(t *testing.T) {
	for _, day := range someDays(2) {
		want := formsOf(day)
		hasForms(t, day, want)
		for i, s := range want {
			if slices.Contains(want[:i], s) {
				t.Errorf("%d: %q twice", day, s)
			}
			if i < len(want)-2 {
				parses(t, s, day)
			} else {
				parses(t, s, 0)
			}
		}
		if t.Failed() {
			t.FailNow()
		}
	}
}

// P4.5: a form is that of one day.
func TestUnique(t *testing.T) {
	dayOf := map[string]int{}
	for _, day := range someDays(3) {
		l := caldate.Forms(day)
		for _, s := range l[:len(l)-2] {
			if other := dayOf[s]; other != 0 && other != day {
				t.Errorf("%s is %d and %d", s, other, day)
			}
			dayOf[s] = day
		}
	}
}

// P4.6: Day takes back Date, and the first days of months follow the last ones.
func TestRoundTrip(t *testing.T) {
	for _, day := range someDays(4) {
		y, m, d, ok := caldate.Date(day)
		if !ok {
			t.Errorf("no date of %d", day)
		}
		hasNumber(t, y, m, d, day)
		if d > 1 {
			hasNumber(t, y, m, d-1, day-1)
		}
	}
	for y := 1; y <= 9999; y++ {
		for m := 1; m <= 12; m++ {
			first := number(t, y, m, 1)
			hasDate(t, first, y, m, 1)
			if first == 1 {
				continue
			}
			beforeY, beforeM := y, m-1
			if m == 1 {
				beforeY, beforeM = y-1, 12
			}
			if gotY, gotM, d, _ := caldate.Date(first - 1); gotY != beforeY || gotM != beforeM || d < 28 || d > 31 {
				t.Errorf("before %d-%d-1 is %d-%d-%d", y, m, gotY, gotM, d)
			}
		}
	}
}

// refused are strings that resemble forms with a year.
func refused() []string {
	l := []string{
		// Zeros at the beginning, and digits that are too few or too many.
		"02026年11月16日", "0099年1月1日", "099年1月1日", "2026年01月16日", "2026年011月16日", "2026年1月06日", "2026年1月016日", "2026年01月06日(火)", "令和08年11月16日", "令和8年01月6日", "令和8年1月06日", "令和〇八年十一月十六日",
		"2026/1/16", "2026/11/6", "2026/1/6", "26/11/16", "026/11/16", "02026/11/16", "2026/011/16", "2026/11/016", "1/1/1", "1/01/01", "99/10/09", "812/02/29", "2026/111/6", "2026/1/016",
		"2026-1-16", "2026-11-6", "2026-1-6", "26-11-16", "026-11-16", "02026-11-16", "2026-011-16", "2026-11-016", "1-1-1", "20261116", "2026-1116", "202611-16",
		"10000年1月1日", "10000/01/01", "10000-01-01", "0000/01/01", "0000-01-01", "0年1月1日", "0000年1月1日", "-1年1月1日", "-001/01/01", "令和7982年1月1日", "令和七千九百八十二年一月一日", "令和10000年1月1日", "令和一万年一月一日",
		// No such month or day.
		"2026年0月16日", "2026年13月1日", "2026年11月0日", "2026年11月31日", "2026年11月32日", "2026年2月29日", "1900年2月29日", "2024年2月30日", "2026年2月29日(日)", "2026/00/16", "2026/13/01", "2026/11/00", "2026/11/31", "2026/02/29", "1900/02/29", "2026-00-16", "2026-13-01", "2026-11-00", "2026-11-31", "2026-02-29",
		"令和8年13月1日", "令和8年0月1日", "令和8年11月31日", "令和8年2月29日", "令和八年十三月一日", "令和八年十一月三十一日", "令和八年二月二十九日", "令和八年零月一日", "令和八年一月零日",
		// Weekdays that are wrong, or written otherwise.
		"2026年11月16日(日)", "2026年11月16日(火)", "2026年11月16日(土)", "2026年11月16日（月）", "2026年11月16日(月", "2026年11月16日月)", "2026年11月16日月", "2026年11月16日()", "2026年11月16日(月曜)", "2026年11月16日(月曜日)", "2026年11月16日 (月)", "2026年11月16日(月) ", "2026年11月16日((月))", "2026年11月16日(月)(月)", "2026年11月16日(月月)", "(月)2026年11月16日",
		"2026年11月16日(Mon)", "2026年11月16日[月]", "2026/11/16(月)", "2026-11-16(月)", "令和8年11月16日(月)", "令和八年十一月十六日(月)", "11月16日(月)",
		// Years that an era does not have, and the first year written otherwise.
		"明治元年1月24日", "明治元年1月1日", "明治元年一月二十四日", "明治0年12月31日", "明治-1年1月1日", "明治零年一月一日", "明治45年7月30日", "明治45年12月31日", "明治46年1月1日", "明治四十五年七月三十日", "明治四十六年一月一日", "明治159年11月16日", "大正元年7月29日", "大正元年七月二十九日", "大正15年12月25日", "大正16年1月1日", "大正十五年十二月二十五日",
		"昭和元年12月24日", "昭和元年1月1日", "昭和64年1月8日", "昭和64年12月31日", "昭和65年1月1日", "昭和101年11月16日", "昭和六十四年一月八日", "平成元年1月7日", "平成元年一月七日", "平成31年5月1日", "平成32年1月1日", "平成38年11月16日", "平成三十一年五月一日", "令和元年4月30日", "令和元年1月1日", "令和元年四月三十日", "令和0年5月1日", "令和零年五月一日",
		"明治1年12月31日", "大正1年7月30日", "昭和1年12月25日", "平成1年1月8日", "令和1年5月1日", "令和一年五月一日", "平成一年一月八日", "令和01年5月1日", "令和壱年五月一日", "令和元元年5月1日", "令和1元年5月1日", "令和元1年5月1日", "令和元年元月1日", "令和2年元月1日", "令和二年元月一日", "令和2年1月元日", "元年5月1日", "元年1月1日", "平成十元年一月一日", "令和10元年1月1日", "令和9元年1月1日", "令和元年05月01日",
		"慶応3年12月31日", "慶応四年九月七日", "R8年11月16日", "令8年11月16日", "和8年11月16日", "令和令和8年11月16日", "令和平成8年11月16日", "平成令和8年11月16日", "令和7982年11月16日", "8年11月16日令和", "㋿8年11月16日", "令 和8年11月16日", "令和 8年11月16日", "元和8年11月16日", "昭令8年11月16日",
		// Forms without a year, and parts of forms.
		"5月1日", "5/1", "1月1日", "1/1", "12月31日", "12/31", "2月29日", "11月16日", "05/01", "11-16", "五月一日", "十一月十六日", "年11月16日", "2026年", "2026年11月", "2026/11", "2026-11", "2026", "令和8年", "令和8年11月", "令和", "令和年月日", "年月日", "月日", "年", "日", "(月)", "令和8年月16日", "2026年月16日", "2026年11月日", "2026/11/", "/11/16", "2026//16", "--", "//", "/", "-", "()",
		// Other units, and units of several forms.
		"2026年11月16", "2026年11月16火", "2026年11日16月", "2026月11年16日", "2026日11月16年", "2026/11/16日", "2026年11/16", "2026年11月/16", "2026/11-16", "2026-11/16", "2026.11.16", "2026／11／16", "2026－11－16", "2026−11−16", "2026、11、16", "2026 11 16", "2026:11:16", "2026年11月16號", "2026年11月16曰", "2026年11月16日11", "2026/11/16/", "/2026/11/16", "2026-11-16-", "-2026-11-16", "2026--11-16", "2026//11/16",
		"2026年年11月16日", "2026年11月月16日", "2026年11月16日日", "2026年 11月 16日", "2026年11 月16日", "2026年11月16 日", " 2026年11月16日", "2026年11月16日 ", "2026年11月16日\n", "\n2026/11/16", "2026/11/16\n", "2026-11-16 ", "2026-11-16T00:00:00", "2026-11-16\x00", "\x002026-11-16", "西暦2026年11月16日", "令和8/11/16", "令和8-11-16", "令和0008/11/16", "令和0008-11-16", "令和08/11/16", "令和八/十一/十六",
		// Other writings of digits.
		"２０２６年１１月１６日", "2026年１１月16日", "２０２６/１１/１６", "２０２６／１１／１６", "令和８年11月16日", "令和8年１1月16日", "二〇二六年十一月十六日", "二千二十六年十一月十六日", "二〇二六年一一月一六日", "令和八年一一月一六日", "令和八年十一月一六日", "令和八年一一月十六日", "令和八年十一月拾六日", "令和八年壱拾壱月壱拾六日", "令和八年一十一月十六日", "令和八年十一月一十六日",
		"令和一〇年一月一日", "令和壱拾年一月一日", "令和一十年一月一日", "令和拾年一月一日", "令和十〇年一月一日", "令和一百年一月一日", "令和壱百年一月一日", "令和一〇〇年一月一日", "平成弐拾年十月弐拾日", "平成二〇年十月二〇日", "平成廿年十月廿日", "令和三年参月三日", "令和参年三月三日", "令和参年参月参日", "令和2,000年1月1日", "2,026年11月16日", "令和千,一年六月三十日", "+2026年11月16日", "2026年+11月16日", "2026年11月+16日", "2026/+1/16", "+026/11/16", "-026-11-16", "令和+8年11月16日",
		"令和8年十一月十六日", "令和8年11月十六日", "令和8年十一月16日", "令和八年11月16日", "令和八年十一月16日", "令和八年11月十六日", "令和元年五月1日", "令和元年5月一日", "平成元年一月8日", "2026年十一月十六日", "2026年十一月16日", "2026年11月十六日", "①年1月1日", "2026年⑪月16日", "٢٠٢٦年11月16日", "2_026年11月16日", "0x7ea年11月16日", "2e3年1月1日", "1e3年1月1日", "2026.0年11月16日", "20二6年11月16日", "1O年1月1日",
		// Strings that are not valid UTF-8, and others.
		"", " ", "\x00", "\xFF", "\xFF2026/11/16", "2026/11/16\xFF", "2026\xFF/11/16", "2026/11\xFF/16", "2026\xFF11\xFF16", "2026年11月16日\xFF", "2026\xE5\xB911月16日", "2026年11月16\xE6\x97", "\xE4\xBB\xA4\xE5\x928年11月16日", "令和\x808年11月16日", "令和8年11月16日\x80", "2026年11月16日(\xFF)", "2026年11月16日(\xE6\x9C)", "2026年11月16日(月\xFF)", "2026年11月16日(月)\xFF", "\uFFFD", "2026年11月16\uFFFD", "2026\uFFFD11月16日", "\xED\xA0\x80", "\xC0\xAF", "2026\xC0\xAF11\xC0\xAF16", "きょう", "今日", "20261116日", "百", "一", "1",
	}
	for _, n := range []string{"9223372036854775807", "9223372036854775808", "18446744073709551617", "18446744073709553642", "4294969322", "99999999999999999999", "184467440737095516162026"} {
		l = append(l, n+"年11月16日", "2026年"+n+"月16日", "2026年11月"+n+"日", n+"/11/16", n+"-11-16", "2026/"+n+"/16", "2026-11-"+n, "令和"+n+"年11月16日", "明治"+n+"年11月16日", "令和8年"+n+"月16日", "令和8年11月"+n+"日")
	}
	for _, s := range []string{"0", "1", "9", "一", "〇", "千", "元", "年", "日", "/", "-", "1/", "1-", "1年1月1日", "2026/11/16", "令和", "令和8年11月16日", "令和元年五月一日", "(月)", "\xFF", "\xE5", " "} {
		l = append(l, strings.Repeat(s, 1000), strings.Repeat(s, 100000), "2026年11月16日"+strings.Repeat(s, 100000), strings.Repeat(s, 100000)+"年11月16日", "2026/11/"+strings.Repeat(s, 100000))
	}
	return l
}

// P4.5: strings that resemble forms.
func TestParseRefuses(t *testing.T) {
	for _, s := range refused() {
		if readDay(s) != 0 {
			t.Errorf("%q is a form", s)
		}
		parses(t, s, 0)
	}
}

// P4.5: years, months and days with all numbers of digits, and all weekdays.
func TestParseNumbers(t *testing.T) {
	years := []string{"0", "1", "01", "9", "10", "99", "099", "100", "0100", "999", "1000", "1867", "1868", "1912", "1989", "2000", "2019", "2026", "9999", "09999", "10000", "99999", "明治2", "明治45", "大正9", "大正15", "昭和20", "昭和64", "平成31", "令和2", "令和7981", "令和7982"}
	parts := []string{"", "0", "00", "1", "01", "001", "2", "02", "9", "09", "10", "010", "11", "12", "13", "28", "29", "30", "31", "32", "031", "99", "100", "1a", "-1", "+1", " 1", "1 "}
	for _, y := range years {
		for _, m := range parts {
			for _, d := range parts {
				for _, units := range [][3]string{{"年", "月", "日"}, {"/", "/", ""}, {"-", "-", ""}, {"/", "-", ""}, {"年", "月", ""}} {
					s := y + units[0] + m + units[1] + d + units[2]
					parses(t, s, readDay(s))
				}
			}
		}
		if t.Failed() {
			t.FailNow()
		}
	}
	for day := 739936; day < 739936+14; day++ {
		for _, w := range "日月火水木金土曜(" {
			s := formsOf(day)[0] + "(" + string(w) + ")"
			parses(t, s, readDay(s))
		}
	}
}

// P4.5: each era with each of its years and with others, on the first and last days of the eras and of months, in both forms.
func TestParseEras(t *testing.T) {
	for _, name := range []string{"明治", "大正", "昭和", "平成", "令和", "慶応", ""} {
		for year := 0; year <= 160; year++ {
			for _, day := range [][2]int{{1, 1}, {1, 7}, {1, 8}, {1, 24}, {1, 25}, {2, 28}, {2, 29}, {2, 30}, {4, 30}, {4, 31}, {5, 1}, {7, 29}, {7, 30}, {12, 24}, {12, 25}, {12, 31}, {13, 1}} {
				m, d := day[0], day[1]
				for _, y := range [][2]string{{strconv.Itoa(year), inKanji(year)}, {"元", "元"}} {
					plain := name + y[0] + "年" + strconv.Itoa(m) + "月" + strconv.Itoa(d) + "日"
					kanji := name + y[1] + "年" + inKanji(m) + "月" + inKanji(d) + "日"
					parses(t, plain, readDay(plain))
					parses(t, kanji, readDay(kanji))
				}
			}
			if t.Failed() {
				t.FailNow()
			}
		}
	}
}

// P4.5: forms with one character left out, put in, changed, or moved.
func TestParseChanged(t *testing.T) {
	r := rand.New(rand.NewSource(5))
	l := []rune("0123456789年月日火木/-()元〇一二三九十百千明治大正昭平成令和１ \u0000\uFFFD")
	days := someDays(6)
	read := 0
	for range 60000 {
		forms := formsOf(days[r.Intn(len(days))])
		s := []rune(forms[r.Intn(len(forms))])
		i := r.Intn(len(s))
		switch r.Intn(4) {
		case 0:
			s = slices.Delete(s, i, i+1)
		case 1:
			s = slices.Insert(s, i, l[r.Intn(len(l))])
		case 2:
			s[i] = l[r.Intn(len(l))]
		case 3:
			j := r.Intn(len(s))
			s[i], s[j] = s[j], s[i]
		}
		want := readDay(string(s))
		parses(t, string(s), want)
		if want != 0 {
			read++
		}
	}
	if read < 1000 {
		t.Errorf("only %d are forms", read)
	}
}

// P4.5: forms cut off at each byte, at both ends, and with a byte that is none of a character at each place.
func TestParseBytes(t *testing.T) {
	for _, day := range []int{1, 726110, 737180, 739936, 739941, api.MaxDay} {
		for _, form := range formsOf(day) {
			for i := range len(form) {
				parses(t, form[:i], readDay(form[:i]))
				parses(t, form[i:], readDay(form[i:]))
				parses(t, form[:i]+"\xFF"+form[i:], 0)
				parses(t, form[:i]+"\xFF"+form[i+1:], 0)
				parses(t, form[:i]+form[i+1:], readDay(form[:i]+form[i+1:]))
			}
		}
	}
}

// Results are new memory, and a call depends on its arguments alone (rules R3 and R4).
func TestResults(t *testing.T) {
	want := []string{"2019年5月1日", "2019年5月1日(水)", "2019/05/01", "2019-05-01", "令和元年5月1日", "令和元年五月一日", "5月1日", "5/1"}
	one, two := caldate.Forms(737180), caldate.Forms(737180)
	for i := range one {
		one[i] = "x"
	}
	one = append(one[:3], "y")
	if three := caldate.Forms(737180); !slices.Equal(two, want) || !slices.Equal(three, want) {
		t.Errorf("%q %q after %q", two, three, one)
	}
	for range 2 {
		hasForms(t, 0, nil)
		parses(t, "平成1年1月8日", 0)
		parses(t, "平成元年1月8日", 726110)
		parses(t, "0001/01/01", 1)
		hasNumber(t, 1900, 2, 29, 0)
		hasNumber(t, 1900, 3, 1, 693655)
		hasEra(t, 1, "", 0)
		hasEra(t, 737180, "令和", 1)
		hasWeekday(t, 7, "日")
		hasDate(t, api.MaxDay, 9999, 12, 31)
	}
}
