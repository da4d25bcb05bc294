package roman_test

import (
	"math/rand"
	"slices"
	"strings"
	"testing"

	"henkan/api"
	"henkan/roman"
)

// reads checks one call of Parse that returns these rules.
func reads(t *testing.T, s string, want ...roman.Rule) {
	t.Helper()
	if l, number, e := roman.Parse(s); !slices.Equal(l, want) || number != 0 || e != api.OK {
		t.Errorf("Parse of %.300q: %.300q at %d: %d, want %.300q", s, l, number, e, want)
	}
}

// refuses checks one call of Parse that finds a line that is not valid.
func refuses(t *testing.T, s string, want int) {
	t.Helper()
	if l, number, e := roman.Parse(s); len(l) > 0 || number != want || e != api.ErrRule {
		t.Errorf("Parse of %.300q: %.300q at %d: %d, want a wrong line %d", s, l, number, e, want)
	}
}

// isTooLong checks one call of Parse with a text that is too long.
func isTooLong(t *testing.T, s string) {
	t.Helper()
	if l, number, e := roman.Parse(s); len(l) > 0 || number != 0 || e != api.ErrLong {
		t.Errorf("Parse of %d bytes: %.300q at %d: %d, want too long", len(s), l, number, e)
	}
}

// readsAsReference checks one call of Parse against the second reading, and returns whether the text was read.
func readsAsReference(t *testing.T, s string) bool {
	t.Helper()
	want, number, e := parsed(s)
	switch e {
	case api.OK:
		reads(t, s, want...)
	case api.ErrRule:
		refuses(t, s, number)
	case api.ErrLong:
		isTooLong(t, s)
	}
	return e == api.OK
}

// prints checks one call of Print, and that Parse reads the text back.
func prints(t *testing.T, l []roman.Rule, want string) {
	t.Helper()
	got, e := roman.Print(l)
	if got != want || e != api.OK {
		t.Errorf("Print of %.300q: %.300q %d, want %.300q", l, got, e, want)
	}
	reads(t, got, l...)
}

// P5.2: the examples of the chapter.
func TestExamples(t *testing.T) {
	ka, kk := roman.Rule{Keys: "ka", Out: "か"}, roman.Rule{Keys: "kk", Out: "っ", Next: "k"}
	reads(t, "ka\tか\nkk\tっ\tk", ka, kk)
	reads(t, "ka\tか\nkk\tっ\tk\n", ka, kk)
	reads(t, "")
	reads(t, "#")
	reads(t, "# ka\tか")
	reads(t, "\n")
	for _, s := range []string{"ka", "ka\tか\t", "ka ", "ka\t ", "ka か", "KA\tか", "kyaaa\tか", "ka\tカ", "k\t", "k\t\tk"} {
		refuses(t, s, 1)
		refuses(t, s+"\n", 1)
	}
	reads(t, "kk\t\tk", roman.Rule{Keys: "kk", Next: "k"})
	refuses(t, "a\tあ\n\na\tい", 3)
}

// P5.2: lines of one to five words, some of which are empty.
func TestWords(t *testing.T) {
	for _, s := range []string{
		"k", "か", "ka\t", "\tka", "\tか", "\t", "\t\t", "\t\t\t", "\tか\tk", "ka\t\t", "ka\tか\t\t", "kka\tか\t\tk", "kka\tか\tk\t", "kka\t\tか\tk", "kka\tか\tk\tk", "kka\tか\tk\tk\tk", "kka\tか\tk\tか", "ka\t\tか", "kka\t\t\tk", "\tkka\tか\tk", "kka\tか\tk\t\t",
		"ka  か", "ka\vか", "ka\fか", "ka\u00A0か", "ka\u3000か", "ka,か", "ka か\t", " ka\tか", "ka \tか", "ka\t か", "ka\tか ", "kka\tか \tk", "kka\tか\t k", "kka\tか\tk ", "か\tka", "kka\tk\tか", "kka\tk", "k\tか\tk", "k\tか\tka", "ka\tか\tka", "ka\tか\tkak",
		" ", "  ", " #", "\t#", "ka\tか#", "ka\tか #", "ka\tか\t#", "k#\tか", "a#", "//", ";", "\r", "ka\tか\r", "ka\tか\r\n", "\r\n", "\x00", "ka\x00\tか", "ka\tか\x00", "\uFEFFka\tか", "\uFEFF#", "ka\tか\u2028", "ka\\tか",
		"\xFF", "\xFF\tか", "ka\t\xFF", "ka\tか\xFF", "ka\t\xE3\x81", "ka\t\x8B", "kka\tか\t\xFF", "ka\xFF\tか", "\xFF#", "ka\tか\x85",
	} {
		refuses(t, s, 1)
		refuses(t, "#\n\n"+s+"\nm\tま", 3)
		refuses(t, "m\tま\n"+s, 2)
		if _, number, e := parsed(s); number != 1 || e != api.ErrRule {
			t.Errorf("%q: %d %d", s, number, e)
		}
	}
	for _, r := range unbroken() {
		reads(t, line(r), r)
		reads(t, line(r)+"\n", r)
		if r.Next == "" {
			refuses(t, line(r)+"\t", 1)
		} else {
			refuses(t, line(r)+"\t"+r.Next, 1)
		}
	}
}

// P5.2, P5.7: skipped lines at the beginning, between rules and at the end, in texts that end with the end of a line and that do not.
func TestSkippedLines(t *testing.T) {
	a, kk, n := roman.Rule{Keys: "a", Out: "あ"}, roman.Rule{Keys: "kk", Out: "っ", Next: "k"}, roman.Rule{Keys: "n", Out: "ん"}
	for _, s := range []string{"", "#", "##", "# a\tあ", "#a\tあ", "#\t", "#\xFF", "#\xE3\x81", "#か", "#\x00", "#\r", "# \t \t ", "#" + strings.Repeat("x", 10000)} {
		reads(t, s)
		reads(t, s+"\n")
		reads(t, s+"\n"+s)
		reads(t, s+"\n\n"+s+"\n\n\n")
		reads(t, s+"\na\tあ\nkk\tっ\tk\nn\tん", a, kk, n)
		reads(t, "a\tあ\n"+s+"\nkk\tっ\tk\nn\tん\n", a, kk, n)
		reads(t, "a\tあ\nkk\tっ\tk\nn\tん\n"+s, a, kk, n)
		reads(t, "a\tあ\nkk\tっ\tk\nn\tん\n"+s+"\n", a, kk, n)
		reads(t, s+"\n"+s+"\na\tあ\n"+s+"\n"+s+"\nkk\tっ\tk\n"+s+"\nn\tん\n"+s+"\n"+s, a, kk, n)
		refuses(t, s+"\nx", 2)
		refuses(t, s+"\n"+s+"\na\tあ\n"+s+"\n"+s+"\nx\n"+s, 6)
		refuses(t, s+"\na\tあ\n"+s+"\na\tあ\n"+s, 4)
	}
	reads(t, "\n\n\n")
	reads(t, "\n\n\na\tあ", a)
	reads(t, "a\tあ\n\n\n", a)
}

// P5.2: the number is that of the first line that is not valid, whatever comes after it.
func TestFirstWrongLine(t *testing.T) {
	l := documented()
	for i := range l {
		s := text(l[:i]) + "x\n" + text(l[i:])
		refuses(t, s, i+1)
		refuses(t, s+"x\n", i+1)
		refuses(t, text(l[:i+1])+text(l[i:]), i+2)
	}
	refuses(t, "x\ny\nz", 1)
	refuses(t, "a\tあ\na\tあ\nx", 2)
	refuses(t, "a\tあ\nx\na\tあ", 2)
	// A line that is not valid has no keys that a line after it could have, too.
	refuses(t, "a\tア\na\tあ", 1)
	reads(t, "#a\tあ\na\tい", roman.Rule{Keys: "a", Out: "い"})
}

// P5.2: MaxRules rules and one more, with skipped lines and lines that are not valid.
func TestManyLines(t *testing.T) {
	l := someRules(rand.New(rand.NewSource(5)), 502)
	reads(t, text(l[:500]), l[:500]...)
	reads(t, text(l[:500])+"\n#\n\n", l[:500]...)
	reads(t, strings.Repeat("#\n", 1000)+text(l[:500]), l[:500]...)
	reads(t, strings.ReplaceAll(text(l[:500]), "\n", "\n\n#\n"), l[:500]...)
	refuses(t, text(l[:501]), 501)
	refuses(t, text(l), 501)
	refuses(t, text(l[:500])+line(l[500]), 501)
	refuses(t, text(l[:500])+"#\n\n"+line(l[500])+"\n", 503)
	refuses(t, "\n"+text(l[:501]), 502)
	refuses(t, text(l[:500])+line(l[0]), 501)
	refuses(t, text(l[:500])+"x", 501)
	refuses(t, "x\n"+text(l), 1)
	refuses(t, text(l[:499])+line(l[0]), 500)
}

// P5.2: texts of MaxText bytes and of one more.
func TestLongTexts(t *testing.T) {
	const most = 1 << 20
	a := roman.Rule{Keys: "a", Out: "あ"}
	fill := func(before, s, after string, n int) string {
		return before + strings.Repeat(s, n)[:n-len(before)-len(after)] + after
	}
	for _, s := range []string{"\n", "#", "#\n", "\n#\n", "#\xFF"} {
		reads(t, fill("", s, "", most-1))
		reads(t, fill("", s, "", most))
		isTooLong(t, fill("", s, "", most+1))
		isTooLong(t, fill("", s, "", 2*most))
		reads(t, fill("a\tあ\n", s, "\n", most), a)
		reads(t, fill("", s, "\na\tあ\n", most), a)
		isTooLong(t, fill("a\tあ\n", s, "\n", most+1))
		isTooLong(t, fill("x\n", s, "", most+1))
		isTooLong(t, fill("", s, "\nx", most+1))
		refuses(t, fill("x\n", s, "", most), 1)
	}
	refuses(t, fill("", "\n", "x", most), most)
	refuses(t, fill("", "#\n", "\nx", most), most/2+1)
	for _, s := range []string{"k", "か", "\t", "k\t", "k\tか\t", " ", "\xFF", "\xE3\x81", "\x00"} {
		refuses(t, fill("", s, "", most), 1)
		refuses(t, fill("a\tあ\nka\t", s, "", most), 2)
		refuses(t, fill("a\tあ\nka\tか\t", s, "", most), 2)
		isTooLong(t, fill("", s, "", most+1))
	}
}

// P5.2: random texts of pieces of lines.
func TestRandomTexts(t *testing.T) {
	r := rand.New(rand.NewSource(6))
	pieces := []string{"\n", "\n", "\n", "\n", "\t", "\t", "\t", "#", "a", "ka", "kk", "k", "kya", "n'", "-", "あ", "か", "っ", "きゃ", "ー", "カ", "K", " ", "\r", "\xFF", "\xE3", "a\tあ\n", "ka\tか\n", "kk\tっ\tk\n", "kk\t\tk\n", "n\tん\n", "nn\tん\n", "# \n"}
	read := 0
	for range 100000 {
		s := ""
		for range r.Intn(9) {
			s += pieces[r.Intn(len(pieces))]
		}
		if readsAsReference(t, s) {
			read++
		}
	}
	if read < 5000 {
		t.Errorf("only %d texts are read", read)
	}
}

// P5.2: texts of rules with one byte left out, put in, changed or moved.
func TestChangedTexts(t *testing.T) {
	r := rand.New(rand.NewSource(7))
	others := []byte("\n\n\n\t\t\t#ak-,.' \rKZ{`\x00\x80\xE3\x81\x82\xFF")
	read := 0
	for range 50000 {
		s := []byte(text(someRules(r, 1+r.Intn(4))))
		i := r.Intn(len(s))
		switch r.Intn(4) {
		case 0:
			s = slices.Delete(s, i, i+1)
		case 1:
			s = slices.Insert(s, i, others[r.Intn(len(others))])
		case 2:
			s[i] = others[r.Intn(len(others))]
		case 3:
			j := r.Intn(len(s))
			s[i], s[j] = s[j], s[i]
		}
		if readsAsReference(t, string(s)) {
			read++
		}
	}
	if read < 5000 {
		t.Errorf("only %d texts are read", read)
	}
}

// P5.3: rules with two words and with three.
func TestPrint(t *testing.T) {
	prints(t, nil, "")
	prints(t, []roman.Rule{{Keys: "ka", Out: "か"}}, "ka\tか\n")
	prints(t, []roman.Rule{{Keys: "kk", Out: "っ", Next: "k"}}, "kk\tっ\tk\n")
	prints(t, []roman.Rule{{Keys: "kk", Next: "k"}}, "kk\t\tk\n")
	prints(t, []roman.Rule{{Keys: "z", Out: "ずー、。"}, {Keys: "a", Out: "あ"}, {Keys: "n'--", Out: "", Next: ",.'"}}, "z\tずー、。\na\tあ\nn'--\t\t,.'\n")
	for _, l := range [][]roman.Rule{{{Keys: "ka"}}, {{Keys: "ka", Out: "か"}, {Keys: "ka", Out: "か"}}, {{}}, make([]roman.Rule, 500)} {
		if s, e := roman.Print(l); s != "" || e != api.ErrRule {
			t.Errorf("Print of %.100q: %q %d", l, s, e)
		}
	}
	if s, e := roman.Print(make([]roman.Rule, 501)); s != "" || e != api.ErrLong {
		t.Errorf("Print of 501 rules: %q %d", s, e)
	}
}

// P5.6: Parse reads what Print writes.
func TestRoundTrip(t *testing.T) {
	r := rand.New(rand.NewSource(8))
	for n := range 501 {
		l := someRules(r, n)
		s, e := roman.Print(l)
		if e != api.OK {
			t.Errorf("Print of %q: %d", l, e)
		}
		reads(t, s, l...)
	}
}

// P5.7: a skipped line more changes only the numbers of the lines after it, and beginnings at the ends of lines are read, too.
func TestLines(t *testing.T) {
	r := rand.New(rand.NewSource(9))
	for range 2000 {
		l := someRules(r, 1+r.Intn(8))
		lines := strings.SplitAfter(text(l), "\n")
		for i := range lines {
			s := strings.Join(lines[:i], "")
			reads(t, s, l[:i]...)
			reads(t, strings.TrimSuffix(s, "\n"), l[:i]...)
			more := slices.Insert(slices.Clone(lines), i, []string{"\n", "#\n", "# ka\tか\n", "#\xFF\n"}[r.Intn(4)])
			reads(t, strings.Join(more, ""), l...)
		}
		wrong := r.Intn(len(lines))
		lines = slices.Insert(lines, wrong, line(l[0])+"\tk\tk\n")
		refuses(t, strings.Join(lines, ""), wrong+1)
		for i := range lines {
			number := wrong + 1
			if i <= wrong {
				number++
			}
			refuses(t, strings.Join(slices.Insert(slices.Clone(lines), i, "#\n"), ""), number)
		}
	}
}
