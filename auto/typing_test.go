package auto_test

import (
	"math/rand"
	"strings"
	"testing"
	"unicode/utf8"

	"henkan/api"
	"henkan/auto"
	"henkan/roman"
)

// allKeys are the keys, in the order of their bytes.
const allKeys = "!\"#$%&'()*+,-./0123456789:;<=>?@ABCDEFGHIJKLMNOPQRSTUVWXYZ[\\]^_`abcdefghijklmnopqrstuvwxyz{|}~"

// types checks one call of Type that returns these keys, and that they write the text.
func types(t *testing.T, a *auto.Auto, s, want string) {
	t.Helper()
	if keys, ok := a.Type(s); keys != want || !ok {
		t.Errorf("Type of %.300q: %.300q %v, want %.300q", s, keys, ok, want)
	}
	runs(t, a, want, s, "")
}

// cannotType checks one call of Type that returns no keys.
func cannotType(t *testing.T, a *auto.Auto, s string) {
	t.Helper()
	if keys, ok := a.Type(s); keys != "" || ok {
		t.Errorf("Type of %.300q: %.300q %v, want none", s, keys, ok)
	}
}

// typesAsReference checks one call of Type against the second reading, and returns whether there were keys.
func typesAsReference(t *testing.T, a *auto.Auto, l []roman.Rule, s, keys string) bool {
	t.Helper()
	want, ok := typed(l, s, keys)
	if ok {
		types(t, a, s, want)
	} else {
		cannotType(t, a, s)
	}
	return ok
}

// P6.4: the examples of the chapter.
func TestTypeExamples(t *testing.T) {
	a := automaton(t, few())
	types(t, a, "んあ", "nna")
	types(t, a, "な", "na")
	types(t, a, "ん", "nn")
	cannotType(t, a, "か")
}

// P6.4: texts that can be typed in several ways, with as many keys or with more, and characters that are keys themselves.
func TestTypeDefault(t *testing.T) {
	a := automaton(t, roman.Default())
	for s, want := range map[string]string{
		"": "", "あ": "a", "か": "ka", "きゃ": "kya", "し": "si", "ち": "ti", "つ": "tu", "ふ": "fu", "じ": "ji", "じゃ": "ja", "じゅ": "ju", "しゃ": "sha", "しゅ": "shu", "ちゃ": "cha", "ちょ": "cho", "ふぁ": "fa", "ふゃ": "fuxya", "じぇ": "je", "ぢゃ": "dya",
		"っ": "xtu", "っか": "kka", "っちゃ": "ccha", "っつ": "ttu", "っし": "ssi", "っじ": "jji", "っふ": "ffu", "っっか": "kkka", "かっ": "kaxtu", "っあ": "xtua", "っん": "xtun'", "っな": "xtuna", "っー": "xtu-", "ゃ": "xya", "しぃ": "sixi", "きぃ": "kixi",
		"ん": "n'", "んん": "n'n'", "んあ": "n'a", "んな": "n'na", "んに": "n'ni", "んや": "n'ya", "んにゃ": "n'nya", "んか": "nka", "んきゃ": "nkya", "んっか": "nkka", "んっ": "nxtu", "ん、": "n,", "んー": "n-", "ん。ん": "n.n'", "ほん": "hon'", "ほんや": "hon'ya", "しんぶん": "sinbun'", "きょう": "kyou", "まっちゃ": "maccha",
	} {
		types(t, a, s, want)
	}
	for s, want := range map[string]string{
		"A": "A", "んA": "nA", "q": "q", "'": "'", "''": "''", "1あ2": "1a2", "~!": "~!", "kA": "kA", "kyA": "kyA", "kし": "ksi", "kー": "k-", "kん": "kn'", "kっさ": "kssa", "kyか": "kyka", "k'": "k'", "ktk!": "ktk!", "xtsか": "xtska", "shさ": "shsa",
	} {
		types(t, a, s, want)
	}
}

// P6.4: texts that no keys write with the rules of the document.
func TestCannotType(t *testing.T) {
	a := automaton(t, roman.Default())
	for _, s := range []string{
		// Keys that stay pending, are a rule, or make one with those after them.
		"k", "kk!", "n", "a", "あa", "kか", "kあ", "-", ",", ".", "かk", "ky", "n'", "A-", "ka!",
		// Characters that no rule writes.
		"カ", "漢", "漢字", "か漢", "ゎ", "ゐ", "ゑ", "ゕ", "ゖ", "・", "ａ", "é", "゛", "\uFFFD", "かか\U0001F600",
		// Characters that are no keys.
		" ", "か か", "\x00", "\n", "\x7F", "か\x7F", "\u0080",
		// Strings that are not valid.
		"\xFF", "\x80", "\xE3\x81", "か\xE3\x81", "\xE3\x81か", "A\xFF", "\xFFA", "か\xFFか", "\xED\xA0\x80", "\xC1\x81", "\xF4\x90\x80\x80", strings.Repeat("\xFF", 100),
	} {
		cannotType(t, a, s)
	}
}

// P6.4: texts of MaxReading characters and of one more, however many bytes and keys they have.
func TestLongTexts(t *testing.T) {
	a := automaton(t, roman.Default())
	for out, keys := range map[string]string{"あ": "a", "か": "ka", "ん": "n'", "っ": "xtu", "A": "A", "、": ","} {
		for n := range 65 {
			types(t, a, strings.Repeat(out, n), strings.Repeat(keys, n))
		}
		for _, n := range []int{65, 66, 128, 1000} {
			cannotType(t, a, strings.Repeat(out, n))
		}
	}
	types(t, a, strings.Repeat("きゃ", 32), strings.Repeat("kya", 32))
	cannotType(t, a, strings.Repeat("きゃ", 32)+"a")
	cannotType(t, a, strings.Repeat("か", 63)+"カ")
	cannotType(t, a, strings.Repeat("か", 63)+"k")
	cannotType(t, a, strings.Repeat("A", 63)+"\xFF")
	a = automaton(t, rules("a=かきくけ"))
	types(t, a, strings.Repeat("かきくけ", 16), strings.Repeat("a", 16))
	cannotType(t, a, strings.Repeat("かきくけ", 16)+"!")
	cannotType(t, a, strings.Repeat("かきくけ", 17))
	a = automaton(t, nil)
	types(t, a, allKeys[:64], allKeys[:64])
	types(t, a, allKeys[30:], allKeys[30:])
	cannotType(t, a, allKeys[:65])
	cannotType(t, a, "か")
	types(t, a, "", "")
}

// P6.4: the least keys are found, not the first that come to mind.
func TestTypeLeast(t *testing.T) {
	// Fewer keys are less, whatever their bytes are.
	a := automaton(t, rules("aa=か", "z=か"))
	types(t, a, "か", "z")
	types(t, a, "かか", "zz")
	// Of as many keys, the first that differ count.
	a = automaton(t, rules("az=か", "ba=か", "bz=かか", "aaaa=かか"))
	types(t, a, "か", "az")
	types(t, a, "かか", "bz")
	types(t, a, "かかか", "azbz")
	types(t, a, "かかかか", "bzbz")
	a = automaton(t, rules(".=か", "-=か", ",=か", "'=か"))
	types(t, a, "かか", "''")
	// The rule that writes most is not always the one to take, nor is the one with the fewest keys.
	a = automaton(t, rules("a=か", "bbbb=かき", "c=きく", "ddd=く", "e=かきく", "ffff=くけ"))
	types(t, a, "かき", "bbbb")
	types(t, a, "かきく", "e")
	types(t, a, "きく", "c")
	types(t, a, "かきくけ", "bbbbffff")
	types(t, a, "かきくく", "eddd")
	// The least keys for a text need not begin with those for its beginning, which cannot even be typed alone here.
	a = automaton(t, rules("k=か", "kk=き+z", "zz=く"))
	types(t, a, "きく", "kkz")
	types(t, a, "かく", "kzz")
	types(t, a, "か!", "k!")
	types(t, a, "きz!", "kk!")
	cannotType(t, a, "か")
	cannotType(t, a, "き")
	// Only with the help of a rule without Out does b begin anew after p.
	a = automaton(t, rules("p=は", "pbc=ふ", "bc=ひ", "xy=+b"))
	types(t, a, "はひ", "pxyc")
	types(t, a, "ひ", "bc")
	types(t, a, "ふ", "pbc")
	types(t, a, "はb!", "pb!")
	// A Next writes at once, or leads to a further rule.
	a = automaton(t, rules("wxyz=あ+abc", "abc=い+de", "de=う+f", "f=え", "ff=お"))
	cannotType(t, a, "あいうえ")
	types(t, a, "あいうお", "wxyzf")
	types(t, a, "いうえ!", "abc!")
	types(t, a, "うお", "def")
}

// P6.4: what the rules of the document write, alone and together.
func TestTypeRules(t *testing.T) {
	l := roman.Default()
	a := automaton(t, l)
	for _, r := range l {
		keys, ok := a.Type(r.Out)
		if !ok || r.Next == "" && !roman.Longer(l, r.Keys) && less(r.Keys, keys) {
			t.Errorf("Type of %q: %q %v", r.Out, keys, ok)
		}
		runs(t, a, keys, r.Out, "")
		keys, ok = a.Type("ん" + r.Out + "っか")
		if !ok {
			t.Errorf("Type of %q between others: %q", r.Out, keys)
		}
		runs(t, a, keys, "ん"+r.Out+"っか", "")
	}
	for _, s := range []string{"きゃっ", "んん", "っちゃ", "しぇん", "kA", "ん'", "kか", "かa"} {
		typesAsReference(t, a, l, s, allKeys)
	}
}

// P6.4: random rules, and all texts that up to five keys write.
func TestTypeAll(t *testing.T) {
	r := rand.New(rand.NewSource(3))
	found := 0
	for range 40 {
		l := someRules(r, 1+r.Intn(12), "abc", "あい")
		a := automaton(t, l)
		all := written(l, "!abc", 5)
		for s, keys := range all {
			types(t, a, s, keys)
		}
		for range 30 {
			s := some(r, "ああああいいい!abc", 1, 6)
			if keys, ok := a.Type(s); ok && all[s] != keys && len(keys) <= 5 {
				t.Errorf("Type of %q: %q, want %q", s, keys, all[s])
			}
		}
		found += len(all)
		if t.Failed() {
			t.Fatalf("rules %q", l)
		}
	}
	if found < 5000 {
		t.Errorf("only %d texts are written", found)
	}
}

// P6.4: random rules and texts, with and without keys that write them.
func TestTypeRandom(t *testing.T) {
	r := rand.New(rand.NewSource(4))
	can, cannot := 0, 0
	for range 300 {
		l := someRules(r, 1+r.Intn(15), "abc", "あい")
		a := automaton(t, l)
		for range 6 {
			s := some(r, "ああいい", 0, 6) + some(r, "あいabc!", 0, 3)
			if r.Intn(2) == 0 {
				s, _ = a.Run(some(r, "aabbcc!", 0, 10))
			}
			if typesAsReference(t, a, l, s, "!abc~") {
				can++
			} else {
				cannot++
			}
		}
		if t.Failed() {
			t.Fatalf("rules %q", l)
		}
	}
	if can < 500 || cannot < 500 {
		t.Errorf("%d texts can be typed, and %d cannot", can, cannot)
	}
}

// P6.4: what many keys write is typed with no more keys.
func TestTypeOfRun(t *testing.T) {
	r := rand.New(rand.NewSource(5))
	for range 100 {
		l := roman.Default()
		if r.Intn(2) == 0 {
			l = someRules(r, 100, "abcdef", "あいうえー")
		}
		a := automaton(t, l)
		for range 10 {
			keys := some(r, "aabbccdefhijkmnnostuyx'!", 0, 40)
			s, pending := a.Run(keys)
			if pending != "" || utf8.RuneCountInString(s) > 64 {
				continue
			}
			least, ok := a.Type(s)
			if !ok || less(keys, least) {
				t.Errorf("Type of %q: %q %v, but %q writes it", s, least, ok, keys)
			}
			runs(t, a, least, s, "")
		}
	}
}

// P6.4: as many rules as there can be, with as many different keys pending as there can be.
func TestTypeManyRules(t *testing.T) {
	r := rand.New(rand.NewSource(6))
	l := rules("q=か")
	for len(l) < 500 {
		more := append(l, roman.Rule{Keys: some(r, "abcdefghijklmnop", 4, 4), Out: "かか", Next: some(r, "abcdefghijklmnop", 0, 3)})
		if roman.Check(more) == api.OK {
			l = more
		}
	}
	a := automaton(t, l)
	types(t, a, strings.Repeat("か", 64), strings.Repeat("q", 64))
	cannotType(t, a, strings.Repeat("か", 63)+"き")
}

// P6.8: texts one after the other.
func TestTypeTogether(t *testing.T) {
	r := rand.New(rand.NewSource(7))
	both := 0
	for range 100 {
		l := roman.Default()
		letters := "あかきゃっんにしつAq"
		if r.Intn(4) > 0 {
			l, letters = someRules(r, 1+r.Intn(12), "abc", "あい"), "あああいいい!a"
		}
		a := automaton(t, l)
		for range 20 {
			one, two := some(r, letters, 0, 5), some(r, letters, 0, 5)
			keys, ok := a.Type(one)
			more, okToo := a.Type(two)
			if !ok || !okToo {
				continue
			}
			both++
			if together, ok := a.Type(one + two); !ok || less(keys+more, together) {
				t.Errorf("%q: Type of %q and %q: %q and %q, but together %q", l, one, two, keys, more, together)
			}
		}
	}
	if both < 500 {
		t.Errorf("only %d pairs of texts can be typed", both)
	}
	a := automaton(t, roman.Default())
	one, two := strings.Repeat("んか", 16), strings.Repeat("きゃ", 16)
	types(t, a, one+two, strings.Repeat("nka", 16)+strings.Repeat("kya", 16))
	types(t, a, two+one, strings.Repeat("kya", 16)+strings.Repeat("nka", 16))
	cannotType(t, a, one+two+"あ")
	types(t, a, "んあ", "n'a")
	types(t, a, "ん"+"か", "nka")
}
