package roman_test

import (
	"math/rand"
	"slices"
	"strings"
	"testing"

	"henkan/api"
	"henkan/roman"
)

// checks checks one call of Check, and that Print agrees with it.
func checks(t *testing.T, l []roman.Rule, want api.Errno) {
	t.Helper()
	if got := roman.Check(l); got != want {
		t.Errorf("Check of %.300q (%d rules): %d, want %d", l, len(l), got, want)
	}
	if want == api.OK {
		prints(t, l, text(l))
	} else if s, e := roman.Print(l); s != "" || e != want {
		t.Errorf("Print of %.300q (%d rules): %q %d, want %d", l, len(l), s, e, want)
	}
}

// finds checks one call of Find that finds a rule.
func finds(t *testing.T, l []roman.Rule, keys string, want roman.Rule) {
	t.Helper()
	if got, ok := roman.Find(l, keys); got != want || !ok {
		t.Errorf("Find of %q: %q %v, want %q", keys, got, ok, want)
	}
}

// misses checks one call of Find that finds none.
func misses(t *testing.T, l []roman.Rule, keys string) {
	t.Helper()
	if got, ok := roman.Find(l, keys); got != (roman.Rule{}) || ok {
		t.Errorf("Find of %q: %q %v, want none", keys, got, ok)
	}
}

// hasLonger checks one call of Longer.
func hasLonger(t *testing.T, l []roman.Rule, keys string, want bool) {
	t.Helper()
	if got := roman.Longer(l, keys); got != want {
		t.Errorf("Longer of %q: %v, want %v", keys, got, want)
	}
}

// P5.1: no rules, and rules that are barely allowed, alone and together.
func TestAllowed(t *testing.T) {
	checks(t, nil, api.OK)
	checks(t, []roman.Rule{}, api.OK)
	for _, r := range unbroken() {
		checks(t, []roman.Rule{r}, api.OK)
	}
	checks(t, unbroken(), api.OK)
	checks(t, documented(), api.OK)
}

// P5.1, P5.2, P5.3: each condition broken alone, in lists and in texts.
func TestNotAllowed(t *testing.T) {
	good := unbroken()
	for _, r := range broken() {
		if allowed(r) {
			t.Errorf("%q is allowed", r)
		}
		checks(t, []roman.Rule{r}, api.ErrRule)
		checks(t, []roman.Rule{r, good[0]}, api.ErrRule)
		checks(t, []roman.Rule{good[0], r}, api.ErrRule)
		checks(t, slices.Concat(good[:7], []roman.Rule{r}, good[7:]), api.ErrRule)
		readsAsReference(t, line(r))
		if s := line(r); !strings.Contains(s, "\n") && !strings.HasPrefix(s, "#") {
			refuses(t, s, 1)
			refuses(t, s+"\n", 1)
			refuses(t, "m\tま\n\n"+s+"\nn\tん\n", 3)
		}
	}
}

// P5.1: every byte as a key, at every place of Keys and of Next.
func TestEveryByte(t *testing.T) {
	for i := range 256 {
		b := string([]byte{byte(i)})
		want := api.ErrRule
		if strings.Contains(allKeys, b) {
			want = api.OK
		}
		for _, keys := range []string{b, b + "a", "a" + b, b + "aaa", "a" + b + "aa", "aa" + b + "a", "aaa" + b} {
			checks(t, []roman.Rule{{Keys: keys, Out: "か", Next: ""}}, want)
			checks(t, []roman.Rule{{Keys: keys, Out: "", Next: ""}}, api.ErrRule)
		}
		for _, next := range []string{b, b + "a", "a" + b, b + "aa", "a" + b + "a", "aa" + b} {
			checks(t, []roman.Rule{{Keys: "kkkk", Out: "か", Next: next}}, want)
			checks(t, []roman.Rule{{Keys: "kkkk", Out: "", Next: next}}, want)
		}
	}
}

// P5.1: every character as a kana, alone and as the last of four.
func TestEveryCharacter(t *testing.T) {
	kana := map[rune]bool{}
	for _, c := range allKana {
		kana[c] = true
	}
	if len(kana) != 0x3096-0x3041+1+3 {
		t.Fatalf("%d kana", len(kana))
	}
	for c := rune(0); c <= 0x10FFFF; c++ {
		if 0xD800 <= c && c <= 0xDFFF {
			continue
		}
		want := api.ErrRule
		if kana[c] {
			want = api.OK
		}
		one, four := roman.Check([]roman.Rule{{Keys: "k", Out: string(c)}}), roman.Check([]roman.Rule{{Keys: "k", Out: "あいう" + string(c)}})
		if one != want || four != want {
			t.Errorf("Check of %x: %d, and as the fourth %d, want %d", c, one, four, want)
		}
	}
}

// P5.1: all lengths of Keys, Out and Next.
func TestLengthsOfRules(t *testing.T) {
	for keys := range 8 {
		for out := range 8 {
			for next := range 8 {
				want := api.ErrRule
				if keys >= 1 && keys <= 4 && out <= 4 && next <= 3 && next < keys && out+next > 0 {
					want = api.OK
				}
				for _, kana := range []string{"あ", "ー", "。"} {
					checks(t, []roman.Rule{{Keys: "abcdefgh"[:keys], Out: strings.Repeat(kana, out), Next: "--------"[:next]}}, want)
				}
			}
		}
	}
}

// P5.1, P5.2, P5.3: the same Keys twice, near and far, with the same words beside them and with others.
func TestTwice(t *testing.T) {
	good := unbroken()
	for i, r := range good {
		for _, other := range []roman.Rule{r, {Keys: r.Keys, Out: "む", Next: ""}} {
			checks(t, []roman.Rule{r, other}, api.ErrRule)
			checks(t, append(slices.Clone(good), other), api.ErrRule)
			checks(t, append([]roman.Rule{other}, good...), api.ErrRule)
			refuses(t, line(r)+"\n"+line(other), 2)
			refuses(t, text(good)+"#\n"+line(other)+"\n", len(good)+2)
			refuses(t, line(other)+"\n\n"+text(good), i+3)
		}
	}
	checks(t, []roman.Rule{{Keys: "k", Out: "あ"}, {Keys: "kk", Out: "あ"}, {Keys: "kkk", Out: "あ"}, {Keys: "kkkk", Out: "あ"}, {Keys: "ak", Out: "あ"}, {Keys: "ka", Out: "あ"}}, api.OK)
}

// P5.1, P5.3: MaxRules rules and one more, allowed and not.
func TestManyRules(t *testing.T) {
	l := someRules(rand.New(rand.NewSource(1)), 502)
	wrong := roman.Rule{Keys: "K", Out: "か"}
	checks(t, l[:499], api.OK)
	checks(t, l[:500], api.OK)
	checks(t, l[:501], api.ErrLong)
	checks(t, l, api.ErrLong)
	checks(t, append(slices.Clone(l[:499]), wrong), api.ErrRule)
	checks(t, append([]roman.Rule{wrong}, l[:499]...), api.ErrRule)
	checks(t, append(slices.Clone(l[:499]), l[0]), api.ErrRule)
	checks(t, append(slices.Clone(l[:499]), l[498]), api.ErrRule)
	checks(t, append(slices.Clone(l[:500]), wrong), api.ErrLong)
	checks(t, append([]roman.Rule{wrong}, l[:500]...), api.ErrLong)
	checks(t, append(slices.Clone(l[:500]), l[0]), api.ErrLong)
	checks(t, append([]roman.Rule{l[0]}, l[:500]...), api.ErrLong)
	checks(t, make([]roman.Rule, 500), api.ErrRule)
	checks(t, make([]roman.Rule, 501), api.ErrLong)
	checks(t, make([]roman.Rule, 100000), api.ErrLong)
}

// P5.1: lists of which some have a rule that is changed.
func TestChangedLists(t *testing.T) {
	r := rand.New(rand.NewSource(2))
	results := map[api.Errno]int{}
	wrong := broken()
	for range 20000 {
		l := someRules(r, r.Intn(12))
		for range r.Intn(3) {
			if len(l) == 0 {
				break
			}
			i, other := r.Intn(len(l)), l[r.Intn(len(l))]
			switch r.Intn(6) {
			case 0:
				l[i].Keys = other.Keys
			case 1:
				l[i].Out += other.Out
			case 2:
				l[i].Next += other.Next
			case 3:
				l[i].Out = ""
			case 4:
				l[i].Next = other.Next
			case 5:
				l[i] = wrong[r.Intn(len(wrong))]
			}
		}
		want := checked(l)
		checks(t, l, want)
		results[want]++
	}
	if results[api.OK] < 5000 || results[api.ErrRule] < 5000 {
		t.Errorf("%v", results)
	}
}

// P5.5: the examples of the chapter, and keys of the document that are found, that are not, and that only begin others.
func TestFind(t *testing.T) {
	l := documented()
	hasLonger(t, l, "n", true)
	hasLonger(t, l, "", true)
	hasLonger(t, l, "nn", false)
	finds(t, l, "n", roman.Rule{Keys: "n", Out: "ん"})
	finds(t, l, "kk", roman.Rule{Keys: "kk", Out: "っ", Next: "k"})
	for _, r := range l {
		finds(t, l, r.Keys, r)
		for i := range len(r.Keys) {
			hasLonger(t, l, r.Keys[:i], true)
		}
		misses(t, l, strings.ToUpper(r.Keys)+"A")
		hasLonger(t, l, strings.ToUpper(r.Keys)+"A", false)
	}
	for _, keys := range []string{"", "k", "ky", "s", "sh", "sy", "t", "ts", "c", "ch", "x", "xt", "xts", "xy", "v", "w", "ny"} {
		misses(t, l, keys)
		hasLonger(t, l, keys, true)
	}
	for _, keys := range []string{"a", "ka", "kya", "n'", "nn", "-", ",", ".", "xtsu", "vu", "tc", "zz"} {
		hasLonger(t, l, keys, false)
	}
	for _, keys := range []string{"q", "l", "la", "xx", "wi", "yi", "va", "tch", "kaa", "kyaa", "nnn", "n''", "xtsuu", "'", "--", "K", "KA", "Ka", " ", "ka ", " ka", "k\x00", "\x00", "か", "あ", "\xFF", "k\xFF", "\xE3", "\uFFFD", strings.Repeat("k", 100000)} {
		misses(t, l, keys)
		hasLonger(t, l, keys, false)
	}
}

// P5.5: all keys of up to three bytes, with the document's rules.
func TestFindAll(t *testing.T) {
	l := documented()
	rules, beginnings := map[string]roman.Rule{}, map[string]bool{}
	for _, r := range l {
		rules[r.Keys] = r
		for i := range len(r.Keys) {
			beginnings[r.Keys[:i]] = true
		}
	}
	all := []string{""}
	for i := 0; i < len(all); i++ {
		keys := all[i]
		hasLonger(t, l, keys, beginnings[keys])
		if want, ok := rules[keys]; ok {
			finds(t, l, keys, want)
		} else {
			misses(t, l, keys)
		}
		if len(keys) < 3 {
			for _, c := range allKeys + "K" {
				all = append(all, keys+string(c))
			}
		}
	}
}

// P5.5: lists that are not allowed.
func TestFindNotAllowed(t *testing.T) {
	misses(t, nil, "")
	misses(t, nil, "a")
	hasLonger(t, nil, "", false)
	hasLonger(t, nil, "a", false)
	l := []roman.Rule{{Keys: "ka", Out: "1", Next: "kaka"}, {Keys: "ka", Out: "2"}, {Keys: "あい", Out: "\xFF"}, {Keys: "KAKIKUKEKO", Next: "\xFF"}, {Keys: "x"}, {Keys: "\xFF\xFE", Out: "か"}}
	for _, i := range []int{0, 2, 3, 4, 5} {
		finds(t, l, l[i].Keys, l[i])
	}
	misses(t, l, "")
	for _, keys := range []string{"", "k", "あ", "\xE3", "\xE3\x81", "あ\xE3", "あ\xE3\x81", "K", "KA", "KAKIKUKEK", "\xFF"} {
		hasLonger(t, l, keys, true)
	}
	for _, keys := range []string{"ka", "a", "あい", "い", "\x81", "KAKIKUKEKO", "x", "\xFF\xFE", "\xFE", "\uFFFD", "kaki"} {
		hasLonger(t, l, keys, false)
	}
	empty := roman.Rule{Keys: "", Out: "か", Next: "a"}
	finds(t, []roman.Rule{{Keys: "a"}, empty, {Keys: "", Out: "き"}}, "", empty)
	finds(t, []roman.Rule{{}}, "", roman.Rule{})
	hasLonger(t, []roman.Rule{empty, {}}, "", false)
	hasLonger(t, []roman.Rule{empty, {Keys: "\x00"}}, "", true)
	for _, r := range broken() {
		finds(t, []roman.Rule{{Keys: "m", Out: "ま"}, r}, r.Keys, r)
		hasLonger(t, []roman.Rule{r}, r.Keys, false)
		if r.Keys != "" {
			hasLonger(t, []roman.Rule{r}, r.Keys[:len(r.Keys)-1], true)
		}
	}
	many := append(make([]roman.Rule, 1000), someRules(rand.New(rand.NewSource(3)), 600)...)
	finds(t, many, many[1599].Keys, many[1599])
	hasLonger(t, many, "", true)
}

// P5.8: the order of rules does not matter, and a part of an allowed list is allowed.
func TestOrder(t *testing.T) {
	r := rand.New(rand.NewSource(4))
	wrong := broken()
	for range 2000 {
		l := someRules(r, 1+r.Intn(20))
		if r.Intn(2) == 0 {
			l[r.Intn(len(l))] = wrong[r.Intn(len(wrong))]
		}
		if r.Intn(2) == 0 {
			l[r.Intn(len(l))].Keys = l[r.Intn(len(l))].Keys
		}
		want := checked(l)
		for range 3 {
			r.Shuffle(len(l), func(i, j int) { l[i], l[j] = l[j], l[i] })
			checks(t, l, want)
		}
		if want == api.OK {
			part := slices.DeleteFunc(slices.Clone(l), func(roman.Rule) bool { return r.Intn(2) == 0 })
			checks(t, part, api.OK)
			from := r.Intn(len(l))
			checks(t, l[from:from+r.Intn(len(l)-from+1)], api.OK)
		}
	}
	l := documented()
	slices.Reverse(l)
	checks(t, l, api.OK)
}

// Arguments are not changed, elements behind the end of a slice are not read, and a call depends on its arguments alone (rules R3 and R4).
func TestArguments(t *testing.T) {
	l := append(unbroken(), roman.Rule{Keys: "ka", Out: "か"}, roman.Rule{Keys: "KAY", Out: "カ"})
	before := slices.Clone(l)
	part := l[:len(l)-2]
	for range 2 {
		checks(t, part, api.OK)
		checks(t, l[:len(l)-1], api.ErrRule)
		misses(t, part, "KAY")
		hasLonger(t, part, "KA", false)
		finds(t, part, "ka", roman.Rule{Keys: "ka", Out: "ああああ"})
		hasLonger(t, part, "kak", true)
	}
	if !slices.Equal(l, before) {
		t.Errorf("%q, before %q", l, before)
	}
}
