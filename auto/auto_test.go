package auto_test

import (
	"math/rand"
	"slices"
	"strings"
	"testing"
	"unsafe"

	"henkan/api"
	"henkan/auto"
	"henkan/roman"
)

// noKeys are bytes that are no keys.
const noKeys = "\x00\t\n\x1F \x7F\x80\x81\xE3\xFE\xFF"

// runs checks one call of Run.
func runs(t *testing.T, a *auto.Auto, keys, want, wantPending string) {
	t.Helper()
	if out, pending := a.Run(keys); out != want || pending != wantPending {
		t.Errorf("Run of %.300q: %.300q and %.300q, want %.300q and %.300q", keys, out, pending, want, wantPending)
	}
}

// steps checks one call of Step.
func steps(t *testing.T, a *auto.Auto, pending string, key byte, want, wantPending string) {
	t.Helper()
	if out, rest := a.Step(pending, key); out != want || rest != wantPending {
		t.Errorf("Step of %.300q and %q: %.300q and %.300q, want %.300q and %.300q", pending, key, out, rest, want, wantPending)
	}
}

// flushes checks one call of Flush.
func flushes(t *testing.T, a *auto.Auto, pending, want string) {
	t.Helper()
	if out := a.Flush(pending); out != want {
		t.Errorf("Flush of %.300q: %.300q, want %.300q", pending, out, want)
	}
}

// P6.2, P6.3: the examples of the chapter.
func TestExamples(t *testing.T) {
	a := automaton(t, roman.Default())
	runs(t, a, "ka", "か", "")
	runs(t, a, "kya", "きゃ", "")
	runs(t, a, "kky", "っ", "ky")
	runs(t, a, "shin", "し", "n")
	steps(t, a, "n", 'a', "な", "")
	steps(t, a, "n", 'k', "ん", "k")
	flushes(t, a, "n", "ん")
	flushes(t, a, "ky", "ky")
	runs(t, a, "A", "A", "")
	runs(t, a, "kA", "kA", "")
	runs(t, a, "1a", "1あ", "")
	a = automaton(t, few())
	runs(t, a, "nna", "んあ", "")
	runs(t, a, "xya", "ああ", "")
	runs(t, a, "xy", "あ", "")
	runs(t, a, "xb", "xb", "")
	steps(t, a, "x", 'y', "あ", "")
	steps(t, a, "", 'a', "あ", "")
}

// P6.2: the examples of the whole, and other words.
func TestWords(t *testing.T) {
	a := automaton(t, roman.Default())
	for keys, want := range map[string]string{
		"kyou": "きょう", "kitte": "きって", "nya": "にゃ", "n'ya": "んや", "nnya": "んや", "kannji": "かんじ", "kanji": "かんじ", "konna": "こんあ", "konnna": "こんな", "kon'na": "こんな", "matcha": "まっちゃ", "maccha": "まっちゃ", "mattya": "まっちゃ", "zannnenn": "ざんねん",
		"nihon'": "にほん", "ra-men.": "らーめん。", "n,n-n.": "ん、んーん。", "xtsuxtuxtsa": "っっxtさ", "vuvvu": "ゔっゔ", "wwo": "っを", "kkka": "っっか", "sshi": "っし", "ssyu": "っしゅ", "tchi": "っち", "tttcho": "っっっちょ", "fufafifefo": "ふふぁふぃふぇふぉ", "jajijujejo": "じゃじじゅじぇじょ",
		"qlqa": "qlqあ", "ktka": "ktか", "kskka": "ksっか", "kyka": "kyか", "kykya": "kyきゃ", "xtka": "xtか", "xtska": "xtsか", "shsha": "shしゃ", "shya": "sひゃ", "shwa": "shわ", "cka": "cか", "cha": "ちゃ", "yi": "yい", "wi": "wい", "tsa": "tさ", "k'": "k'", "''": "''", "n''": "ん'", "KAka": "KAか", "nA": "んA", "n1n2": "ん1ん2", "kk,": "っk、",
		"(ka)~!": "(か)~!",
	} {
		runs(t, a, keys, want, "")
	}
	for keys, want := range map[string][2]string{
		"k": {"", "k"}, "ky": {"", "ky"}, "n": {"", "n"}, "nn": {"ん", ""}, "nnn": {"ん", "n"}, "nny": {"ん", "y"}, "ny": {"", "ny"}, "nk": {"ん", "k"}, "nky": {"ん", "ky"}, "kk": {"っ", "k"}, "kkk": {"っっ", "k"}, "nkk": {"んっ", "k"}, "tc": {"っ", "c"}, "tch": {"っ", "ch"}, "ttc": {"っっ", "c"}, "xts": {"", "xts"}, "xtss": {"xtっ", "s"}, "xtt": {"xっ", "t"}, "xtn": {"xt", "n"}, "kyn": {"ky", "n"}, "shs": {"sh", "s"}, "chk": {"ch", "k"}, "Ak": {"A", "k"}, "kAk": {"kA", "k"}, "-k": {"ー", "k"},
	} {
		runs(t, a, keys, want[0], want[1])
	}
}

// P6.2: each of the three cases, with rules made for it.
func TestCases(t *testing.T) {
	// The keys of a rule are pending if longer ones begin with them, through all lengths.
	a := automaton(t, rules("a=あ", "ab=い", "abc=う", "abcd=え"))
	for _, keys := range []string{"a", "ab", "abc"} {
		runs(t, a, keys, "", keys)
	}
	runs(t, a, "abcd", "え", "")
	// The rule with the most keys is applied, and the rest is fed.
	runs(t, a, "abce", "うe", "")
	runs(t, a, "abe", "いe", "")
	runs(t, a, "ae", "あe", "")
	runs(t, a, "abca", "う", "a")
	runs(t, a, "aa", "あ", "a")
	runs(t, a, "abab", "い", "ab")
	// A rule that is shorter than what is pending.
	a = automaton(t, rules("a=あ", "abcd=え"))
	runs(t, a, "abc", "", "abc")
	runs(t, a, "abcx", "あbcx", "")
	runs(t, a, "aba", "あb", "a")
	runs(t, a, "abcabcd", "あbcえ", "")
	// No rule: only the first key is written, the others begin anew.
	a = automaton(t, rules("abcd=え", "bcx=う", "c=ん"))
	runs(t, a, "abcx", "aう", "")
	runs(t, a, "abcy", "abんy", "")
	runs(t, a, "abcabcd", "abんえ", "")
	runs(t, a, "aabcd", "aえ", "")
	runs(t, a, "bca", "bん", "a")
	runs(t, a, "dcba", "dんb", "a")
	// Keys of a rule that a rule with fewer keys covers: the longer one never begins.
	a = automaton(t, rules("a=あ", "b=い", "ba=う"))
	runs(t, a, "aba", "あう", "")
	runs(t, a, "ab", "あ", "b")
	runs(t, a, "bb", "い", "b")
}

// P6.2, P6.3: a Next that is pending, that is written, and that leads to further rules.
func TestNext(t *testing.T) {
	a := automaton(t, rules("abcd=あ+abc", "abx=い+ab", "ay=う+a", "zz=+z", "z=え", "qqq=ー+qq", "qq=お+q", "rst=+zz"))
	runs(t, a, "abcd", "あ", "abc")
	runs(t, a, "abcdd", "ああ", "abc")
	runs(t, a, "abcdy", "あabcy", "")
	runs(t, a, "abx", "い", "ab")
	runs(t, a, "abxx", "いい", "ab")
	runs(t, a, "abxcd", "いあ", "abc")
	runs(t, a, "ayybx", "ううい", "ab")
	runs(t, a, "zz", "", "z")
	runs(t, a, "zzz", "", "z")
	runs(t, a, "zzzb", "えb", "")
	runs(t, a, "qqqw", "ーおqw", "")
	runs(t, a, "rst", "", "z")
	runs(t, a, "rstz", "", "z")
	runs(t, a, "rstw", "えw", "")
	flushes(t, a, "zz", "え")
	flushes(t, a, "zzzz", "え")
	flushes(t, a, "qqq", "ーおq")
	flushes(t, a, "qq", "おq")
	flushes(t, a, "abc", "abc")
	flushes(t, a, "abcd", "あabc")
	flushes(t, a, "rst", "え")
	// The Next leads from rule to rule at once.
	a = automaton(t, rules("wxyz=あ+abc", "abc=い+de", "de=う+f", "f=え", "mno=+de", "ee=お+p", "kkkk=ん+kkk"))
	runs(t, a, "wxyz", "あいうえ", "")
	runs(t, a, "wxy", "", "wxy")
	runs(t, a, "mno", "うえ", "")
	runs(t, a, "wxyzee", "あいうえおp", "")
	runs(t, a, "kkkkkk", "んんん", "kkk")
	flushes(t, a, "kkkkkk", "んんんkkk")
	steps(t, a, "wxy", 'z', "あいうえ", "")
	// What follows the keys of the rule is fed after the Next.
	a = automaton(t, rules("ab=あ+c", "abxx=ん", "cx=い", "cxy=う"))
	runs(t, a, "abxy", "あう", "")
	runs(t, a, "abxz", "あいz", "")
	runs(t, a, "abx", "", "abx")
	flushes(t, a, "abx", "あい")
	steps(t, a, "abx", 'y', "あう", "")
}

// P6.2: pending keys that are the beginning of no rule, or of any length.
func TestAnyPending(t *testing.T) {
	a := automaton(t, roman.Default())
	for _, c := range []struct {
		pending   string
		key       byte
		out, rest string
	}{
		{"ka", 'n', "か", "n"}, {"kaki", 'k', "かき", "k"}, {"q", 'a', "qあ", ""}, {"q", 'k', "q", "k"}, {"A", 'B', "AB", ""}, {"kk", 'a', "っか", ""}, {"nn", 'a', "んあ", ""}, {"nnn", 'a', "んな", ""}, {"a", 'a', "ああ", ""}, {"kyaky", 'a', "きゃきゃ", ""}, {"qky", 'a', "qきゃ", ""}, {"xtsux", 't', "っ", "xt"}, {"-", '-', "ーー", ""}, {"tc", 'h', "っ", "ch"}, {"konnichih", 'a', "こんいちは", ""}, {"ky", 'o', "きょ", ""},
	} {
		steps(t, a, c.pending, c.key, c.out, c.rest)
	}
	flushes(t, a, "kaki", "かき")
	flushes(t, a, "konnnichiha", "こんにちは")
	flushes(t, a, "kyakyak", "きゃきゃk")
	flushes(t, a, "kkn", "っkん")
	a = automaton(t, few())
	steps(t, a, "xyxyx", 'y', "あああ", "")
	steps(t, a, "nan", 'a', "なな", "")
	flushes(t, a, "xyxyx", "ああx")
}

// P6.2, P6.3: many keys, in time that grows in proportion to them.
func TestManyKeys(t *testing.T) {
	const many = 1 << 19
	a := automaton(t, roman.Default())
	runs(t, a, strings.Repeat("ka", many), strings.Repeat("か", many), "")
	runs(t, a, strings.Repeat("k", many), strings.Repeat("っ", many-1), "k")
	runs(t, a, strings.Repeat("x", many), strings.Repeat("x", many-1), "x")
	runs(t, a, strings.Repeat("A", many), strings.Repeat("A", many), "")
	runs(t, a, strings.Repeat(" ", many)+"k"+strings.Repeat("\x80", many)+"a", "か", "")
	steps(t, a, strings.Repeat("kyo", many), 'n', strings.Repeat("きょ", many), "n")
	steps(t, a, strings.Repeat("n", many+1), 'a', strings.Repeat("ん", many/2)+"な", "")
	steps(t, a, strings.Repeat("xt", many), 's', strings.Repeat("xt", many-1), "xts")
	steps(t, a, strings.Repeat("A", many), 'A', strings.Repeat("A", many+1), "")
	steps(t, a, strings.Repeat("ka\xFF", many), ' ', "", strings.Repeat("ka", many))
	flushes(t, a, strings.Repeat("kyo", many), strings.Repeat("きょ", many))
	flushes(t, a, strings.Repeat("xt", many), strings.Repeat("xt", many))
	flushes(t, a, strings.Repeat("n", many+1), strings.Repeat("ん", many/2+1))
	a = automaton(t, rules("kkkk=+kkk", "kkk=か+kk", "kk=き+k", "k=く"))
	runs(t, a, strings.Repeat("k", many), "", "kkk")
	steps(t, a, strings.Repeat("k", many), 'k', "", "kkk")
	flushes(t, a, strings.Repeat("k", many), "かきく")
}

// P6.2, P6.3: every byte alone, with nothing pending and while keys are pending; only the bytes from 33 to 126 are keys.
func TestEveryByte(t *testing.T) {
	l := roman.Default()
	a := automaton(t, l)
	for i := range 256 {
		b := byte(i)
		s := string([]byte{b})
		if i < 33 || i > 126 {
			runs(t, a, s, "", "")
			runs(t, a, "k"+s+"a", "か", "")
			runs(t, a, s+"n"+s+s, "", "n")
			flushes(t, a, s, "")
			flushes(t, a, "k"+s+"y", "ky")
			steps(t, a, "", b, "", "")
			steps(t, a, s, b, "", "")
			steps(t, a, s, 'a', "あ", "")
			steps(t, a, "n", b, "", "n")
			steps(t, a, "ka", b, "", "ka")
			steps(t, a, s+"k"+s+"y"+s, b, "", "ky")
			steps(t, a, s+"k"+s+"y"+s, 'a', "きゃ", "")
			continue
		}
		if out, pending := ran(l, s); out+pending == "" {
			t.Errorf("%q is lost", s)
		}
		for _, pending := range []string{"", "k", "ky", "n", "xts", "ka", "A"} {
			out, rest := stepped(l, pending, b)
			steps(t, a, pending, b, out, rest)
			steps(t, a, noKeys+pending, b, out, rest)
		}
		out, pending := ran(l, s)
		runs(t, a, s, out, pending)
		runs(t, a, noKeys+s+noKeys, out, pending)
		flushes(t, a, s, flushed(l, s))
		flushes(t, a, s+noKeys, flushed(l, s))
	}
}

// P6.2, P6.3: strings without keys.
func TestNoKeys(t *testing.T) {
	a := automaton(t, roman.Default())
	runs(t, a, "", "", "")
	runs(t, a, noKeys, "", "")
	runs(t, a, "か", "", "")
	flushes(t, a, "", "")
	flushes(t, a, noKeys, "")
	steps(t, a, noKeys, 0, "", "")
	for _, b := range []byte(noKeys) {
		steps(t, a, "", b, "", "")
	}
	runs(t, a, "k か y\x00\x7F\n\xFFa\x80", "きゃ", "")
}

// P6.3: flushing of no keys, of one and of several.
func TestFlush(t *testing.T) {
	a := automaton(t, roman.Default())
	for pending, want := range map[string]string{"": "", "k": "k", "n": "ん", "ky": "ky", "ny": "んy", "xts": "xts", "sh": "sh", "c": "c", "a": "あ", "nn": "ん", "nnn": "んん", "kk": "っk", "tc": "っc", "kya": "きゃ", "A": "A", "Ak": "Ak", "'": "'", "n'": "ん", "~": "~"} {
		flushes(t, a, pending, want)
	}
	a = automaton(t, rules("a=あ", "ab=い", "abc=う", "abcd=え", "bc=お", "c=ん"))
	for pending, want := range map[string]string{"a": "あ", "ab": "い", "abc": "う", "abcd": "え", "b": "b", "bc": "お", "c": "ん", "aab": "あい", "bab": "bい", "abcb": "うb", "abcab": "うい"} {
		flushes(t, a, pending, want)
	}
	// What is left of the pending keys can make a rule whose keys are pending again.
	a = automaton(t, rules("abc=あ+xy", "xyz=い", "xy=う", "abcd=ん"))
	flushes(t, a, "abc", "あう")
	flushes(t, a, "abcz", "あい")
	flushes(t, a, "abcx", "あうx")
	flushes(t, a, "abcd", "ん")
	flushes(t, a, "x", "x")
	runs(t, a, "abcz", "あい", "")
}

// P6.5: keys at once, and one after the other, with all keys of up to four bytes that some rules have.
func TestStepByStep(t *testing.T) {
	for _, l := range [][]roman.Rule{few(), rules("ab=あ+b", "ba=+a", "aab=い", "bbb=ん+aa", "n=お"), rules("a=あ", "aa=い+n", "nxy=う+na", "bxy=え+yx", "by=+y")} {
		a := automaton(t, l)
		all := []string{""}
		for i := 0; i < len(all); i++ {
			keys := all[i]
			out, pending := a.Run(keys)
			for _, key := range []byte("abnxy ") {
				more, rest := a.Step(pending, key)
				runs(t, a, keys+string(key), out+more, rest)
				if len(keys) < 5 && key != ' ' {
					all = append(all, keys+string(key))
				}
			}
		}
	}
}

// P6.6: what is left is the beginning of a rule that has more keys.
func TestWhatIsPending(t *testing.T) {
	r := rand.New(rand.NewSource(1))
	left := 0
	for range 500 {
		l := someRules(r, 12, "abc", "あい")
		a, m := automaton(t, l), &machine{rules: l}
		for range 100 {
			_, pending := a.Run(anyBytes(r, "aaabbbcccd", 12))
			if pending != "" && !m.begins(pending) {
				t.Errorf("%q: %q is pending", l, pending)
			}
			if pending != "" {
				left++
			}
			if _, rest := a.Step(pending, "abcd "[r.Intn(5)]); rest != "" && !m.begins(rest) {
				t.Errorf("%q: %q is pending after %q", l, rest, pending)
			}
		}
	}
	if left < 10000 {
		t.Errorf("keys are pending only %d times", left)
	}
}

// P6.7: no rules, and keys that occur in no rule.
func TestOtherKeys(t *testing.T) {
	var every []byte
	for b := range 256 {
		every = append(every, byte(b))
	}
	for _, l := range [][]roman.Rule{nil, {}} {
		a := automaton(t, l)
		runs(t, a, string(every), allKeys, "")
		flushes(t, a, string(every), allKeys)
		steps(t, a, string(every), 'a', allKeys+"a", "")
		for i := range allKeys {
			runs(t, a, allKeys[i:i+1], allKeys[i:i+1], "")
			steps(t, a, "", allKeys[i], allKeys[i:i+1], "")
		}
	}
	used := ""
	for _, r := range roman.Default() {
		used += r.Keys
	}
	a := automaton(t, roman.Default())
	for i := range allKeys {
		key := allKeys[i : i+1]
		if strings.Contains(used, key) {
			continue
		}
		runs(t, a, key, key, "")
		runs(t, a, "ka"+key+"n"+key+"kk"+key, "か"+key+"ん"+key+"っk"+key, "")
		steps(t, a, "", allKeys[i], key, "")
		steps(t, a, "xts", allKeys[i], "xts"+key, "")
		steps(t, a, "n", allKeys[i], "ん"+key, "")
		flushes(t, a, key, key)
	}
}

// P6.2, P6.3, P6.5: random rules and bytes, against the definitions.
func TestRandom(t *testing.T) {
	r := rand.New(rand.NewSource(2))
	for i := range 3000 {
		l := someRules(r, 1+r.Intn(20), "abcd"[:1+r.Intn(4)], "あいー")
		if i%100 == 0 {
			l = roman.Default()
		}
		a := automaton(t, l)
		for range 30 {
			keys, pending, key := anyBytes(r, "abcd", 20), anyBytes(r, "aabbcdknye", 8), anyBytes(r, "abcdenky", 1)+"a"
			out, rest := ran(l, keys)
			runs(t, a, keys, out, rest)
			out, rest = stepped(l, pending, key[0])
			steps(t, a, pending, key[0], out, rest)
			flushes(t, a, pending, flushed(l, pending))
			cut := r.Intn(len(keys) + 1)
			out, rest = a.Run(keys[:cut])
			for _, b := range []byte(keys[cut:]) {
				var more string
				more, rest = a.Step(rest, b)
				out += more
			}
			runs(t, a, keys, out, rest)
		}
		if t.Failed() {
			t.Fatalf("rules %q", l)
		}
	}
}

// P6.1: rules that are allowed, as many as can be.
func TestNew(t *testing.T) {
	var l []roman.Rule
	const letters = "abcdefghijklmnopqrstuvwxyz"
	for i := range api.MaxRules {
		l = append(l, roman.Rule{Keys: string([]byte{letters[i/26], letters[i%26]}), Out: "あ"})
	}
	runs(t, automaton(t, l), "aaabzzth", "ああzzt", "h")
	runs(t, automaton(t, l[:1]), "aaab", "あab", "")
	runs(t, automaton(t, rules("kkkk=かきくけ+kkk")), "kkkkk", "かきくけかきくけ", "kkk")
	runs(t, automaton(t, rules("-=ー", ",=、", ".=。", "'=ん", ".-=んー+'")), "-,'..-", "ー、ん。んーん", "")
	slices.Reverse(l)
	runs(t, automaton(t, l), "aaabzzth", "ああzzt", "h")
}

// P6.1: rules that are not allowed, with each error of roman.Check.
func TestNotAllowed(t *testing.T) {
	refused := func(l []roman.Rule, want api.Errno) {
		t.Helper()
		if a, e := auto.New(l); a != nil || e != want {
			t.Errorf("New of %.300q (%d rules): %v, %d, want %d", l, len(l), a, e, want)
		}
		if e := roman.Check(l); e != want {
			t.Errorf("Check of %.300q (%d rules): %d, want %d", l, len(l), e, want)
		}
	}
	for _, s := range []string{"=か", "k=", "k", "kyaaa=か", "K=か", "k =か", "か=か", "\x00=か", "\xFF=か", "k=カ", "k=か ", "k=k", "k=\xFF", "k=\xE3\x81", "k=あいうえお", "k=か+k", "kk=か+kk", "kk=+K", "kk=か+か", "kk=か+ ", "kyaa=か+kyaa"} {
		l := rules(s)
		refused(l, api.ErrRule)
		refused(append(few(), l...), api.ErrRule)
		refused(append(l, few()...), api.ErrRule)
	}
	refused(rules("a=あ", "a=あ"), api.ErrRule)
	refused(append(few(), rules("na=に")...), api.ErrRule)
	refused(make([]roman.Rule, 500), api.ErrRule)
	refused(make([]roman.Rule, 501), api.ErrLong)
	refused(append(make([]roman.Rule, 500), few()...), api.ErrLong)
	refused(slices.Concat(roman.Default(), roman.Default(), roman.Default(), roman.Default()), api.ErrLong)
}

// P6.1: the list is not changed, is not read behind its end, and can be changed afterwards, and so can the memory of its strings (rule R3).
func TestListIsNotKept(t *testing.T) {
	l := append(few(), rules("k=か", "K=か")...)
	before := slices.Clone(l)
	part := l[:len(l)-2]
	a := automaton(t, part)
	if !slices.Equal(l, before) {
		t.Errorf("%q, before %q", l, before)
	}
	runs(t, a, "nnakK", "んあkK", "")
	for i := range l {
		l[i] = roman.Rule{Keys: "ab", Out: "い", Next: "b"}
	}
	runs(t, a, "nnaxyabk", "んあああbk", "")
	clear(l)
	runs(t, a, "nnaxyabk", "んあああbk", "")
	memory := []byte("xyあa")
	s := unsafe.String(&memory[0], len(memory))
	a = automaton(t, []roman.Rule{{Keys: s[:2], Out: s[2:5], Next: s[5:]}, {Keys: "ab", Out: "い"}})
	runs(t, a, "xyb", "あい", "")
	for i := range memory {
		memory[i] = 'b'
	}
	runs(t, a, "xyb", "あい", "")
	runs(t, a, "xbb", "xbb", "")
}

// P6.2, P6.3, P6.4: results are new memory (rule R3).
func TestNewMemory(t *testing.T) {
	shares := func(s, other string) bool {
		begin, otherBegin := uintptr(unsafe.Pointer(unsafe.StringData(s))), uintptr(unsafe.Pointer(unsafe.StringData(other)))
		return s != "" && other != "" && begin < otherBegin+uintptr(len(other)) && otherBegin < begin+uintptr(len(s))
	}
	l := rules("kkk=っ+kk", "ka=か", "kyaa=きゃ", "bb=ん+k", "cccc=んんん+bbb")
	a := automaton(t, l)
	var arguments, results []string
	for _, r := range l {
		arguments = append(arguments, r.Keys, r.Out, r.Next)
	}
	for _, s := range []string{"k", "kk", "kkk", "ky", "kya", "kyaa", "bb", "b", "cccc", "AB", "kaka", "qqq"} {
		for range 2 {
			keys := strings.Clone(s)
			out, pending := a.Run(keys)
			more, rest := a.Step(keys, 'k')
			again, same := a.Step(keys, ' ')
			typed, _ := a.Type(out)
			arguments = append(arguments, keys)
			results = append(results, out, pending, more, rest, again, same, a.Flush(keys))
			if len(typed) > 1 {
				results = append(results, typed)
			}
		}
	}
	for i, s := range results {
		for _, other := range slices.Concat(arguments, results[:i]) {
			if shares(s, other) {
				t.Errorf("%q shares memory with %q", s, other)
			}
		}
	}
}

// P6.2, P6.3, P6.4: results are zero values on a nil Auto.
func TestNil(t *testing.T) {
	var a *auto.Auto
	for _, s := range []string{"", "a", "ka", "A", "あ", " ", "\xFF"} {
		runs(t, a, s, "", "")
		flushes(t, a, s, "")
		for b := range 256 {
			steps(t, a, s, byte(b), "", "")
		}
		cannotType(t, a, s)
	}
}

// Calls do not change the automaton (rule R4).
func TestNoState(t *testing.T) {
	a, other := automaton(t, roman.Default()), automaton(t, few())
	for range 3 {
		runs(t, a, "kky", "っ", "ky")
		runs(t, other, "kky", "kky", "")
		steps(t, a, "n", 'k', "ん", "k")
		flushes(t, a, "ky", "ky")
		flushes(t, other, "n", "ん")
		types(t, a, "んか", "nka")
		types(t, other, "んあ", "nna")
		cannotType(t, other, "か")
	}
}
