package roman_test

import (
	"math/rand"
	"regexp"
	"slices"
	"strings"

	"henkan/api"
	"henkan/roman"
)

// The tests hold the package against a second reading of the chapter: regular expressions for rules and lines, lists that are searched from their beginning, and the document's rules written out.

// allKeys and allKana are the keys and the kana of the chapter.
const (
	allKeys = "abcdefghijklmnopqrstuvwxyz-,.'"
	allKana = "ぁあぃいぅうぇえぉおかがきぎくぐけげこごさざしじすずせぜそぞただちぢっつづてでとどなにぬねのはばぱひびぴふぶぷへべぺほぼぽまみむめもゃやゅゆょよらりるれろゎわゐゑをんゔゕゖー、。"
)

// documentRules are the rules of the document in their order: the keys, what they write, and the keys that are pending then.
const documentRules = `
,=、
-=ー
.=。
a=あ
ba=ば bb=っ+b be=べ bi=び bo=ぼ bu=ぶ bya=びゃ byo=びょ byu=びゅ
cc=っ+c cha=ちゃ che=ちぇ chi=ち cho=ちょ chu=ちゅ
da=だ dd=っ+d de=で di=ぢ do=ど du=づ dya=ぢゃ dyo=ぢょ dyu=ぢゅ
e=え
fa=ふぁ fe=ふぇ ff=っ+f fi=ふぃ fo=ふぉ fu=ふ
ga=が ge=げ gg=っ+g gi=ぎ go=ご gu=ぐ gya=ぎゃ gyo=ぎょ gyu=ぎゅ
ha=は he=へ hh=っ+h hi=ひ ho=ほ hu=ふ hya=ひゃ hyo=ひょ hyu=ひゅ
i=い
ja=じゃ je=じぇ ji=じ jj=っ+j jo=じょ ju=じゅ
ka=か ke=け ki=き kk=っ+k ko=こ ku=く kya=きゃ kyo=きょ kyu=きゅ
ma=ま me=め mi=み mm=っ+m mo=も mu=む mya=みゃ myo=みょ myu=みゅ
n=ん n'=ん na=な ne=ね ni=に nn=ん no=の nu=ぬ nya=にゃ nyo=にょ nyu=にゅ
o=お
pa=ぱ pe=ぺ pi=ぴ po=ぽ pp=っ+p pu=ぷ pya=ぴゃ pyo=ぴょ pyu=ぴゅ
ra=ら re=れ ri=り ro=ろ rr=っ+r ru=る rya=りゃ ryo=りょ ryu=りゅ
sa=さ se=せ sha=しゃ she=しぇ shi=し sho=しょ shu=しゅ si=し so=そ ss=っ+s su=す sya=しゃ syo=しょ syu=しゅ
ta=た tc=っ+c te=て ti=ち to=と tsu=つ tt=っ+t tu=つ tya=ちゃ tyo=ちょ tyu=ちゅ
u=う
vu=ゔ vv=っ+v
wa=わ wo=を ww=っ+w
xa=ぁ xe=ぇ xi=ぃ xo=ぉ xtsu=っ xtu=っ xu=ぅ xya=ゃ xyo=ょ xyu=ゅ
ya=や yo=よ yu=ゆ yy=っ+y
za=ざ ze=ぜ zi=じ zo=ぞ zu=ず zya=じゃ zyo=じょ zyu=じゅ zz=っ+z
`

// Rules and lines as regular expressions, but for what compares two words.
var (
	someKeys = regexp.MustCompile(`^[a-z,.'-]{1,4}$`)
	someKana = regexp.MustCompile(`^[ぁ-ゖー、。]{0,4}$`)
	someNext = regexp.MustCompile(`^[a-z,.'-]{0,3}$`)
	skipped  = regexp.MustCompile(`^(#[^\n]*)?$`)
	words    = regexp.MustCompile(`^([^\t]*)\t([^\t]*)(\t[^\t]+)?$`)
)

// documented returns the rules of the document.
func documented() []roman.Rule {
	var l []roman.Rule
	for _, s := range strings.Fields(documentRules) {
		keys, written, _ := strings.Cut(s, "=")
		out, next, _ := strings.Cut(written, "+")
		l = append(l, roman.Rule{Keys: keys, Out: out, Next: next})
	}
	return l
}

// allowed reports whether a rule is allowed.
func allowed(r roman.Rule) bool {
	return someKeys.MatchString(r.Keys) && someKana.MatchString(r.Out) && someNext.MatchString(r.Next) && len(r.Next) < len(r.Keys) && len(r.Out)+len(r.Next) > 0
}

// indexOf returns the place of the first rule with these keys, or -1.
func indexOf(l []roman.Rule, keys string) int {
	return slices.IndexFunc(l, func(r roman.Rule) bool { return r.Keys == keys })
}

// checked is what Check returns.
func checked(l []roman.Rule) api.Errno {
	if len(l) > 500 {
		return api.ErrLong
	}
	for i, r := range l {
		if !allowed(r) || indexOf(l, r.Keys) != i {
			return api.ErrRule
		}
	}
	return api.OK
}

// parsed is what Parse returns; lines are taken off the text one by one.
func parsed(text string) ([]roman.Rule, int, api.Errno) {
	if len(text) > 1048576 {
		return nil, 0, api.ErrLong
	}
	var l []roman.Rule
	rest := text + "\n"
	for number := 1; rest != ""; number++ {
		var line string
		line, rest, _ = strings.Cut(rest, "\n")
		if skipped.MatchString(line) {
			continue
		}
		part := words.FindStringSubmatch(line)
		if part == nil {
			return nil, number, api.ErrRule
		}
		r := roman.Rule{Keys: part[1], Out: part[2], Next: strings.TrimPrefix(part[3], "\t")}
		if !allowed(r) || indexOf(l, r.Keys) >= 0 || len(l) == 500 {
			return nil, number, api.ErrRule
		}
		l = append(l, r)
	}
	return l, 0, api.OK
}

// line returns the line of a rule, without its end.
func line(r roman.Rule) string {
	if r.Next == "" {
		return r.Keys + "\t" + r.Out
	}
	return strings.Join([]string{r.Keys, r.Out, r.Next}, "\t")
}

// text returns the lines of rules.
func text(l []roman.Rule) string {
	s := ""
	for _, r := range l {
		s += line(r) + "\n"
	}
	return s
}

// some returns least to most characters of l; they depend only on the state of r.
func some(r *rand.Rand, l []rune, least, most int) string {
	s := make([]rune, least+r.Intn(most-least+1))
	for i := range s {
		s[i] = l[r.Intn(len(l))]
	}
	return string(s)
}

// someRule returns an allowed rule, all of whose lengths occur.
func someRule(r *rand.Rand) roman.Rule {
	keys, kana := []rune(allKeys), []rune(allKana)
	for {
		rule := roman.Rule{Keys: some(r, keys, 1, 4), Out: some(r, kana, 0, 4), Next: some(r, keys, 0, 3)}
		if allowed(rule) {
			return rule
		}
	}
}

// someRules returns n rules that are allowed together.
func someRules(r *rand.Rand, n int) []roman.Rule {
	var l []roman.Rule
	for len(l) < n {
		if rule := someRule(r); indexOf(l, rule.Keys) < 0 {
			l = append(l, rule)
		}
	}
	return l
}

// broken are rules that are not allowed, each of them for one reason.
func broken() []roman.Rule {
	l := []roman.Rule{
		// No keys, and too many.
		{Keys: "", Out: "か", Next: ""}, {Keys: "kyaaa", Out: "か", Next: ""}, {Keys: "kyaaa", Out: "", Next: "k"}, {Keys: "kakikukeko", Out: "か", Next: "ka"}, {Keys: strings.Repeat("k", 1000), Out: "か", Next: ""},
		// Next has as many keys as Keys, or more.
		{Keys: "k", Out: "か", Next: "k"}, {Keys: "k", Out: "", Next: "k"}, {Keys: "k", Out: "か", Next: "ab"}, {Keys: "kk", Out: "っ", Next: "kk"}, {Keys: "kk", Out: "", Next: "kkk"}, {Keys: "kya", Out: "きゃ", Next: "abc"},
		{Keys: "kya", Out: "", Next: "kyaa"}, {Keys: "kyaa", Out: "か", Next: "kyaa"}, {Keys: "kyaa", Out: "", Next: "abcd"}, {Keys: "kyaa", Out: "か", Next: "abcde"}, {Keys: "kyaa", Out: "か", Next: strings.Repeat("k", 1000)},
		// Nothing is written, and nothing is pending.
		{Keys: "k", Out: "", Next: ""}, {Keys: "kk", Out: "", Next: ""}, {Keys: "kya", Out: "", Next: ""}, {Keys: "kyaa", Out: "", Next: ""},
		// Too many kana.
		{Keys: "k", Out: "あいうえお", Next: ""}, {Keys: "kk", Out: "ーーーーー", Next: "k"}, {Keys: "kyaa", Out: "あいうえ。", Next: "abc"}, {Keys: "k", Out: strings.Repeat("あ", 1000), Next: ""},
	}
	for _, s := range []string{"K", "A", "Z", "1", "0", " ", "\t", "\n", "\r", "\x00", "\x7F", "`", "{", "@", "[", "_", "/", "(", "&", "+", "#", ";", ":", "!", "\"", "か", "ー", "ａ", "é", "\x80", "\xFF", "\xE3\x81", "\uFFFD", "k k", "k\t", " k", "k\n", "kK", "kあ", "k\xFF", "aB", "a#"} {
		l = append(l, roman.Rule{Keys: s, Out: "か", Next: ""}, roman.Rule{Keys: "kyaa", Out: "か", Next: s}, roman.Rule{Keys: "kyaa", Out: "", Next: s})
	}
	for _, s := range []string{"カ", "ヴ", "ｶ", "漢", "々", "〆", "Ａ", "a", "k", "-", ",", ".", "'", " ", "\t", "\n", "\r", "\x00", "\u3000", "\u3003", "\u3040", "\u3097", "\u3098", "\u3099", "\u309A", "゛", "゜", "ゝ", "ゞ", "\u309F", "・", "ヽ", "ヾ", "\u30A0", "ァ", "ｰ", "｡", "､", "か\u3099", "か a", "あ ", " あ", "あ\t", "あ\n", "あいう漢", "カあいう", "あ\u3040い", "\x80", "\xFF", "\uFFFD", "\xE3\x81", "\xE3", "あ\xE3\x81", "\xE3\x81あ", "あ\xFF", "\xFFあ", "\xED\xA0\x80", "\xC0\x80", "あ\xF0\x9F", "\xF4\x90\x80\x80", "😀"} {
		l = append(l, roman.Rule{Keys: "k", Out: s, Next: ""}, roman.Rule{Keys: "kyaa", Out: s, Next: "abc"})
	}
	return l
}

// unbroken are rules that are barely allowed, with distinct keys.
func unbroken() []roman.Rule {
	return []roman.Rule{
		{Keys: "a", Out: "あ", Next: ""}, {Keys: "z", Out: "ゖ", Next: ""}, {Keys: "-", Out: "ー", Next: ""}, {Keys: ",", Out: "、", Next: ""}, {Keys: ".", Out: "。", Next: ""}, {Keys: "'", Out: "ぁ", Next: ""},
		{Keys: "b", Out: "ーーーー", Next: ""}, {Keys: "kk", Out: "", Next: "k"}, {Keys: "kkk", Out: "", Next: "kk"}, {Keys: "kkkk", Out: "", Next: "kkk"}, {Keys: "zzzz", Out: "ゔゕゖん", Next: "zzz"},
		{Keys: "aaaa", Out: "っ", Next: "a"}, {Keys: "--", Out: "。", Next: "'"}, {Keys: ",.'-", Out: "ゐゑを", Next: ",.'"}, {Keys: "....", Out: "、。ー", Next: "---"}, {Keys: "ka", Out: "ああああ", Next: ""}, {Keys: "kaka", Out: "かか", Next: ""},
	}
}
