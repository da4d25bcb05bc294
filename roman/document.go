package roman

import (
	"slices"
	"strings"
)

// vowels are the keys of the columns of the document's table, from the first one on. Where small kana follow, it is the kana of contractedVowel that they follow.
const (
	vowels          = "aiueo"
	contractedVowel = "i"
)

// The letters of the rows whose kana are followed by small kana, and the keys that are typed twice for the kana smallTsu.
const (
	contracted = "kstnhmrgzdbp"
	doubled    = "bcdfghjkmprstvwyz"
	smallTsu   = "っ"
)

// row is a row of the document's table: its letters, and what they write with each vowel; nothing where there is no rule.
type row struct {
	letters string
	kana    [5]string
}

// Default returns the rules of the document.
func Default() []Rule {
	var l []Rule
	add := func(keys, out, next string) { l = append(l, fresh(Rule{keys, out, next})) }
	for _, r := range rows() {
		for i, kana := range r.kana {
			if kana != "" {
				add(r.letters+vowels[i:i+1], kana, "")
			}
		}
	}
	for _, c := range contracted {
		first, _ := Find(l, string(c)+contractedVowel)
		add(string(c)+"ya", first.Out+"ゃ", "")
		add(string(c)+"yu", first.Out+"ゅ", "")
		add(string(c)+"yo", first.Out+"ょ", "")
	}
	for _, c := range doubled {
		add(string(c)+string(c), smallTsu, string(c))
	}
	add("tc", smallTsu, "c")
	for _, keys := range [3]string{"n", "nn", "n'"} {
		add(keys, "ん", "")
	}
	add("-", "ー", "")
	add(",", "、", "")
	add(".", "。", "")
	slices.SortFunc(l, func(a, b Rule) int { return strings.Compare(a.Keys, b.Keys) })
	return l
}

// rows returns the document's table.
func rows() []row {
	return []row{
		{"", [5]string{"あ", "い", "う", "え", "お"}},
		{"k", [5]string{"か", "き", "く", "け", "こ"}},
		{"s", [5]string{"さ", "し", "す", "せ", "そ"}},
		{"sh", [5]string{"しゃ", "し", "しゅ", "しぇ", "しょ"}},
		{"t", [5]string{"た", "ち", "つ", "て", "と"}},
		{"ch", [5]string{"ちゃ", "ち", "ちゅ", "ちぇ", "ちょ"}},
		{"ts", [5]string{"", "", "つ", "", ""}},
		{"n", [5]string{"な", "に", "ぬ", "ね", "の"}},
		{"h", [5]string{"は", "ひ", "ふ", "へ", "ほ"}},
		{"f", [5]string{"ふぁ", "ふぃ", "ふ", "ふぇ", "ふぉ"}},
		{"m", [5]string{"ま", "み", "む", "め", "も"}},
		{"y", [5]string{"や", "", "ゆ", "", "よ"}},
		{"r", [5]string{"ら", "り", "る", "れ", "ろ"}},
		{"w", [5]string{"わ", "", "", "", "を"}},
		{"g", [5]string{"が", "ぎ", "ぐ", "げ", "ご"}},
		{"z", [5]string{"ざ", "じ", "ず", "ぜ", "ぞ"}},
		{"j", [5]string{"じゃ", "じ", "じゅ", "じぇ", "じょ"}},
		{"d", [5]string{"だ", "ぢ", "づ", "で", "ど"}},
		{"b", [5]string{"ば", "び", "ぶ", "べ", "ぼ"}},
		{"p", [5]string{"ぱ", "ぴ", "ぷ", "ぺ", "ぽ"}},
		{"v", [5]string{"", "", "ゔ", "", ""}},
		{"x", [5]string{"ぁ", "ぃ", "ぅ", "ぇ", "ぉ"}},
		{"xy", [5]string{"ゃ", "", "ゅ", "", "ょ"}},
		{"xt", [5]string{"", "", "っ", "", ""}},
		{"xts", [5]string{"", "", "っ", "", ""}},
	}
}
