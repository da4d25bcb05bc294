package roman_test

import (
	"slices"
	"testing"
	"unsafe"

	"henkan/api"
	"henkan/roman"
)

// P5.4: the rules of the document are these 162, in ascending order of their keys.
func TestDefault(t *testing.T) {
	want := documented()
	if len(want) != 162 {
		t.Fatalf("%d rules are written out", len(want))
	}
	l := roman.Default()
	if len(l) != len(want) {
		t.Errorf("%d rules", len(l))
	}
	for i := range min(len(l), len(want)) {
		if l[i] != want[i] {
			t.Errorf("rule %d: %q, want %q", i, l[i], want[i])
		}
		if i > 0 && l[i-1].Keys >= l[i].Keys {
			t.Errorf("%q before %q", l[i-1].Keys, l[i].Keys)
		}
	}
	checks(t, l, api.OK)
}

// P5.4: rows of the document's table and other rules, as they stand in the chapter.
func TestDefaultRows(t *testing.T) {
	l := roman.Default()
	for _, r := range []roman.Rule{
		{Keys: "a", Out: "あ"}, {Keys: "sha", Out: "しゃ"}, {Keys: "shi", Out: "し"}, {Keys: "si", Out: "し"}, {Keys: "she", Out: "しぇ"}, {Keys: "chi", Out: "ち"}, {Keys: "tsu", Out: "つ"}, {Keys: "fa", Out: "ふぁ"}, {Keys: "fu", Out: "ふ"}, {Keys: "wo", Out: "を"}, {Keys: "ji", Out: "じ"}, {Keys: "zi", Out: "じ"}, {Keys: "di", Out: "ぢ"}, {Keys: "du", Out: "づ"}, {Keys: "vu", Out: "ゔ"},
		{Keys: "xa", Out: "ぁ"}, {Keys: "xya", Out: "ゃ"}, {Keys: "xtu", Out: "っ"}, {Keys: "xtsu", Out: "っ"}, {Keys: "sya", Out: "しゃ"}, {Keys: "tyu", Out: "ちゅ"}, {Keys: "zyo", Out: "じょ"}, {Keys: "dya", Out: "ぢゃ"}, {Keys: "pyo", Out: "ぴょ"},
		{Keys: "n", Out: "ん"}, {Keys: "nn", Out: "ん"}, {Keys: "n'", Out: "ん"}, {Keys: "-", Out: "ー"}, {Keys: ",", Out: "、"}, {Keys: ".", Out: "。"}, {Keys: "kk", Out: "っ", Next: "k"}, {Keys: "cc", Out: "っ", Next: "c"}, {Keys: "tc", Out: "っ", Next: "c"}, {Keys: "vv", Out: "っ", Next: "v"},
	} {
		finds(t, l, r.Keys, r)
	}
	for _, keys := range []string{"yi", "ye", "wi", "wu", "we", "va", "vi", "ve", "vo", "xyi", "xye", "tsa", "xta", "ca", "la", "qa", "nyi", "jya", "fya", "vya", "wya", "yya", "aa", "ll", "qq", "xx", "--", "tch"} {
		misses(t, l, keys)
	}
}

// usesMemory reports whether a byte of s is one of those of a string of l.
func usesMemory(l []roman.Rule, s string) bool {
	begin := func(s string) uintptr { return uintptr(unsafe.Pointer(unsafe.StringData(s))) }
	return slices.ContainsFunc(l, func(r roman.Rule) bool {
		return slices.ContainsFunc([]string{r.Keys, r.Out, r.Next}, func(part string) bool {
			return part != "" && s != "" && begin(part) < begin(s)+uintptr(len(s)) && begin(s) < begin(part)+uintptr(len(part))
		})
	})
}

// P5.2, P5.4, P5.5: results are new memory (rule R3).
func TestNewMemory(t *testing.T) {
	s := text(documented())
	for name, list := range map[string]func() []roman.Rule{
		"Default": roman.Default,
		"Parse":   func() []roman.Rule { l, _, _ := roman.Parse(s); return l },
	} {
		one, two := list(), list()
		for _, r := range one {
			if usesMemory(two, r.Keys) || usesMemory(two, r.Out) || usesMemory(two, r.Next) {
				t.Errorf("%s: two results share the memory of %q", name, r)
			}
			found, _ := roman.Find(one, r.Keys)
			if usesMemory(one, found.Keys) || usesMemory(one, found.Out) || usesMemory(one, found.Next) {
				t.Errorf("Find: the result shares the memory of %q", r)
			}
		}
		if usesMemory(one, s) {
			t.Errorf("%s: the result shares memory with the text", name)
		}
		clear(one)
		one = append(one[:3], roman.Rule{Keys: "x", Out: "x", Next: "x"})
		if three := list(); !slices.Equal(two, documented()) || !slices.Equal(three, documented()) {
			t.Errorf("%s: %q and %q after %q", name, two, three, one)
		}
	}
}
