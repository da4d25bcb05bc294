package mode_test

import (
	"math/rand"
	"strings"
	"testing"

	"henkan/kana"
	"henkan/mode"
)

// hasForm checks one call of Form that returns a form.
func hasForm(t *testing.T, n int, typed, raw, want string) {
	t.Helper()
	if got, ok := mode.Form(n, typed, raw); got != want || !ok {
		t.Errorf("form %d of %+.200q and %+.200q: %+.200q %v, want %+.200q", n, typed, raw, got, ok, want)
	}
}

// noForm checks one call of Form that returns none.
func noForm(t *testing.T, n int, typed, raw string) {
	t.Helper()
	if got, ok := mode.Form(n, typed, raw); got != "" || ok {
		t.Errorf("form %d of %+.200q and %+.200q: %+.200q %v, want none", n, typed, raw, got, ok)
	}
}

// forms checks the forms 6 to 10, in this order.
func forms(t *testing.T, typed, raw string, want [5]string) {
	t.Helper()
	for i, s := range want {
		hasForm(t, 6+i, typed, raw, s)
	}
}

// P7.5: forms written out; for each row also the numbers that are no forms.
func TestForm(t *testing.T) {
	for _, x := range []struct {
		typed, raw string
		want       [5]string
	}{
		{"", "", [5]string{"", "", "", "", ""}},
		{"かな", "", [5]string{"かな", "カナ", "ｶﾅ", "", ""}},
		{"", "kana", [5]string{"", "", "", "ｋａｎａ", "kana"}},
		{"かな", "xyz", [5]string{"かな", "カナ", "ｶﾅ", "ｘｙｚ", "xyz"}},
		{"ニほン", "nihon", [5]string{"にほん", "ニホン", "ﾆﾎﾝ", "ｎｉｈｏｎ", "nihon"}},
		{"ばん", "ban", [5]string{"ばん", "バン", "ﾊﾞﾝ", "ｂａｎ", "ban"}},
		{"ー、。「」・", "-,.[]/", [5]string{"ー、。「」・", "ー、。「」・", "ｰ､｡｢｣･", "－，．［］／", "-,.[]/"}},
		// Kana in both widths.
		{"ｶﾞｯｺｳ", "gakkou", [5]string{"がっこう", "ガッコウ", "ｶﾞｯｺｳ", "ｇａｋｋｏｕ", "gakkou"}},
		{"がガｶﾞ", "ga", [5]string{"ががが", "ガガガ", "ｶﾞｶﾞｶﾞ", "ｇａ", "ga"}},
		{"ゔヴｳﾞ", "vu", [5]string{"ゔゔゔ", "ヴヴヴ", "ｳﾞｳﾞｳﾞ", "ｖｕ", "vu"}},
		{"ぱパﾊﾟ", "pa", [5]string{"ぱぱぱ", "パパパ", "ﾊﾟﾊﾟﾊﾟ", "ｐａ", "pa"}},
		{"ｰ､｡｢｣･", "A", [5]string{"ー、。「」・", "ー、。「」・", "ｰ､｡｢｣･", "Ａ", "A"}},
		{"ゎヮゐヰゑヱゕヵゖヶ", "wa", [5]string{"ゎゎゐゐゑゑゕゕゖゖ", "ヮヮヰヰヱヱヵヵヶヶ", "ゎヮゐヰゑヱゕヵゖヶ", "ｗａ", "wa"}},
		// Marks that stand alone, or behind a kana of which they are no marks.
		{"ﾞ", "1", [5]string{"゛", "゛", "ﾞ", "１", "1"}},
		{"ﾟｱﾞﾟ", "1", [5]string{"゜あ゛゜", "゜ア゛゜", "ﾟｱﾞﾟ", "１", "1"}},
		{"か゛は゜", "1", [5]string{"か゛は゜", "カ゛ハ゜", "ｶ゛ﾊ゜", "１", "1"}},
		{"かﾞカﾞ", "1", [5]string{"か゛か゛", "カ゛カ゛", "ｶﾞｶﾞ", "１", "1"}},
		{"ｶﾟﾊﾞﾟ", "1", [5]string{"か゜ば゜", "カ゜バ゜", "ｶﾟﾊﾞﾟ", "１", "1"}},
		{"か\u3099", "1", [5]string{"か\u3099", "カ\u3099", "ｶ\u3099", "１", "1"}},
		// Keys, and what is no key: kana and full-width letters in both arguments.
		{"kかA\u3000ａ亜", "kかA\u3000ａ亜", [5]string{"kかA\u3000ａ亜", "kカA\u3000ａ亜", "kｶA\u3000ａ亜", "ｋかＡ\u3000ａ亜", "kかA a亜"}},
		{"カﾞｶ", "カﾞｶ", [5]string{"か゛か", "カ゛カ", "ｶﾞｶ", "カﾞｶ", "カﾞｶ"}},
		{"ｎ1 ~", "ｎ1 ~", [5]string{"ｎ1 ~", "ｎ1 ~", "ｎ1 ~", "ｎ１\u3000\uFF5E", "n1 ~"}},
		{"\u0000\u001F\u007F\n", "\u0000\u001F\u007F\na", [5]string{"\u0000\u001F\u007F\n", "\u0000\u001F\u007F\n", "\u0000\u001F\u007F\n", "\u0000\u001F\u007F\nａ", "\u0000\u001F\u007F\na"}},
		// Strings that are not valid stay, in one argument or both.
		{"ｶﾞ\xFF", "ga", [5]string{"ｶﾞ\xFF", "ｶﾞ\xFF", "ｶﾞ\xFF", "ｇａ", "ga"}},
		{"ガ", "ga\xFF", [5]string{"が", "ガ", "ｶﾞ", "ga\xFF", "ga\xFF"}},
		{"\xE3\x81ガ", "\x80ａa", [5]string{"\xE3\x81ガ", "\xE3\x81ガ", "\xE3\x81ガ", "\x80ａa", "\x80ａa"}},
		{"\xED\xA0\x80", "\xC0\x80", [5]string{"\xED\xA0\x80", "\xED\xA0\x80", "\xED\xA0\x80", "\xC0\x80", "\xC0\x80"}},
	} {
		forms(t, x.typed, x.raw, x.want)
		for _, n := range noForms {
			noForm(t, n, x.typed, x.raw)
		}
	}
}

// P7.5: all numbers near the forms.
func TestFormNumbers(t *testing.T) {
	for n := -1000; n <= 1000; n++ {
		for _, x := range [][2]string{{"", ""}, {"ニほン", "nihon"}, {"\xFF", "\xFF"}} {
			if got, ok := mode.Form(n, x[0], x[1]); ok != (6 <= n && n <= 10) || !ok && got != "" {
				t.Errorf("form %d of %+q: %+q %v", n, x, got, ok)
			}
		}
	}
}

// P7.5: texts of all kinds in both arguments, by the functions that the chapter names.
func TestFormTexts(t *testing.T) {
	l := append(texts(4, 3000), hiragana, katakana, narrow, wide)
	for i, typed := range l {
		raw := l[(i*7+3)%len(l)]
		full := kana.Full(typed)
		forms(t, typed, raw, [5]string{kana.Hira(full), kana.Kata(full), kana.Half(typed), kana.Wide(raw), kana.Narrow(raw)})
		noForm(t, noForms[i%len(noForms)], typed, raw)
	}
	forms(t, strings.Repeat("ｶﾞゐ", 50000), strings.Repeat("ka", 50000), [5]string{strings.Repeat("がゐ", 50000), strings.Repeat("ガヰ", 50000), strings.Repeat("ｶﾞゐ", 50000), strings.Repeat("ｋａ", 50000), strings.Repeat("ka", 50000)})
}

// P7.7: what the modes with kana show for a reading is this reading, whatever its keys were.
func TestFormOfShown(t *testing.T) {
	for i, s := range readings(5, 500) {
		for _, m := range kanaModes {
			shown := mode.Show(m, s)
			raw := []string{"", "kana", "\xFF", s}[i%4]
			hasForm(t, 6, shown, raw, s)
			hasForm(t, 7, shown, raw, kana.Kata(s))
			hasForm(t, 7, shown, raw, inKatakana(s))
		}
	}
}

// P7.8: full-width letters, narrowed, are the keys: each, each two of them, all at once, and random ones.
func TestKeysNarrowed(t *testing.T) {
	check := func(raw string) {
		t.Helper()
		for _, typed := range []string{"", "かな"} {
			inWide, ok := mode.Form(9, typed, raw)
			if !ok {
				t.Errorf("no form 9 of %q", raw)
			}
			hasForm(t, 10, typed, inWide, raw)
		}
	}
	for _, c := range []byte(narrow) {
		check(string([]byte{c}))
		inWide, _ := wideOf(c)
		hasForm(t, 9, "", string([]byte{c}), inWide)
		hasForm(t, 10, "", inWide, string([]byte{c}))
		for _, d := range []byte(narrow) {
			check(string([]byte{c, d}))
		}
	}
	check("")
	check(narrow)
	hasForm(t, 9, "", narrow, wide)
	hasForm(t, 10, "", wide, narrow)
	hasForm(t, 10, "", narrow, narrow)
	hasForm(t, 9, "", wide, wide)
	r := rand.New(rand.NewSource(6))
	for range 1000 {
		check(someText(r, []rune(narrow), 100))
	}
}
