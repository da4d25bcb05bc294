package kana

import (
	"strings"

	"henkan/utf"
)

// halfOrder has the characters to which the half-width characters from firstHalfKana on correspond, in their order.
const halfOrder = "。「」、・ヲァィゥェォャュョッーアイウエオカキクケコサシスセソタチツテトナニヌネノハヒフヘホマミムメモヤユヨラリルレロワン"

// The half-width sound marks, and what is written for one that is joined with no kana.
const (
	voicedMark      = 0xFF9E
	halfVoicedMark  = 0xFF9F
	voicedAlone     = 0x309B
	halfVoicedAlone = 0x309C
)

// The kana whose number grows by 1 with voicedMark, and those whose number grows by 2 with halfVoicedMark; ウ becomes ヴ, which is far from it.
const (
	voiced       = "カキクケコサシスセソタチツテトハヒフヘホ"
	halfVoiced   = "ハヒフヘホ"
	plainU       = 0x30A6
	voicedU      = 0x30F4
	toVoiced     = 1
	toHalfVoiced = 2
)

// manyForms is room for all characters of a map of forms, so that it is laid out once.
const manyForms = 96

// replace returns s as form writes it: form is called for each character in turn and returns what is written with it, given what was written before. A string that is not valid stays as it is.
func replace(s string, form func(done []rune, c rune) []rune) string {
	l, ok := utf.Runes(s)
	if !ok {
		// Results share no memory with arguments.
		return strings.Clone(s)
	}
	done := make([]rune, 0, len(l))
	for _, c := range l {
		done = form(done, c)
	}
	return utf.Text(done)
}

// replaceEach returns s with each character replaced by the one that form returns for it.
func replaceEach(s string, form func(c rune) rune) string {
	return replace(s, func(done []rune, c rune) []rune { return append(done, form(c)) })
}

// withMark returns the kana that a katakana becomes with a sound mark, and whether the mark is one of that kana.
func withMark(c, mark rune) (rune, bool) {
	switch {
	case mark == voicedMark && c == plainU:
		return voicedU, true
	case mark == voicedMark && strings.ContainsRune(voiced, c):
		return c + toVoiced, true
	case mark == halfVoicedMark && strings.ContainsRune(halfVoiced, c):
		return c + toHalfVoiced, true
	}
	return 0, false
}

// halfKana is what is written for a character in half-width characters: one of them, and a sound mark, or 0 for none.
type halfKana struct{ plain, mark rune }

// halfForms returns what is written in half-width characters for a character, for all characters that have them.
func halfForms() map[rune]halfKana {
	forms := make(map[rune]halfKana, manyForms)
	half := rune(firstHalfKana)
	for _, full := range halfOrder {
		forms[full] = halfKana{half, 0}
		for _, mark := range [2]rune{voicedMark, halfVoicedMark} {
			if c, ok := withMark(full, mark); ok {
				forms[c] = halfKana{half, mark}
			}
		}
		half++
	}
	return forms
}

// fullForms returns the character that is written for each half-width character that stands alone.
func fullForms() map[rune]rune {
	forms := make(map[rune]rune, manyForms)
	forms[voicedMark], forms[halfVoicedMark] = voicedAlone, halfVoicedAlone
	half := rune(firstHalfKana)
	for _, full := range halfOrder {
		forms[half] = full
		half++
	}
	return forms
}
