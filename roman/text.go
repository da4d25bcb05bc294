package roman

import (
	"strings"

	"henkan/api"
)

// In a text of rules, lines that begin with comment are skipped, and wordEnd stands between words.
const (
	comment = "#"
	wordEnd = "\t"
	lineEnd = "\n"
)

// Parse returns the rules in a text, one on each line, or the number of the first line that is not valid.
func Parse(text string) ([]Rule, int, api.Errno) {
	if len(text) > api.MaxText {
		return nil, 0, api.ErrLong
	}
	var l []Rule
	seen := map[string]bool{}
	for i, line := range strings.Split(text, lineEnd) {
		if line == "" || strings.HasPrefix(line, comment) {
			continue
		}
		r, ok := readLine(line)
		if !ok || !accept(seen, r) {
			return nil, i + 1, api.ErrRule
		}
		l = append(l, fresh(r))
	}
	return l, 0, api.OK
}

// Print returns the text of rules.
func Print(l []Rule) (string, api.Errno) {
	if e := Check(l); e != api.OK {
		return "", e
	}
	var text strings.Builder
	for _, r := range l {
		text.WriteString(r.Keys + wordEnd + r.Out)
		if r.Next != "" {
			text.WriteString(wordEnd + r.Next)
		}
		text.WriteString(lineEnd)
	}
	return text.String(), api.OK
}

// readLine returns the rule of a line, be it allowed or not, and whether the line has the words of one.
func readLine(line string) (Rule, bool) {
	keys, rest, hasOut := strings.Cut(line, wordEnd)
	// A fourth word stays in next with the separator before it, which is no key.
	out, next, hasNext := strings.Cut(rest, wordEnd)
	return Rule{keys, out, next}, hasOut && hasNext == (next != "")
}
