package auto_test

import (
	"maps"
	"math/rand"
	"slices"
	"strings"
	"testing"

	"henkan/api"
	"henkan/auto"
	"henkan/roman"
)

// The tests hold the package against a second reading of the chapter: a machine that does what the definitions say word by word, with rules in a list that is searched from its beginning and keys to be fed in one string; and, for Type, all keys there are up to some length, and lists of the least keys that are made smaller until nothing changes.

// machine is the automaton of the definitions.
type machine struct {
	rules        []roman.Rule
	pending, out string
}

// begins reports whether the keys of some rule begin with s and are longer.
func (m *machine) begins(s string) bool {
	return slices.ContainsFunc(m.rules, func(r roman.Rule) bool { return strings.HasPrefix(r.Keys, s) && r.Keys != s })
}

// feed feeds keys.
func (m *machine) feed(keys string) {
	for keys != "" {
		s := m.pending + keys[:1]
		keys = keys[1:]
		if m.begins(s) {
			m.pending = s
		} else {
			keys = m.reduce(s) + keys
		}
	}
}

// reduce does 2 or 3 of the definition with s, and returns the keys that are to be fed then.
func (m *machine) reduce(s string) string {
	m.pending = ""
	for n := len(s); n > 0; n-- {
		for _, r := range m.rules {
			if r.Keys == s[:n] {
				m.out += r.Out
				return r.Next + s[n:]
			}
		}
	}
	m.out += s[:1]
	return s[1:]
}

// kept returns s without the bytes that are no keys.
func kept(s string) string {
	var l []byte
	for _, b := range []byte(s) {
		if b > ' ' && b < 0x7F {
			l = append(l, b)
		}
	}
	return string(l)
}

// stepped is what Step returns.
func stepped(l []roman.Rule, pending string, key byte) (string, string) {
	m := &machine{rules: l, pending: kept(pending)}
	m.feed(kept(string([]byte{key})))
	return m.out, m.pending
}

// ran is what Run returns.
func ran(l []roman.Rule, keys string) (string, string) {
	m := &machine{rules: l}
	m.feed(kept(keys))
	return m.out, m.pending
}

// flushed is what Flush returns.
func flushed(l []roman.Rule, pending string) string {
	m := &machine{rules: l, pending: kept(pending)}
	for m.pending != "" {
		m.feed(m.reduce(m.pending))
	}
	return m.out
}

// less reports whether keys are less than others: fewer, or as many and bytewise less.
func less(keys, others string) bool {
	return len(keys) < len(others) || len(keys) == len(others) && keys < others
}

// place is what is written of a text, and the keys that are pending then.
type place struct{ written, pending string }

// typed is what Type returns for a valid text of at most 64 characters, if no keys but these can help: the least keys to each place, as far as some are known, become less until no key makes them less.
func typed(l []roman.Rule, text, keys string) (string, bool) {
	least := map[place]string{{}: ""}
	done := map[place]place{}
	for changed := true; changed; {
		changed = false
		for from, before := range maps.Clone(least) {
			for i := range keys {
				step := place{keys[i : i+1], from.pending}
				after, ok := done[step]
				if !ok {
					after.written, after.pending = stepped(l, from.pending, keys[i])
					done[step] = after
				}
				to, more := place{from.written + after.written, after.pending}, before+keys[i:i+1]
				if known, ok := least[to]; strings.HasPrefix(text, to.written) && (!ok || less(more, known)) {
					least[to], changed = more, true
				}
			}
		}
	}
	found, ok := least[place{text, ""}]
	return found, ok
}

// written returns, for each text that up to most of these keys write, with nothing pending then, the least such keys. The keys are in the order of their bytes, so the first ones are the least.
func written(l []roman.Rule, keys string, most int) map[string]string {
	least := map[string]string{}
	all := []string{""}
	for i := 0; i < len(all); i++ {
		out, pending := ran(l, all[i])
		if _, known := least[out]; !known && pending == "" {
			least[out] = all[i]
		}
		for j := range keys {
			if len(all[i]) < most {
				all = append(all, all[i]+keys[j:j+1])
			}
		}
	}
	return least
}

// some returns least to most characters of l; they depend only on the state of r.
func some(r *rand.Rand, l string, least, most int) string {
	from := []rune(l)
	s := make([]rune, least+r.Intn(most-least+1))
	for i := range s {
		s[i] = from[r.Intn(len(from))]
	}
	return string(s)
}

// someRules returns up to most rules of these keys and kana that are allowed together. Many of them begin with the same keys, and many lead to each other by their Next.
func someRules(r *rand.Rand, most int, keys, kana string) []roman.Rule {
	var l []roman.Rule
	for range most {
		more := append(slices.Clone(l), roman.Rule{Keys: some(r, keys, 1, 4), Out: some(r, kana, 0, 2), Next: some(r, keys, 0, 3)})
		if roman.Check(more) == api.OK {
			l = more
		}
	}
	return l
}

// anyBytes returns up to most bytes, most of which are keys.
func anyBytes(r *rand.Rand, keys string, most int) string {
	s := make([]byte, r.Intn(most+1))
	for i := range s {
		s[i] = keys[r.Intn(len(keys))]
		if r.Intn(8) == 0 {
			s[i] = byte(r.Intn(256))
		}
	}
	return string(s)
}

// automaton returns the automaton of rules that are allowed.
func automaton(t *testing.T, l []roman.Rule) *auto.Auto {
	t.Helper()
	a, e := auto.New(l)
	if a == nil || e != api.OK {
		t.Fatalf("New of %.1000q: %v, %d", l, a, e)
	}
	return a
}

// rules returns the rules of lines without a Next or with one: keys, =, what they write, + and the Next.
func rules(lines ...string) []roman.Rule {
	var l []roman.Rule
	for _, s := range lines {
		keys, written, _ := strings.Cut(s, "=")
		out, next, _ := strings.Cut(written, "+")
		l = append(l, roman.Rule{Keys: keys, Out: out, Next: next})
	}
	return l
}

// few are the rules of the chapter's second table of examples.
func few() []roman.Rule {
	return rules("a=あ", "n=ん", "na=な", "nn=ん", "xy=+a")
}
