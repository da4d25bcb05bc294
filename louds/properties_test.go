package louds_test

import (
	"math/rand"
	"slices"
	"strings"
	"testing"

	"henkan/louds"
)

// P11.1 to P11.5: random sets.
func TestRandomSets(t *testing.T) {
	r := rand.New(rand.NewSource(113))
	for i := range 400 {
		l := some(r, r.Intn(25), 1+r.Intn(12), alphabets()[i%len(alphabets())])
		holds(t, trieOf(t, l), l)
		holds(t, decoded(t, codeOf(l)), l)
	}
	for i := range 20 {
		l := some(r, 300, 256, alphabets()[i%len(alphabets())])
		holdsStrings(t, trieOf(t, l), l)
		holdsStrings(t, decoded(t, codeOf(l)), l)
	}
}

// P11.1 to P11.5: every set of strings of at most three bytes, each of which is one of two.
func TestEverySmallSet(t *testing.T) {
	var possible []string
	for n := 1; n <= 3; n++ {
		for i := range 1 << n {
			b := make([]byte, n)
			for j := range b {
				b[j] = "\x00\xFF"[i>>j&1]
			}
			possible = append(possible, string(b))
		}
	}
	possible = sorted(possible...)
	if len(possible) != 14 {
		t.Fatalf("%q", possible)
	}
	for choice := range 1 << 14 {
		var l []string
		for i, s := range possible {
			if choice>>i&1 == 1 {
				l = append(l, s)
			}
		}
		trie := trieOf(t, l)
		holdsStrings(t, trie, l)
		for _, s := range append(possible, "", "\x01", "\x00\x80") {
			id, ok := findOf(l, s)
			finds(t, trie, l, s, id, ok)
			prefixes(t, trie, l, s, prefixesOf(l, s)...)
			most := (choice + len(s)) % 16
			under(t, trie, l, s, most, underOf(l, s, most)...)
		}
	}
}

// P11.6: each string of a set is found by its number and in reverse, no other string is, and what is found are exactly those strings of which one is a prefix of the other.
func TestSetProperty(t *testing.T) {
	r := rand.New(rand.NewSource(116))
	for i := range 300 {
		l := some(r, r.Intn(80), 1+r.Intn(8), alphabets()[i%len(alphabets())])
		trie := trieOf(t, l)
		for i, s := range l {
			finds(t, trie, l, s, i, true)
			texts(t, trie, l, i, s, true)
		}
		for _, s := range slices.Concat(sought(l[:min(len(l), 9)]), some(r, 60, 9, alphabets()[i%len(alphabets())])) {
			if _, ok := trie.Find(s); ok != slices.Contains(l, s) {
				t.Fatalf("Find(%q) in %s: %v", s, show(l), ok)
			}
			hits, ids := trie.Prefixes(s), trie.Under(s, len(l))
			for i, text := range l {
				if slices.Contains(hits, louds.Hit{Id: i, Len: len(text)}) != strings.HasPrefix(s, text) {
					t.Fatalf("Prefixes(%q) in %s, which has %q: %v", s, show(l), text, hits)
				}
				if slices.Contains(ids, i) != strings.HasPrefix(text, s) {
					t.Fatalf("Under(%q) in %s, which has %q: %v", s, show(l), text, ids)
				}
			}
			if !slices.IsSortedFunc(hits, func(a, b louds.Hit) int { return a.Len - b.Len }) {
				t.Fatalf("Prefixes(%q) in %s: %v", s, show(l), hits)
			}
		}
	}
}

// P11.7: the numbers that Under returns follow each other, and fewer of them are the first ones.
func TestNeighbours(t *testing.T) {
	r := rand.New(rand.NewSource(117))
	for i := range 300 {
		l := some(r, r.Intn(120), 1+r.Intn(8), alphabets()[i%len(alphabets())])
		trie := trieOf(t, l)
		for _, s := range nodesOf(l) {
			ids := trie.Under(s, len(l))
			for i, id := range ids {
				if id != ids[0]+i {
					t.Fatalf("Under(%q) in %s: %v", s, show(l), ids)
				}
			}
			most := r.Intn(len(l) + 1)
			under(t, trie, l, s, most, ids[:min(most, len(ids))]...)
		}
	}
}

// P11.8: Decode and Encode take each other back.
func TestRoundTrip(t *testing.T) {
	r := rand.New(rand.NewSource(118))
	for i := range 500 {
		l := some(r, r.Intn(100), 1+r.Intn(20), alphabets()[i%len(alphabets())])
		code := trieOf(t, l).Encode()
		trie := decoded(t, code)
		if trie.Len() != len(l) {
			t.Fatalf("%d strings of %s", trie.Len(), show(l))
		}
		for i, s := range l {
			finds(t, trie, l, s, i, true)
			texts(t, trie, l, i, s, true)
		}
		if got := trie.Encode(); !slices.Equal(got, code) {
			t.Fatalf("the code of what was decoded of %s: %s", shorten(code), shorten(got))
		}
	}
}

// What is passed to Build stays as it is and is not kept; what is beyond the length is not read (rule R3).
func TestStringsAreNotShared(t *testing.T) {
	r := rand.New(rand.NewSource(3))
	for range 30 {
		l := some(r, r.Intn(40), 5, "abc")
		room := append(slices.Clone(l), "", "zz", "a", strings.Repeat("z", 257))
		before := slices.Clone(room)
		trie := trieOf(t, room[:len(l)])
		if !slices.Equal(room, before) {
			t.Errorf("Build of %s changed it", show(l))
		}
		for i := range room {
			room[i] = "other"
		}
		holds(t, trie, l)
	}
}

// What a trie returns is new each time, and what is done with it changes nothing (rule R3).
func TestResultsAreNotShared(t *testing.T) {
	l := sorted("a", "ab", "abc", "abd", "b", "ba")
	for _, trie := range []*louds.Trie{trieOf(t, l), decoded(t, codeOf(l))} {
		hits, others := trie.Prefixes("abc"), trie.Prefixes("abc")
		for i := range hits[:cap(hits)] {
			hits[:cap(hits)][i] = louds.Hit{Id: -1, Len: -1}
		}
		if !slices.Equal(others, prefixesOf(l, "abc")) {
			t.Errorf("Prefixes: %v", others)
		}
		ids, more := trie.Under("a", 9), trie.Under("a", 9)
		for i := range ids[:cap(ids)] {
			ids[:cap(ids)][i] = -1
		}
		if !slices.Equal(more, underOf(l, "a", 9)) {
			t.Errorf("Under: %v", more)
		}
		one, two := trie.Encode(), trie.Encode()
		for i := range one[:cap(one)] {
			one[:cap(one)][i] ^= 255
		}
		if !slices.Equal(two, codeOf(l)) {
			t.Errorf("Encode: %s", shorten(two))
		}
		holds(t, trie, l)
	}
}

// Methods leave the trie as it is, and tries share nothing with each other (rules R3 and R4).
func TestTriesAreNotShared(t *testing.T) {
	r := rand.New(rand.NewSource(4))
	one, two := some(r, 30, 5, "abc"), some(r, 40, 7, anyByte())
	trie, other := trieOf(t, one), trieOf(t, two)
	again := decoded(t, trie.Encode())
	for range 2 {
		holds(t, trie, one)
		holds(t, other, two)
		holds(t, again, one)
	}
}
