package louds_test

import (
	"math/rand"
	"slices"
	"strings"
	"testing"

	"henkan/api"
	"henkan/louds"
)

// P11.1 to P11.5: the examples of the chapter.
func TestExamples(t *testing.T) {
	l := []string{"a", "ab", "b"}
	trie := trieOf(t, l)
	finds(t, trie, l, "b", 2, true)
	texts(t, trie, l, 1, "ab", true)
	prefixes(t, trie, l, "abc", louds.Hit{Id: 0, Len: 1}, louds.Hit{Id: 1, Len: 2})
	under(t, trie, l, "a", 5, 0, 1)
	under(t, trie, l, "", 1, 0)
	finds(t, trie, l, "c", 0, false)
	finds(t, trie, l, "", 0, false)
	texts(t, trie, l, 3, "", false)
	texts(t, trie, l, -1, "", false)
	none := trieOf(t, nil)
	if none.Len() != 0 {
		t.Errorf("Len of no strings: %d", none.Len())
	}
	under(t, none, nil, "", 3)
	refusesSet(t, api.ErrArg, "b", "a")
	refusesSet(t, api.ErrArg, "a", "a")
	refusesSet(t, api.ErrArg, "")
	refusesSet(t, api.ErrArg, strings.Repeat("a", 257))
	refuses(t, nil)
	refuses(t, append(trie.Encode(), 0))
}

// A nil trie has no strings and no code.
func TestNil(t *testing.T) {
	var trie *louds.Trie
	if trie.Len() != 0 {
		t.Errorf("Len: %d", trie.Len())
	}
	for _, s := range sought([]string{"a", "ab"}) {
		finds(t, trie, nil, s, 0, false)
		prefixes(t, trie, nil, s)
		for _, most := range mosts(3) {
			under(t, trie, nil, s, most)
		}
	}
	for _, i := range beyond(0) {
		texts(t, trie, nil, i, "", false)
	}
	if got := trie.Encode(); len(got) != 0 {
		t.Errorf("Encode: %x", got)
	}
}

// P11.1: no strings, in both forms that there are of them.
func TestNoStrings(t *testing.T) {
	holds(t, trieOf(t, nil), nil)
	holds(t, trieOf(t, []string{}), nil)
	holds(t, decoded(t, codeOf(nil)), nil)
}

// P11.2 to P11.4: rows written out.
func TestRows(t *testing.T) {
	l := []string{"か", "かき", "かきく", "かさ", "き", "きか"}
	trie := trieOf(t, l)
	for i, s := range l {
		finds(t, trie, l, s, i, true)
		texts(t, trie, l, i, s, true)
	}
	for _, s := range []string{"", "\xE3", "\xE3\x81", "かき\xE3", "く", "かきくけ", "きかか", "か\x00", "\x00か", "a"} {
		finds(t, trie, l, s, 0, false)
	}
	prefixes(t, trie, l, "かきくけこ", louds.Hit{Id: 0, Len: 3}, louds.Hit{Id: 1, Len: 6}, louds.Hit{Id: 2, Len: 9})
	prefixes(t, trie, l, "かき", louds.Hit{Id: 0, Len: 3}, louds.Hit{Id: 1, Len: 6})
	prefixes(t, trie, l, "かき\xE3", louds.Hit{Id: 0, Len: 3}, louds.Hit{Id: 1, Len: 6})
	prefixes(t, trie, l, "かしか", louds.Hit{Id: 0, Len: 3})
	prefixes(t, trie, l, "きか", louds.Hit{Id: 4, Len: 3}, louds.Hit{Id: 5, Len: 6})
	for _, s := range []string{"", "\xE3", "\xE3\x81", "く", "aか", "\x81か"} {
		prefixes(t, trie, l, s)
	}
	under(t, trie, l, "", 9, 0, 1, 2, 3, 4, 5)
	under(t, trie, l, "\xE3\x81", 6, 0, 1, 2, 3, 4, 5)
	under(t, trie, l, "か", 9, 0, 1, 2, 3)
	under(t, trie, l, "か", 3, 0, 1, 2)
	under(t, trie, l, "か", 0)
	under(t, trie, l, "か", -1)
	under(t, trie, l, "かき", 9, 1, 2)
	under(t, trie, l, "か\xE3", 9, 1, 2, 3)
	under(t, trie, l, "か\xE3\x81\x95", 9, 3)
	under(t, trie, l, "き", 1, 4)
	under(t, trie, l, "きか", 2, 5)
	under(t, trie, l, "きかき", 9)
	under(t, trie, l, "く", 9)
}

// P11.1 to P11.5: sets written out: of one string, of one byte and of 256, of prefixes of each other, of neighbours, and of any bytes.
func TestSets(t *testing.T) {
	long := strings.Repeat("か", 86)[:256]
	for _, l := range [][]string{
		{"a"},
		{"\x00"},
		{"\xFF"},
		{"ab"},
		{"か"},
		{"a", "b"},
		{"a", "ab"},
		{"ab", "b"},
		{"ab", "ac"},
		{"a", "ab", "abc", "abcd"},
		{"a", "aa", "aaa", "aaaa", "aaaaa"},
		{"aaaaa", "b"},
		{"a", "bbbbb"},
		{"aa", "ab", "ba", "bb"},
		{"aaa", "aab", "abb", "bbb"},
		{"a", "abc", "abd", "b", "bcdef"},
		{"\x00", "\x00\x00", "\x00\x01", "\x01", "\x7F", "\x80", "\xFF", "\xFF\x00", "\xFF\xFF"},
		{"\x80", "か", "\xED\xA0\x80", "\xF4\x90\x80\x80", "\xFE\xFF"},
		{"a", "a\x00", "a\xFF", "b"},
		{"A", "a", "か", "カ", "今日", "𠮷"},
		{long},
		{long[:255], long},
		{long[:1], long[:128], long, long[:128] + "\xFF"},
		strings.Split(anyByte(), "")[:128],
	} {
		holds(t, trieOf(t, l), l)
		holds(t, decoded(t, codeOf(l)), l)
	}
}

// P11.1 to P11.5: a node with a child for each byte, in the middle and at the end, and as many strings of one byte.
func TestEveryByte(t *testing.T) {
	var short, behind, before []string
	for i := range 256 {
		b := string([]byte{byte(i)})
		short = append(short, b)
		behind = append(behind, "か"+b)
		before = append(before, b+"x")
	}
	for _, l := range [][]string{short, behind, before, sorted(slices.Concat(short, behind, before)...)} {
		holds(t, trieOf(t, l), l)
		holds(t, decoded(t, codeOf(l)), l)
	}
}

// P11.1 to P11.4: strings of all lengths, each of which is a prefix of the next one, and those with another byte behind each.
func TestEveryLength(t *testing.T) {
	var chain, comb []string
	for n := 1; n <= 256; n++ {
		chain = append(chain, strings.Repeat("x", n))
		comb = append(comb, strings.Repeat("x", n-1)+"y")
	}
	slices.Reverse(comb)
	comb = append([]string{strings.Repeat("x", 256)}, comb...)
	for _, l := range [][]string{chain, comb, sorted(append(slices.Clone(chain), comb...)...)} {
		trie := trieOf(t, sorted(l...))
		holdsStrings(t, trie, l)
		holdsStrings(t, decoded(t, codeOf(l)), l)
		for n := range 260 {
			s := strings.Repeat("x", n)
			for _, s := range []string{s, s + "y", s + "z", s + "w", s + "yx"} {
				prefixes(t, trie, l, s, prefixesOf(l, s)...)
				under(t, trie, l, s, n, underOf(l, s, n)...)
				under(t, trie, l, s, 600, underOf(l, s, 600)...)
			}
		}
	}
}

// P11.1: strings that are empty or too long, and such that are not greater than the one before, at all places.
func TestNotAllowed(t *testing.T) {
	long, longer := strings.Repeat("c", 256), strings.Repeat("c", 257)
	l := []string{"a", "ab", "b", "ba", long, "d", "か", "\xFF"}
	holds(t, trieOf(t, l), l)
	for i := range len(l) + 1 {
		refusesSet(t, api.ErrArg, slices.Insert(slices.Clone(l), i, "")...)
		for j, s := range l {
			if i <= j {
				refusesSet(t, api.ErrArg, slices.Insert(slices.Clone(l), j+1, l[i])...)
			} else {
				refusesSet(t, api.ErrArg, slices.Insert(slices.Clone(l), i, s)...)
			}
		}
	}
	for _, s := range []string{longer, strings.Repeat("d", 257), strings.Repeat("c", 100000)} {
		refusesSet(t, api.ErrArg, s)
		refusesSet(t, api.ErrArg, "a", s)
		refusesSet(t, api.ErrArg, s, "e")
		refusesSet(t, api.ErrArg, "a", s, "e")
		refusesSet(t, api.ErrArg, long, s, "e")
	}
	refusesSet(t, api.ErrArg, "", "")
	refusesSet(t, api.ErrArg, "", "a")
	refusesSet(t, api.ErrArg, "a", "")
	refusesSet(t, api.ErrArg, "a", "b", "b", "c")
	refusesSet(t, api.ErrArg, "ab", "a")
	refusesSet(t, api.ErrArg, "a\x00", "a")
	refusesSet(t, api.ErrArg, "\x80", "\x7F")
	refusesSet(t, api.ErrArg, "\xFF", "\x00")
	refusesSet(t, api.ErrArg, "a", "c", "b", "d")
	refusesSet(t, api.ErrArg, "b", "c", "a")
	refusesSet(t, api.ErrArg, "か", "a")
	refusesSet(t, api.ErrArg, "\uFFFD", "か")
	refusesSet(t, api.ErrArg, long, long)
	refusesSet(t, api.ErrArg, long, long[:255])
}

// P11.1: as many strings as there may be, and more.
func TestManyStrings(t *testing.T) {
	if api.MaxEntries != 20000 {
		t.Errorf("MaxEntries: %d", api.MaxEntries)
	}
	r := rand.New(rand.NewSource(111))
	random := some(r, 40000, 30, anyByte())
	for _, l := range [][]string{many(20000), many(19999), random[len(random)-20000:]} {
		trie := trieOf(t, l)
		holdsStringsOf(t, trie, l)
		code := codeOf(l)
		if !slices.Equal(trie.Encode(), code) {
			t.Fatalf("another code of %s", show(l))
		}
		holdsStringsOf(t, decoded(t, code), l)
		holdsSome(t, r, trie, l)
	}
	for _, n := range []int{20001, 20002, 40000} {
		refusesSet(t, api.ErrLong, many(n)...)
		refusesSet(t, api.ErrLong, random[:min(n, len(random))]...)
	}
}

// P11.1: as many nodes as a set may have that fits, and more.
func TestManyNodes(t *testing.T) {
	r := rand.New(rand.NewSource(112))
	for _, count := range []int{2100, 20000} {
		for _, n := range []int{524286, 524287} {
			l := withNodes(n, count)
			trie := trieOf(t, l)
			holdsStringsOf(t, trie, l)
			holdsSome(t, r, trie, l)
			if n == 524286 {
				continue
			}
			code := codeOf(l)
			if !slices.Equal(trie.Encode(), code) {
				t.Fatalf("another code of %s", show(l))
			}
			holdsStringsOf(t, decoded(t, code), l)
		}
		for _, n := range []int{524288, 524289, 530000} {
			refusesSet(t, api.ErrLong, withNodes(n, count)...)
		}
	}
	l := many(20000)
	for i := range l {
		l[i] += string(bytesOf(253, byte(i)))
	}
	refusesSet(t, api.ErrLong, l...)
	refusesSet(t, api.ErrLong, l[:2100]...)
	holdsStringsOf(t, trieOf(t, l[:2000]), l[:2000])
}

// P11.1: of several errors, the first one is returned.
func TestSeveralErrors(t *testing.T) {
	tooMany, tooDeep := many(20001), withNodes(524288, 2100)
	longer := strings.Repeat("\xFF", 257)
	for _, i := range []int{0, 1000, len(tooDeep) - 1} {
		for _, s := range []string{"", longer, "\x00"} {
			l := slices.Clone(tooMany)
			l[i] = s
			refusesSet(t, api.ErrLong, l...)
		}
		l := slices.Clone(tooDeep)
		l[i] = ""
		refusesSet(t, api.ErrArg, l...)
		l[i] = longer
		refusesSet(t, api.ErrArg, l...)
		l[i] = tooDeep[(i+len(l)-1)%len(l)]
		refusesSet(t, api.ErrArg, l...)
	}
	refusesSet(t, api.ErrArg, append(slices.Clone(tooDeep), longer)...)
	refusesSet(t, api.ErrArg, append(slices.Clone(tooDeep), tooDeep[len(tooDeep)-1])...)
	refusesSet(t, api.ErrArg, append([]string{""}, tooDeep...)...)
	refusesSet(t, api.ErrLong, make([]string, 20001)...)
	refusesSet(t, api.ErrArg, make([]string, 20000)...)
	refusesSet(t, api.ErrLong, withNodes(530000, 20001)...)
}

// holdsStringsOf checks the numbers and the texts of a set that is too large for the other checks.
func holdsStringsOf(t *testing.T, trie *louds.Trie, l []string) {
	t.Helper()
	if trie.Len() != len(l) {
		t.Fatalf("%d strings, want %d", trie.Len(), len(l))
	}
	for i, s := range l {
		finds(t, trie, l, s, i, true)
		texts(t, trie, l, i, s, true)
	}
	for _, i := range beyond(len(l)) {
		texts(t, trie, l, i, "", false)
	}
}

// holdsSome checks what is found of a set that is too large for the other checks, at some places.
func holdsSome(t *testing.T, r *rand.Rand, trie *louds.Trie, l []string) {
	t.Helper()
	for range 40 {
		s := l[r.Intn(len(l))]
		s = s[:r.Intn(len(s)+1)]
		for _, s := range []string{s, s + string([]byte{byte(r.Intn(256))})} {
			id, ok := slices.BinarySearch(l, s)
			if !ok {
				id = 0
			}
			finds(t, trie, l, s, id, ok)
			most := r.Intn(2 * len(l))
			under(t, trie, l, s, most, underOf(l, s, most)...)
		}
		prefixes(t, trie, l, s+"x", prefixesOf(l, s+"x")...)
	}
	under(t, trie, l, "", 20000, underOf(l, "", 20000)...)
	under(t, trie, l, "", greatest, underOf(l, "", 20000)...)
}
