package louds_test

import (
	"encoding/binary"
	"fmt"
	"math/rand"
	"slices"
	"strings"
	"testing"

	"henkan/api"
	"henkan/louds"
)

// The tests hold the package against a second reading of the chapter: the nodes are cut out of the strings and sorted, the codes of all layers are put together from digits, what is no code is found by putting the code of its strings together again, and strings are found by looking at one after the other.

// least and greatest are the ends of the numbers.
const (
	least    = -1 << 63
	greatest = 1<<63 - 1
)

// nodesOf returns the nodes of a set in order.
func nodesOf(l []string) []string {
	found := map[string]bool{"": true}
	for _, s := range l {
		for n := range len(s) + 1 {
			found[s[:n]] = true
		}
	}
	var nodes []string
	for node := range found {
		nodes = append(nodes, node)
	}
	slices.SortFunc(nodes, func(a, b string) int {
		if len(a) != len(b) {
			return len(a) - len(b)
		}
		return strings.Compare(a, b)
	})
	return nodes
}

// parts are what the code of a set consists of, before it is written as bytes.
type parts struct {
	shape   []bool
	labels  []byte
	ends    []bool
	numbers []uint64
}

// partsOf returns the parts of the code of a set.
func partsOf(l []string) parts {
	nodes := nodesOf(l)
	number, children := map[string]int{}, map[string]int{}
	for i, s := range l {
		number[s] = i
	}
	p := parts{shape: []bool{true, false}}
	for _, node := range nodes[1:] {
		children[node[:len(node)-1]]++
		p.labels = append(p.labels, node[len(node)-1])
	}
	for _, node := range nodes {
		p.shape = append(append(p.shape, all(children[node], true)...), false)
		i, ok := number[node]
		p.ends = append(p.ends, ok)
		if ok {
			p.numbers = append(p.numbers, uint64(i))
		}
	}
	return p
}

// code returns parts as bytes.
func (p parts) code() []byte {
	return join(bitsCode(p.shape), p.labels, bitsCode(p.ends), numbersCode(p.numbers, widthOf(p.numbers)))
}

// codeOf returns the code of a set.
func codeOf(l []string) []byte { return partsOf(l).code() }

// join returns parts one after the other, each behind the number of its bytes.
func join(l ...[]byte) []byte {
	var b []byte
	for _, part := range l {
		b = append(binary.LittleEndian.AppendUint32(b, uint32(len(part))), part...)
	}
	return b
}

// partsIn returns the four parts of a code as bytes, or false if there are others.
func partsIn(b []byte) ([][]byte, bool) {
	var l [][]byte
	for range 4 {
		if len(b) < 4 || uint64(binary.LittleEndian.Uint32(b)) > uint64(len(b)-4) {
			return nil, false
		}
		n := 4 + int(binary.LittleEndian.Uint32(b))
		l = append(l, b[4:n])
		b = b[n:]
	}
	return l, len(b) == 0
}

// bitsCode returns the code of bits (chapter 9), also of more of them than a vector may have.
func bitsCode(bits []bool) []byte {
	b := binary.LittleEndian.AppendUint32(nil, uint32(len(bits)))
	for word := range slices.Chunk(bits, 64) {
		n := uint64(0)
		for i, bit := range word {
			if bit {
				n += 1 << i
			}
		}
		b = binary.LittleEndian.AppendUint64(b, n)
	}
	trues := 0
	for i, bit := range bits {
		if i%512 == 0 {
			b = binary.LittleEndian.AppendUint32(b, uint32(trues))
		}
		if bit {
			trues++
		}
	}
	return b
}

// bitsIn returns the bits that a code of bits has if it is one.
func bitsIn(b []byte) []bool {
	if len(b) < 4 {
		return nil
	}
	n := min(int(binary.LittleEndian.Uint32(b)), 8*(len(b)-4))
	bits := make([]bool, n)
	for i := range bits {
		bits[i] = b[4+i/8]&[]byte{1, 2, 4, 8, 16, 32, 64, 128}[i%8] != 0
	}
	return bits
}

// widthOf returns the least width that is enough for all numbers.
func widthOf(l []uint64) int {
	w := 0
	for _, n := range l {
		for n >= uint64(1)<<w {
			w++
		}
	}
	return w
}

// numbersCode returns what is the code of numbers (chapter 10) if the width is theirs.
func numbersCode(l []uint64, w int) []byte {
	var digits []bool
	for _, n := range l {
		for range w {
			digits = append(digits, n%2 == 1)
			n /= 2
		}
	}
	b := append(binary.LittleEndian.AppendUint32(nil, uint32(len(l))), byte(w))
	for part := range slices.Chunk(digits, 8) {
		c := byte(0)
		for i, digit := range part {
			if digit {
				c += 1 << i
			}
		}
		b = append(b, c)
	}
	return b
}

// setIn returns the strings of which b is the code, or false.
func setIn(b []byte) ([]string, bool) {
	l, ok := partsIn(b)
	if !ok {
		return nil, false
	}
	shape, labels, ends := bitsIn(l[0]), l[1], bitsIn(l[2])
	nodes, set, next := []string{""}, []string(nil), 2
	for i := 0; i < len(nodes); i++ {
		for ; next < len(shape) && shape[next]; next++ {
			if len(nodes) > len(labels) || len(nodes[i]) > 256 {
				return nil, false
			}
			nodes = append(nodes, nodes[i]+string(labels[len(nodes)-1:len(nodes)]))
		}
		next++
		if i < len(ends) && ends[i] {
			set = append(set, nodes[i])
		}
	}
	slices.Sort(set)
	if len(set) > 20000 || len(nodes) > 524287 || slices.Contains(set, "") || !slices.Equal(codeOf(set), b) {
		return nil, false
	}
	return set, true
}

// findOf returns the number of s, or 0 and false.
func findOf(l []string, s string) (int, bool) {
	for i, text := range l {
		if text == s {
			return i, true
		}
	}
	return 0, false
}

// prefixesOf returns the strings that are prefixes of s, the shortest one first.
func prefixesOf(l []string, s string) []louds.Hit {
	var hits []louds.Hit
	for n := range len(s) + 1 {
		if i, ok := findOf(l, s[:n]); ok {
			hits = append(hits, louds.Hit{Id: i, Len: n})
		}
	}
	return hits
}

// underOf returns the numbers of the first most strings that begin with prefix.
func underOf(l []string, prefix string, most int) []int {
	var ids []int
	for i, s := range l {
		if strings.HasPrefix(s, prefix) && len(ids) < most {
			ids = append(ids, i)
		}
	}
	return ids
}

// holds checks all methods of the trie of a set: for its strings, its nodes, strings near them, and others.
func holds(t *testing.T, trie *louds.Trie, l []string) {
	t.Helper()
	holdsStrings(t, trie, l)
	for _, s := range sought(l) {
		id, ok := findOf(l, s)
		finds(t, trie, l, s, id, ok)
		prefixes(t, trie, l, s, prefixesOf(l, s)...)
		ids := underOf(l, s, len(l))
		for _, most := range mosts(len(ids)) {
			under(t, trie, l, s, most, ids[:max(0, min(most, len(ids)))]...)
		}
	}
}

// holdsStrings checks the numbers, the texts and the code of a set.
func holdsStrings(t *testing.T, trie *louds.Trie, l []string) {
	t.Helper()
	if trie == nil || trie.Len() != len(l) {
		t.Fatalf("the trie of %s: %v, %d strings", show(l), trie != nil, trie.Len())
	}
	for i, s := range l {
		finds(t, trie, l, s, i, true)
		texts(t, trie, l, i, s, true)
	}
	for _, i := range beyond(len(l)) {
		texts(t, trie, l, i, "", false)
	}
	if got := trie.Encode(); !slices.Equal(got, codeOf(l)) {
		t.Fatalf("Encode of %s: %s, want %s", show(l), shorten(got), shorten(codeOf(l)))
	}
}

// finds checks one call of Find.
func finds(t *testing.T, trie *louds.Trie, l []string, s string, want int, ok bool) {
	if got, found := trie.Find(s); got != want || found != ok {
		t.Helper()
		t.Fatalf("Find(%q) in %s: %d, %v, want %d, %v", s, show(l), got, found, want, ok)
	}
}

// texts checks one call of Text.
func texts(t *testing.T, trie *louds.Trie, l []string, id int, want string, ok bool) {
	if got, found := trie.Text(id); got != want || found != ok {
		t.Helper()
		t.Fatalf("Text(%d) in %s: %q, %v, want %q, %v", id, show(l), got, found, want, ok)
	}
}

// prefixes checks one call of Prefixes.
func prefixes(t *testing.T, trie *louds.Trie, l []string, s string, want ...louds.Hit) {
	if got := trie.Prefixes(s); !slices.Equal(got, want) {
		t.Helper()
		t.Fatalf("Prefixes(%q) in %s: %v, want %v", s, show(l), got, want)
	}
}

// under checks one call of Under.
func under(t *testing.T, trie *louds.Trie, l []string, prefix string, most int, want ...int) {
	if got := trie.Under(prefix, most); !slices.Equal(got, want) {
		t.Helper()
		t.Fatalf("Under(%q, %d) in %s: %.60v, want %.60v", prefix, most, show(l), fmt.Sprint(got), fmt.Sprint(want))
	}
}

// refusesSet checks that there is no trie of strings.
func refusesSet(t *testing.T, want api.Errno, l ...string) {
	t.Helper()
	if trie, err := louds.Build(l); trie != nil || err != want {
		t.Errorf("Build of %s: %v, %d, want no trie and %d", show(l), trie != nil, err, want)
	}
}

// refuses checks that there is no trie for a code.
func refuses(t *testing.T, b []byte) {
	t.Helper()
	if trie, err := louds.Decode(b); trie != nil || err != api.ErrForm {
		t.Errorf("Decode of %s: %v, %d, want no trie and %d", shorten(b), trie != nil, err, api.ErrForm)
	}
}

// trieOf returns the trie of a set, as Build makes it.
func trieOf(t *testing.T, l []string) *louds.Trie {
	t.Helper()
	trie, err := louds.Build(l)
	if trie == nil || err != api.OK {
		t.Fatalf("Build of %s: %v, %d", show(l), trie != nil, err)
	}
	return trie
}

// decoded returns the trie of a code, as Decode makes it.
func decoded(t *testing.T, b []byte) *louds.Trie {
	t.Helper()
	trie, err := louds.Decode(b)
	if trie == nil || err != api.OK {
		t.Fatalf("Decode of %s: %v, %d", shorten(b), trie != nil, err)
	}
	return trie
}

// decodes checks that Decode does what the second reading does, and that a code which is taken is the code of what it returned.
func decodes(t *testing.T, b []byte) bool {
	t.Helper()
	l, ok := setIn(b)
	if !ok {
		refuses(t, b)
		return false
	}
	trie := decoded(t, b)
	holdsStrings(t, trie, l)
	if got := trie.Encode(); !slices.Equal(got, b) {
		t.Errorf("Decode of %s: the code is %s", shorten(b), shorten(got))
	}
	return true
}

// encodes checks the code of a set, in both directions.
func encodes(t *testing.T, l []string, code ...byte) {
	t.Helper()
	if got := trieOf(t, l).Encode(); !slices.Equal(got, code) {
		t.Errorf("Encode of %s: %s, want %s", show(l), shorten(got), shorten(code))
	}
	holds(t, decoded(t, code), l)
}

// sought returns strings that are sought in a set: its nodes, those with another byte at the end or one byte more, and others.
func sought(l []string) []string {
	s := []string{"\x00", "a", "か", "\xFF", "\xFE\xFF", strings.Repeat("a", 256), strings.Repeat("\xFF", 300)}
	for _, node := range nodesOf(l) {
		s = append(s, node, node+"\x00", node+"a", node+"\xFF", node+"b\x80", node+node)
		if n := len(node) - 1; n >= 0 {
			s = append(s, node[:n]+string([]byte{node[n] + 1}), node[:n]+string([]byte{node[n] - 1}), node[1:])
		}
	}
	slices.Sort(s)
	return slices.Compact(s)
}

// mosts returns how many numbers are asked for where there are n: less, as many, and more.
func mosts(n int) []int {
	l := []int{least, n - 1, n, n + 1, n + 1000, greatest}
	for most := -1; most <= min(n, 5); most++ {
		l = append(l, most)
	}
	return l
}

// beyond returns numbers that are not from 0 to n - 1, those near them among them.
func beyond(n int) []int {
	l := []int{least, least + 1, -1 << 58, -1 << 32, -1 << 31, -1<<31 - 1, -20000, -2, -1}
	for _, more := range []int{0, 1, 2, 64, 20000, 1 << 20, 1<<31 - 1, 1 << 31, 1 << 32, 1 << 58, 1 << 62} {
		l = append(l, n+more)
	}
	return append(l, greatest-1, greatest)
}

// all returns n bits that are b.
func all(n int, b bool) []bool { return slices.Repeat([]bool{b}, n) }

// bytesOf returns n bytes that are b.
func bytesOf(n int, b byte) []byte { return slices.Repeat([]byte{b}, n) }

// sorted returns strings in ascending order, each once.
func sorted(l ...string) []string {
	l = slices.Clone(l)
	slices.Sort(l)
	return slices.Compact(l)
}

// some returns a set of at most n strings of at most most bytes, all of which are among alphabet.
func some(r *rand.Rand, n, most int, alphabet string) []string {
	var l []string
	for range n {
		b := make([]byte, 1+r.Intn(most))
		for i := range b {
			b[i] = alphabet[r.Intn(len(alphabet))]
		}
		if len(l) > 0 && r.Intn(3) == 0 {
			before := l[r.Intn(len(l))]
			b = append([]byte(before[:r.Intn(len(before)+1)]), b...)
		}
		l = append(l, string(b[:min(len(b), 256)]))
	}
	return sorted(l...)
}

// anyByte has each byte once.
func anyByte() string {
	b := make([]byte, 256)
	for i := range b {
		b[i] = byte(i)
	}
	return string(b)
}

// alphabets are the bytes of which random strings consist.
func alphabets() []string {
	return []string{"a", "ab", "abc", "\x00\xFF", "\x7F\x80", "あかさたな", anyByte()}
}

// many returns n strings of three bytes.
func many(n int) []string {
	l := make([]string, n)
	for i := range l {
		l[i] = string([]byte{byte(i >> 16), byte(i >> 8), byte(i)})
	}
	return l
}

// withNodes returns count strings, which begin with three bytes of their own and then have more of them, so that their set has n nodes.
func withNodes(n, count int) []string {
	l := many(count)
	own := 0
	for i := range l {
		if i%256 == 0 {
			own++
		}
		if i%65536 == 0 {
			own++
		}
		own++
	}
	more := n - 1 - own
	for i := range l {
		part := more / (count - i)
		l[i] += string(bytesOf(part, 'x'))
		more -= part
	}
	return l
}

// show writes strings for a message.
func show(l []string) string {
	return fmt.Sprintf("%d strings %.120q", len(l), fmt.Sprintf("%.20q", l[:min(len(l), 8)]))
}

// shorten writes bytes for a message.
func shorten(b []byte) string { return fmt.Sprintf("%d bytes %.100x", len(b), b) }
