package coding_test

import (
	"slices"
	"strings"
	"testing"

	"henkan/coding"
)

// P12.1 to P12.5: the examples of the chapter.
func TestExamples(t *testing.T) {
	numbers().codes(t, 0, 0)
	numbers().codes(t, 127, 0x7F)
	numbers().codes(t, 128, 0x80, 1)
	numbers().codes(t, 300, 0xAC, 2)
	signed().codes(t, -1, 1)
	signed().codes(t, 1, 2)
	signed().codes(t, -64, 0x7F)
	texts().codes(t, "ab", 2, 0x61, 0x62)
	lists().codes(t, []string{"a", "ab"}, 2, 1, 0x61, 2, 0x61, 0x62)
	sorted().codes(t, []string{"a", "ab", "b"}, 3, 0, 1, 0x61, 1, 1, 0x62, 0, 1, 0x62)
	notAscending(t, "b", "a")
	numbers().refuses(t, 0x80, 0)
	numbers().refuses(t, 0x80)
	numbers().refuses(t, append(bytesOf(9, 0xFF), 2)...)
}

// P12.1: codes written out.
func TestNumbers(t *testing.T) {
	k := numbers()
	k.codes(t, 1, 1)
	k.codes(t, 2, 2)
	k.codes(t, 126, 0x7E)
	k.codes(t, 129, 0x81, 1)
	k.codes(t, 255, 0xFF, 1)
	k.codes(t, 256, 0x80, 2)
	k.codes(t, 16383, 0xFF, 0x7F)
	k.codes(t, 16384, 0x80, 0x80, 1)
	k.codes(t, 2097151, 0xFF, 0xFF, 0x7F)
	k.codes(t, 2097152, 0x80, 0x80, 0x80, 1)
	k.codes(t, 0x0123456789ABCDEF, 0xEF, 0x9B, 0xAF, 0xCD, 0xF8, 0xAC, 0xD1, 0x91, 1)
	k.codes(t, 1<<63-1, 0xFF, 0xFF, 0xFF, 0xFF, 0xFF, 0xFF, 0xFF, 0xFF, 0x7F)
	k.codes(t, 1<<63, 0x80, 0x80, 0x80, 0x80, 0x80, 0x80, 0x80, 0x80, 0x80, 1)
	k.codes(t, 1<<64-1, 0xFF, 0xFF, 0xFF, 0xFF, 0xFF, 0xFF, 0xFF, 0xFF, 0xFF, 1)
}

// P12.2: codes written out.
func TestSigned(t *testing.T) {
	k := signed()
	k.codes(t, 0, 0)
	k.codes(t, 2, 4)
	k.codes(t, -2, 3)
	k.codes(t, 63, 0x7E)
	k.codes(t, 64, 0x80, 1)
	k.codes(t, -65, 0x81, 1)
	k.codes(t, 8191, 0xFE, 0x7F)
	k.codes(t, -8192, 0xFF, 0x7F)
	k.codes(t, 8192, 0x80, 0x80, 1)
	k.codes(t, -8193, 0x81, 0x80, 1)
	k.codes(t, greatest, 0xFE, 0xFF, 0xFF, 0xFF, 0xFF, 0xFF, 0xFF, 0xFF, 0xFF, 1)
	k.codes(t, least, 0xFF, 0xFF, 0xFF, 0xFF, 0xFF, 0xFF, 0xFF, 0xFF, 0xFF, 1)
	k.codes(t, 1<<62, 0x80, 0x80, 0x80, 0x80, 0x80, 0x80, 0x80, 0x80, 0x80, 1)
	k.codes(t, -1<<62, 0xFF, 0xFF, 0xFF, 0xFF, 0xFF, 0xFF, 0xFF, 0xFF, 0x7F)
}

// P12.3: codes written out.
func TestTexts(t *testing.T) {
	k := texts()
	k.codes(t, "", 0)
	k.codes(t, "\x00", 1, 0)
	k.codes(t, "\xFF\x00\x80", 3, 0xFF, 0, 0x80)
	k.codes(t, "か", 3, 0xE3, 0x81, 0x8B)
	k.codes(t, strings.Repeat("a", 127), append([]byte{0x7F}, bytesOf(127, 'a')...)...)
	k.codes(t, strings.Repeat("a", 128), append([]byte{0x80, 1}, bytesOf(128, 'a')...)...)
	k.codes(t, strings.Repeat("\x00", 16384), append([]byte{0x80, 0x80, 1}, bytesOf(16384, 0)...)...)
}

// P12.4: codes written out.
func TestLists(t *testing.T) {
	k := lists()
	k.codes(t, nil, 0)
	k.codes(t, []string{}, 0)
	k.codes(t, []string{""}, 1, 0)
	k.codes(t, []string{"", ""}, 2, 0, 0)
	k.codes(t, []string{"b", "", "a", "a"}, 4, 1, 'b', 0, 1, 'a', 1, 'a')
	k.codes(t, []string{"\x00\xFF", "\x80"}, 2, 2, 0, 255, 1, 128)
	k.codes(t, make([]string, 127), append([]byte{0x7F}, bytesOf(127, 0)...)...)
	k.codes(t, make([]string, 128), append([]byte{0x80, 1}, bytesOf(128, 0)...)...)
	long := strings.Repeat("x", 300)
	k.codes(t, []string{long, "y"}, slices.Concat([]byte{2, 0xAC, 2}, []byte(long), []byte{1, 'y'})...)
}

// P12.5: codes written out.
func TestSorted(t *testing.T) {
	k := sorted()
	k.codes(t, nil, 0)
	k.codes(t, []string{}, 0)
	k.codes(t, []string{""}, 1, 0, 0)
	k.codes(t, []string{"", "a"}, 2, 0, 0, 0, 1, 'a')
	k.codes(t, []string{"ab", "abc", "abcde"}, 3, 0, 2, 'a', 'b', 2, 1, 'c', 3, 2, 'd', 'e')
	k.codes(t, []string{"abc", "abd", "b"}, 3, 0, 3, 'a', 'b', 'c', 2, 1, 'd', 0, 1, 'b')
	k.codes(t, []string{"", "\x00", "\x00\x00", "\x00\xFF", "\x7F", "\x80", "\xFF"}, 7, 0, 0, 0, 1, 0, 1, 1, 0, 1, 1, 255, 0, 1, 127, 0, 1, 128, 0, 1, 255)
	k.codes(t, []string{"か", "き"}, 2, 0, 3, 0xE3, 0x81, 0x8B, 2, 1, 0x8D)
	long := strings.Repeat("x", 128)
	k.codes(t, []string{long, long + "y"}, slices.Concat([]byte{2, 0, 0x80, 1}, []byte(long), []byte{0x80, 1, 1, 'y'})...)
	var single []string
	code := []byte{0x80, 2}
	for i := range 256 {
		single = append(single, string([]byte{byte(i)}))
		code = append(code, 0, 1, byte(i))
	}
	k.codes(t, single, code...)
}

// notAscending checks that PutSorted returns nothing for strings, behind nothing and behind other bytes.
func notAscending(t *testing.T, l ...string) {
	t.Helper()
	for _, before := range [][]byte{nil, {}, {1, 2, 3}, bytesOf(100, 7)} {
		if b, ok := coding.PutSorted(before, l); len(b) != 0 || ok {
			t.Errorf("PutSorted of %s behind %s: %s, %v", show(l), show(before), show(b), ok)
		}
	}
}

// P12.5: two equal strings, or a smaller one after a greater one.
func TestNotAscending(t *testing.T) {
	notAscending(t, "", "")
	notAscending(t, "a", "")
	notAscending(t, "a", "a")
	notAscending(t, "ab", "a")
	notAscending(t, "b", "ab")
	notAscending(t, "\xFF", "\x7F")
	notAscending(t, "\x80", "\x7F")
	notAscending(t, "か", "か"[:2])
	for _, l := range edgeSorted() {
		if len(l) > 50 {
			l = l[:50]
		}
		for i := range l {
			twice := slices.Insert(slices.Clone(l), i, l[i])
			notAscending(t, twice...)
			for j := range i {
				exchanged := slices.Clone(l)
				exchanged[i], exchanged[j] = exchanged[j], exchanged[i]
				notAscending(t, exchanged...)
			}
			if i > 0 {
				notAscending(t, slices.Insert(slices.Clone(l), i+1, "")...)
				notAscending(t, slices.Insert(slices.Clone(l), i+1, l[i][:len(l[i])-1])...)
			}
		}
	}
}

// P12.5: every list of up to four of some strings: it has a code if it ascends.
func TestEveryOrder(t *testing.T) {
	words := []string{"", "\x00", "a", "ab", "b", "b\xFF", "\xFF"}
	taken := 0
	var extend func(l []string)
	extend = func(l []string) {
		if ascends(l) {
			sorted().codes(t, l, codeOfSorted(l)...)
			taken++
		} else {
			notAscending(t, l...)
		}
		lists().codes(t, l, codeOfList(l)...)
		if len(l) == 4 {
			return
		}
		for _, s := range words {
			extend(append(slices.Clone(l), s))
		}
	}
	extend(nil)
	// Of seven strings, 1, 7, 21, 35 and 35 sets have none, one, two, three and four.
	if taken != 99 {
		t.Errorf("%d lists ascend", taken)
	}
}

// P12.1 to P12.6: values at which codes become longer, and of all kinds of bytes, against the second reading.
func TestEdges(t *testing.T) {
	for _, v := range edgeNumbers() {
		numbers().holds(t, v)
	}
	for _, v := range edgeInts() {
		signed().holds(t, v)
	}
	for _, s := range edgeTexts() {
		texts().holds(t, s)
	}
	for _, l := range edgeLists() {
		lists().holds(t, l)
	}
	for _, l := range edgeSorted() {
		sorted().holds(t, l)
	}
}

// P12.1 and P12.2: each number up to some powers of two.
func TestSmallNumbers(t *testing.T) {
	for v := range 70000 {
		b := coding.PutUint(nil, uint64(v))
		if got, next, ok := coding.Uint(b, 0); string(b) != string(codeOfUint(uint64(v))) || got != uint64(v) || next != len(b) || !ok {
			t.Fatalf("%d: %x, %d, %d, %v", v, b, got, next, ok)
		}
		for _, v := range []int{v, -v - 1} {
			b = coding.PutInt(nil, v)
			if got, next, ok := coding.Int(b, 0); string(b) != string(codeOfInt(v)) || got != v || next != len(b) || !ok {
				t.Fatalf("%d: %x, %d, %d, %v", v, b, got, next, ok)
			}
		}
	}
}
