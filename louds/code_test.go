package louds_test

import (
	"encoding/binary"
	"math/rand"
	"slices"
	"strings"
	"testing"
)

// read returns the bits of a text of 1 and 0; spaces are left out.
func read(text string) []bool {
	var l []bool
	for _, c := range strings.ReplaceAll(text, " ", "") {
		l = append(l, c == '1')
	}
	return l
}

// P11.5: codes written out, the examples among them.
func TestCodes(t *testing.T) {
	encodes(t, nil, 0x10, 0, 0, 0, 3, 0, 0, 0, 1, 0, 0, 0, 0, 0, 0, 0, 0, 0, 0, 0, 0, 0, 0, 0, 0x10, 0, 0, 0, 1, 0, 0, 0, 0, 0, 0, 0, 0, 0, 0, 0, 0, 0, 0, 0, 5, 0, 0, 0, 0, 0, 0, 0, 0)
	// 1 0, 1 1 0, 1 0, 0, 0 are the bits of 45.
	encodes(t, []string{"a", "ab", "b"},
		16, 0, 0, 0, 9, 0, 0, 0, 45, 0, 0, 0, 0, 0, 0, 0, 0, 0, 0, 0,
		3, 0, 0, 0, 'a', 'b', 'b',
		16, 0, 0, 0, 4, 0, 0, 0, 14, 0, 0, 0, 0, 0, 0, 0, 0, 0, 0, 0,
		6, 0, 0, 0, 3, 0, 0, 0, 2, 24)
	encodes(t, []string{"\xFF"},
		16, 0, 0, 0, 5, 0, 0, 0, 5, 0, 0, 0, 0, 0, 0, 0, 0, 0, 0, 0,
		1, 0, 0, 0, 255,
		16, 0, 0, 0, 2, 0, 0, 0, 2, 0, 0, 0, 0, 0, 0, 0, 0, 0, 0, 0,
		5, 0, 0, 0, 1, 0, 0, 0, 0)
	// 1 0, 1 0, 1 0, 1 0, 0 are the bits of 85.
	encodes(t, []string{"か"},
		16, 0, 0, 0, 9, 0, 0, 0, 85, 0, 0, 0, 0, 0, 0, 0, 0, 0, 0, 0,
		3, 0, 0, 0, 0xE3, 0x81, 0x8B,
		16, 0, 0, 0, 4, 0, 0, 0, 8, 0, 0, 0, 0, 0, 0, 0, 0, 0, 0, 0,
		5, 0, 0, 0, 1, 0, 0, 0, 0)
	// 1 0, 1 1 1 0, 0, 1 1 0, 0, 0, 0 are the bits of 413.
	encodes(t, []string{"\x00", "\x7F\x80", "\x7F\x81", "\x80"},
		16, 0, 0, 0, 13, 0, 0, 0, 0x9D, 1, 0, 0, 0, 0, 0, 0, 0, 0, 0, 0,
		5, 0, 0, 0, 0, 0x7F, 0x80, 0x80, 0x81,
		16, 0, 0, 0, 6, 0, 0, 0, 0x3A, 0, 0, 0, 0, 0, 0, 0, 0, 0, 0, 0,
		6, 0, 0, 0, 4, 0, 0, 0, 2, 0x9C)
}

// P11.5: the second reading puts the codes together that the chapter shows, and those of sets that do not fit.
func TestReferenceCodes(t *testing.T) {
	p := partsOf([]string{"a", "ab", "b"})
	if !slices.Equal(p.shape, read("10 110 10 0 0")) || string(p.labels) != "abb" || !slices.Equal(p.ends, read("0111")) || !slices.Equal(p.numbers, []uint64{0, 2, 1}) {
		t.Errorf("%v", p)
	}
	for _, c := range []struct{ n, count int }{{524287, 2100}, {524287, 20000}, {524288, 2100}, {524288, 20000}} {
		if n := len(partsOf(withNodes(c.n, c.count)).ends); n != c.n {
			t.Errorf("%d strings: %d nodes, want %d", c.count, n, c.n)
		}
	}
}

// codes are the codes of some small sets.
func codes() [][]byte {
	var l [][]byte
	for _, set := range [][]string{nil, {"a"}, {"か"}, {"a", "ab", "b"}, {"aa", "ab"}, {"a", "b", "c", "cc"}, {"\x00", "\xFF\x80\x7F", "\xFF\xFF"}, some(rand.New(rand.NewSource(5)), 40, 9, "abc")} {
		l = append(l, codeOf(set))
	}
	return l
}

// P11.5: codes that are too short or too long as a whole.
func TestWrongLengths(t *testing.T) {
	for _, code := range codes() {
		for i := range code {
			refuses(t, code[:i])
			if i > 0 {
				decodes(t, code[i:])
			}
		}
		for more := 1; more <= 20; more++ {
			refuses(t, append(slices.Clone(code), bytesOf(more, 0)...))
			refuses(t, append(slices.Clone(code), bytesOf(more, 255)...))
		}
		refuses(t, slices.Concat(code, code))
		refuses(t, append(slices.Clone(code), 0, 0, 0, 0))
	}
	for n := range 100 {
		refuses(t, bytesOf(n, 0))
		refuses(t, bytesOf(n, 255))
		refuses(t, bytesOf(n, 1))
	}
}

// P11.5: codes of which one part is too short or too long, and such with fewer, more or exchanged parts.
func TestWrongParts(t *testing.T) {
	for _, code := range codes() {
		l, ok := partsIn(code)
		if !ok || !slices.Equal(join(l...), code) {
			t.Fatalf("the parts of %s: %x", shorten(code), l)
		}
		for i, part := range l {
			with := func(part []byte) []byte {
				others := slices.Clone(l)
				others[i] = part
				return join(others...)
			}
			for n := range part {
				refuses(t, with(part[:n]))
				if n > 0 {
					refuses(t, with(part[n:]))
				}
			}
			for _, b := range []byte{0, 1, 255} {
				for _, more := range []int{1, 2, 4, 8, 12} {
					refuses(t, with(append(slices.Clone(part), bytesOf(more, b)...)))
					refuses(t, with(append(bytesOf(more, b), part...)))
				}
			}
			refuses(t, join(slices.Delete(slices.Clone(l), i, i+1)...))
			refuses(t, join(slices.Insert(slices.Clone(l), i, part)...))
			refuses(t, join(slices.Insert(slices.Clone(l), i, nil)...))
			for j := range i {
				others := slices.Clone(l)
				others[i], others[j] = others[j], others[i]
				decodes(t, join(others...))
			}
		}
		refuses(t, join(append(l, nil)...))
		refuses(t, slices.Concat(l...))
	}
}

// P11.5: the sizes of the parts before those of other sizes.
func TestOtherSizes(t *testing.T) {
	for _, code := range codes() {
		l, _ := partsIn(code)
		at := 0
		for _, part := range l {
			for _, size := range []int{0, 1, len(part) - 1, len(part) + 1, len(part) + 4, len(code) - at - 4, len(code) - at - 3, len(code), 1 << 16, 1 << 24, 1<<31 - 1, 1 << 31, 1<<32 - 1, 1<<32 - 4, len(part) + 1<<24} {
				changed := slices.Clone(code)
				binary.LittleEndian.PutUint32(changed[at:], uint32(size))
				decodes(t, changed)
			}
			at += 4 + len(part)
		}
	}
}

// P11.5: codes in which one bit or one byte is another one.
func TestChangedCodes(t *testing.T) {
	r := rand.New(rand.NewSource(7))
	taken, refused := 0, 0
	try := func(b []byte) {
		if decodes(t, b) {
			taken++
		} else {
			refused++
		}
	}
	for _, code := range codes() {
		for i := range code {
			for j := range 8 {
				changed := slices.Clone(code)
				changed[i] ^= 1 << j
				try(changed)
			}
			changed := slices.Clone(code)
			changed[i] = byte(r.Intn(256))
			try(changed)
		}
	}
	for range 3000 {
		changed := codeOf(some(r, r.Intn(30), 6, "abcd"))
		for range 1 + r.Intn(3) {
			changed[r.Intn(len(changed))] ^= 1 << r.Intn(8)
		}
		try(changed)
	}
	if taken < 100 || refused < 1000 {
		t.Errorf("%d are taken, and %d refused", taken, refused)
	}
}

// P11.5: shapes, labels and bits that are not those of a set, in codes that are right otherwise.
func TestNoSets(t *testing.T) {
	for _, p := range []parts{
		// The shape does not begin with 1 0.
		{read("00 110 10 0 0"), []byte("abb"), read("0111"), []uint64{0, 2, 1}},
		{read("11 110 10 0 0"), []byte("abb"), read("0111"), []uint64{0, 2, 1}},
		{read("01 110 10 0 0"), []byte("abb"), read("0111"), []uint64{0, 2, 1}},
		{read("110 10 0 0"), []byte("abb"), read("0111"), []uint64{0, 2, 1}},
		{read("0 110 10 0 0"), []byte("abb"), read("0111"), []uint64{0, 2, 1}},
		{read("1"), nil, read("0"), nil},
		{read("10"), nil, read("0"), nil},
		{nil, nil, read("0"), nil},
		{nil, nil, nil, nil},
		{read("000"), nil, read("0"), nil},
		{read("010"), nil, read("0"), nil},
		{read("110"), nil, read("0"), nil},
		// The shape has a zero more or less than it has nodes.
		{read("10 110 10 0 0 0"), []byte("abb"), read("0111"), []uint64{0, 2, 1}},
		{read("10 110 10 0"), []byte("abb"), read("0111"), []uint64{0, 2, 1}},
		{read("10 0 0"), nil, read("0"), nil},
		{read("10 0 0"), nil, read("00"), nil},
		{read("10 1"), []byte("a"), read("01"), []uint64{0}},
		{read("10 10"), []byte("a"), read("01"), []uint64{0}},
		{read("10 0 1"), []byte("a"), read("01"), []uint64{0}},
		// A node is its own child or that of one behind it.
		{read("10 0 10"), []byte("a"), read("01"), []uint64{0}},
		{read("10 0 1 0 0"), []byte("a"), read("01"), []uint64{0}},
		{read("10 10 0 10 0"), []byte("aa"), read("011"), []uint64{0, 1}},
		{read("10 0 110 0"), []byte("ab"), read("011"), []uint64{0, 1}},
		{read("10 10 0 0 110"), []byte("abc"), read("0111"), []uint64{0, 1, 2}},
		// More or fewer labels than nodes.
		{read("10 110 10 0 0"), []byte("ab"), read("0111"), []uint64{0, 2, 1}},
		{read("10 110 10 0 0"), []byte("abbb"), read("0111"), []uint64{0, 2, 1}},
		{read("10 110 10 0 0"), nil, read("0111"), []uint64{0, 2, 1}},
		{read("10 0"), []byte("a"), read("0"), nil},
		{read("10 0"), []byte("a"), read("1"), []uint64{0}},
		// Labels of the children of a node that do not ascend.
		{read("10 110 10 0 0"), []byte("bab"), read("0111"), []uint64{0, 2, 1}},
		{read("10 110 10 0 0"), []byte("bab"), read("0111"), []uint64{1, 0, 2}},
		{read("10 110 10 0 0"), []byte("aab"), read("0111"), []uint64{0, 2, 1}},
		{read("10 110 10 0 0"), []byte("aab"), read("0111"), []uint64{0, 1, 2}},
		{read("10 110 0 0"), []byte("ba"), read("011"), []uint64{0, 1}},
		{read("10 110 0 0"), []byte("ba"), read("011"), []uint64{1, 0}},
		{read("10 110 0 0"), []byte("aa"), read("011"), []uint64{0, 1}},
		{read("10 110 0 0"), []byte("\x80\x7F"), read("011"), []uint64{0, 1}},
		{read("10 1110 0 0 0"), []byte("acb"), read("0111"), []uint64{0, 1, 2}},
		// Nodes with which no string begins.
		{read("10 10 0"), []byte("a"), read("00"), nil},
		{read("10 110 10 0 0"), []byte("abb"), read("0110"), []uint64{0, 1}},
		{read("10 110 10 0 0"), []byte("abb"), read("0101"), []uint64{0, 1}},
		{read("10 10 10 0"), []byte("ab"), read("010"), []uint64{0}},
		// More or fewer bits than nodes.
		{read("10 110 10 0 0"), []byte("abb"), read("011"), []uint64{0, 1}},
		{read("10 110 10 0 0"), []byte("abb"), read("01111"), []uint64{0, 2, 1, 3}},
		{read("10 110 10 0 0"), []byte("abb"), read("01110"), []uint64{0, 2, 1}},
		{read("10 0"), nil, nil, nil},
		{read("10 0"), nil, read("00"), nil},
		{read("10 0"), nil, read("01"), []uint64{0}},
		// The empty string.
		{read("10 0"), nil, read("1"), []uint64{0}},
		{read("10 110 10 0 0"), []byte("abb"), read("1111"), []uint64{0, 1, 3, 2}},
		{read("10 110 10 0 0"), []byte("abb"), read("1111"), []uint64{0, 2, 1, 3}},
		{read("10 10 0"), []byte("a"), read("10"), []uint64{0}},
	} {
		refuses(t, p.code())
		if l, ok := setIn(p.code()); ok {
			t.Errorf("the second reading takes the code of %s", show(l))
		}
	}
	for _, l := range [][]string{{"", "a"}, {"", "a", "ab", "b"}, {""}, {"\x00", ""}} {
		refuses(t, codeOf(l))
	}
}

// P11.5: numbers that are not those of the strings.
func TestWrongNumbers(t *testing.T) {
	p := partsOf([]string{"a", "ab", "b"})
	for _, numbers := range [][]uint64{nil, {0}, {0, 1}, {0, 2}, {0, 1, 2}, {1, 0, 2}, {1, 2, 0}, {2, 0, 1}, {2, 1, 0}, {0, 2, 2}, {0, 1, 1}, {0, 0, 1}, {0, 0, 0}, {2, 2, 2}, {1, 1, 1}, {0, 2, 3}, {0, 3, 1}, {1, 3, 2}, {0, 2, 1 << 20}, {0, 1 << 63, 1}, {1<<64 - 1, 2, 1}, {0, 2, 1, 3}, {0, 2, 1, 0}, {0, 3, 1, 2}, {0, 2, 1, 1, 1}} {
		p.numbers = numbers
		refuses(t, join(bitsCode(p.shape), p.labels, bitsCode(p.ends), wide(numbers)))
	}
	l, _ := partsIn(codeOf([]string{"a", "ab", "b"}))
	for w := 3; w < 66; w++ {
		refuses(t, join(l[0], l[1], l[2], numbersCode([]uint64{0, 2, 1}, w)))
	}
	refuses(t, join(l[0], l[1], l[2], []byte{3, 0, 0, 0, 2, 24 + 64}))
	refuses(t, join(l[0], l[1], l[2], []byte{3, 0, 0, 0, 2, 24 + 128}))
	refuses(t, join(l[0], l[1], l[2], []byte{0, 0, 0x10, 0, 0}))
	refuses(t, join(l[0], l[1], bitsCode(read("0000")), []byte{0, 0, 0x10, 0, 0}))
	none, _ := partsIn(codeOf(nil))
	refuses(t, join(none[0], none[1], none[2], []byte{1, 0, 0, 0, 0}))
	refuses(t, join(none[0], none[1], none[2], []byte{0, 0, 0x10, 0, 0}))
	r := rand.New(rand.NewSource(9))
	for range 500 {
		p := partsOf(some(r, 2+r.Intn(20), 4, "abc"))
		i := r.Intn(len(p.numbers))
		switch r.Intn(3) {
		case 0:
			p.numbers[i] = uint64(r.Intn(len(p.numbers) + 3))
		case 1:
			j := r.Intn(len(p.numbers))
			p.numbers[i], p.numbers[j] = p.numbers[j], p.numbers[i]
		case 2:
			p.numbers = slices.Delete(p.numbers, i, i+1)
		}
		decodes(t, join(bitsCode(p.shape), p.labels, bitsCode(p.ends), wide(p.numbers)))
	}
}

// wide returns the code of numbers of any size.
func wide(l []uint64) []byte {
	w := 0
	for _, n := range l {
		for w < 64 && n>>w > 0 {
			w++
		}
	}
	return numbersCode(l, w)
}

// P11.5: bits of the shape and of the strings that are not in the form of chapter 9: bits behind the last one, and other counts.
func TestOtherForms(t *testing.T) {
	l, _ := partsIn(codeOf(some(rand.New(rand.NewSource(11)), 400, 5, "abcde")))
	for _, i := range []int{0, 2} {
		part := l[i]
		for n := len(part) - 16; n < len(part); n++ {
			others := slices.Clone(l)
			others[i] = slices.Clone(part)
			others[i][n]++
			decodes(t, join(others...))
		}
		for _, more := range []uint32{1, 64, 1 << 20, 1 << 31} {
			others := slices.Clone(l)
			others[i] = slices.Clone(part)
			binary.LittleEndian.PutUint32(others[i], binary.LittleEndian.Uint32(part)+more)
			refuses(t, join(others...))
		}
	}
}

// P11.5: codes that are right but for a string that is too long, too many strings, or too many nodes.
func TestTooLarge(t *testing.T) {
	for _, n := range []int{256, 257, 258, 300, 1000} {
		for _, l := range [][]string{{strings.Repeat("a", n)}, {"a", strings.Repeat("a", n)}, {"a", strings.Repeat("b", n), "c"}, {strings.Repeat("a", 256), strings.Repeat("b", n)}} {
			if n > 256 {
				refuses(t, codeOf(l))
			} else {
				holdsStrings(t, decoded(t, codeOf(l)), l)
			}
		}
	}
	for _, n := range []int{20001, 20002, 30000} {
		refuses(t, codeOf(many(n)))
	}
	for _, count := range []int{2100, 20000} {
		refuses(t, codeOf(withNodes(524288, count)))
	}
	refuses(t, codeOf(withNodes(600000, 2500)))
}

// P11.5: shapes that are much deeper than a string may be long.
func TestDeepShapes(t *testing.T) {
	for _, n := range []int{258, 1000, 20000} {
		shape := read("10")
		for range n - 1 {
			shape = append(shape, true, false)
		}
		shape = append(shape, false)
		ends := append([]bool{false}, all(n-1, true)...)
		numbers := make([]uint64, n-1)
		for i := range numbers {
			numbers[i] = uint64(i)
		}
		refuses(t, parts{shape, bytesOf(n-1, 'a'), ends, numbers}.code())
		refuses(t, parts{shape, bytesOf(n-1, 'a'), append(all(n-1, false), true), []uint64{0}}.code())
	}
}

// P11.5: every code with up to three nodes, also such that are no codes of a set.
func TestEverySmallCode(t *testing.T) {
	taken := 0
	for n := 1; n <= 3; n++ {
		for shape := range 1 << (2*n + 1) {
			for labels := range 1 << (n - 1) {
				for ends := range 1 << n {
					for _, numbers := range [][]uint64{nil, {0}, {1}, {0, 0}, {0, 1}, {1, 0}, {1, 1}, {0, 2}, {0, 1, 2}} {
						var p parts
						for i := range 2*n + 1 {
							p.shape = append(p.shape, shape>>i&1 == 1)
						}
						for i := range n - 1 {
							p.labels = append(p.labels, "ab"[labels>>i&1])
						}
						for i := range n {
							p.ends = append(p.ends, ends>>i&1 == 1)
						}
						p.numbers = numbers
						if decodes(t, p.code()) {
							taken++
						}
					}
				}
			}
		}
	}
	// None; a, b; aa, ab, ba, bb, each with and without its first byte; a and b.
	if taken != 1+2+8+1 {
		t.Errorf("%d are taken", taken)
	}
}

// P11.5: random shapes of trees, with random labels, strings and numbers in order.
func TestRandomCodes(t *testing.T) {
	r := rand.New(rand.NewSource(12))
	taken := 0
	for range 20000 {
		n := 1 + r.Intn(7)
		p := parts{shape: read("10"), ends: []bool{false}}
		for i, nodes := 0, 1; i < nodes; i++ {
			for nodes < n && (i == nodes-1 || r.Intn(2) == 0) {
				p.shape = append(p.shape, true)
				p.labels = append(p.labels, byte('a'+r.Intn(6)))
				p.ends = append(p.ends, r.Intn(5) > 0)
				nodes++
			}
			p.shape = append(p.shape, false)
		}
		p.numbers = numbersOf(p)
		if decodes(t, p.code()) {
			taken++
		}
	}
	if taken < 1000 || taken > 19000 {
		t.Errorf("%d are taken", taken)
	}
}

// numbersOf returns the numbers of the strings of a tree, in the order of its nodes.
func numbersOf(p parts) []uint64 {
	nodes, set, next := []string{""}, []string(nil), 2
	for i := 0; i < len(nodes); i++ {
		for ; p.shape[next]; next++ {
			nodes = append(nodes, nodes[i]+string(p.labels[len(nodes)-1:len(nodes)]))
		}
		next++
		if p.ends[i] {
			set = append(set, nodes[i])
		}
	}
	order := sorted(set...)
	numbers := make([]uint64, len(set))
	for i, s := range set {
		numbers[i] = uint64(slices.Index(order, s))
	}
	return numbers
}

// What is passed to Decode stays as it is and is not kept; what is beyond the length is not read (rule R3).
func TestDecodedBytesAreNotShared(t *testing.T) {
	for _, l := range [][]string{nil, {"a"}, {"a", "ab", "b"}, {"か", "かき"}} {
		code := codeOf(l)
		room := append(slices.Clone(code), bytesOf(100, 255)...)
		before := slices.Clone(room)
		trie := decoded(t, room[:len(code)])
		if !slices.Equal(room, before) {
			t.Errorf("Decode of %s changed it", shorten(code))
		}
		for i := range room {
			room[i] ^= 255
		}
		holds(t, trie, l)
		for i := range code {
			refuses(t, before[:i])
		}
	}
}
