package packed_test

import (
	"math/rand"
	"slices"
	"testing"

	"henkan/api"
	"henkan/packed"
)

// P10.1 to P10.3: the examples of the chapter.
func TestExamples(t *testing.T) {
	if w := sequenceOf(t, []uint64{5, 0, 3}).Width(); w != 3 {
		t.Errorf("Width: %d", w)
	}
	encodes(t, []uint64{5, 0, 3}, 3, 0, 0, 0, 3, 0xC5, 0)
	encodes(t, nil, 0, 0, 0, 0, 0)
	encodes(t, []uint64{0, 0}, 2, 0, 0, 0, 0)
	l := []uint64{1, 4, 4, 9}
	p := sequenceOf(t, l)
	finds(t, p, l, 0, 0)
	finds(t, p, l, 4, 1)
	finds(t, p, l, 5, 3)
	finds(t, p, l, 10, 4)
	holds(t, decoded(t, []byte{2, 0, 0, 0, 1, 2}), []uint64{0, 1})
	refuses(t, []byte{2, 0, 0, 0, 2, 1})
}

// P10.1: a nil sequence has no numbers and no code.
func TestNil(t *testing.T) {
	var p *packed.Ints
	if p.Len() != 0 || p.Width() != 0 {
		t.Errorf("Len: %d, Width: %d", p.Len(), p.Width())
	}
	for _, i := range append(beyond(0), 0, 1) {
		if n, ok := p.Get(i); n != 0 || ok {
			t.Errorf("Get(%d): %d, %v", i, n, ok)
		}
	}
	for _, n := range sought(nil) {
		finds(t, p, nil, n, 0)
	}
	if got := p.Encode(); len(got) != 0 {
		t.Errorf("Encode: %x", got)
	}
}

// P10.1: no numbers, in both forms that there are of them.
func TestNoNumbers(t *testing.T) {
	holdsAscending(t, sequenceOf(t, nil), nil)
	holdsAscending(t, sequenceOf(t, []uint64{}), nil)
	holdsAscending(t, decoded(t, []byte{0, 0, 0, 0, 0}), nil)
}

// P10.1: rows written out.
func TestRows(t *testing.T) {
	for _, c := range []struct {
		l     []uint64
		width int
	}{
		{[]uint64{0}, 0},
		{[]uint64{0, 0, 0, 0, 0, 0, 0, 0, 0}, 0},
		{[]uint64{1}, 1},
		{[]uint64{0, 1, 1, 0}, 1},
		{[]uint64{2, 3, 0}, 2},
		{[]uint64{0, 4}, 3},
		{[]uint64{7, 1}, 3},
		{[]uint64{1, 8}, 4},
		{[]uint64{255, 0, 254}, 8},
		{[]uint64{0, 256, 1}, 9},
		{[]uint64{2147483647, 2147483648}, 32},
		{[]uint64{4294967296, 4294967295}, 33},
		{[]uint64{9223372036854775807, 1, 2}, 63},
		{[]uint64{0, 9223372036854775808, 5}, 64},
		{[]uint64{1, 18446744073709551615, 0}, 64},
		{[]uint64{18446744073709551615, 18446744073709551615}, 64},
	} {
		p := sequenceOf(t, c.l)
		if p.Len() != len(c.l) || p.Width() != c.width {
			t.Errorf("%d: length %d, width %d, want %d", c.l, p.Len(), p.Width(), c.width)
		}
		holds(t, p, c.l)
	}
}

// P10.1 and P10.3: sequences of each width and of lengths at which numbers lie across the ends of bytes and words.
func TestWidths(t *testing.T) {
	r := rand.New(rand.NewSource(10))
	for w := range 65 {
		for _, n := range []int{0, 1, 2, 3, 4, 5, 7, 8, 9, 13, 16, 31, 32, 33, 63, 64, 65, 100, 200} {
			for _, l := range patterns(r, n, w) {
				if n > 0 && widthOf(l) != w {
					t.Fatalf("%s has not the width %d", show(l), w)
				}
				holds(t, sequenceOf(t, l), l)
				holds(t, decoded(t, codeOf(l)), l)
			}
		}
	}
}

// P10.1 to P10.3: as many numbers as there may be.
func TestGreatest(t *testing.T) {
	r := rand.New(rand.NewSource(101))
	for _, l := range [][]uint64{all(1<<20, 0), all(1<<20, 1), all(1<<20, top), some(r, 1<<20, 13), ascending(r, 1<<20, 20), ascending(r, 1<<20-1, 64)} {
		p := sequenceOf(t, l)
		holds(t, p, l)
		holds(t, decoded(t, p.Encode()), l)
		if !slices.IsSorted(l) {
			continue
		}
		for _, n := range append(sought(nil), l[0], l[1<<19], l[len(l)-1], l[0]+1, l[1<<19]+1, l[len(l)-1]+1) {
			finds(t, p, l, n, findOf(l, n))
		}
	}
}

// P10.1: more numbers than there may be.
func TestTooLong(t *testing.T) {
	if packed.MaxNumbers != 1048576 {
		t.Errorf("MaxNumbers: %d", packed.MaxNumbers)
	}
	for _, n := range []int{1<<20 + 1, 1<<20 + 64, 1 << 21} {
		for _, number := range []uint64{0, 1, top} {
			if p, err := packed.New(all(n, number)); p != nil || err != api.ErrLong {
				t.Errorf("New of %d numbers: %v, %d", n, p != nil, err)
			}
		}
	}
}

// P10.2: rows written out: numbers that stand there once, several times and not at all, below the first and above the last one.
func TestFind(t *testing.T) {
	for _, c := range []struct {
		l    []uint64
		n    uint64
		want int
	}{
		{nil, 0, 0},
		{nil, 18446744073709551615, 0},
		{[]uint64{0}, 0, 0},
		{[]uint64{0}, 1, 1},
		{[]uint64{3}, 2, 0},
		{[]uint64{3}, 3, 0},
		{[]uint64{3}, 4, 1},
		{[]uint64{0, 0, 0}, 0, 0},
		{[]uint64{0, 0, 0}, 1, 3},
		{[]uint64{2, 4, 6, 8}, 0, 0},
		{[]uint64{2, 4, 6, 8}, 2, 0},
		{[]uint64{2, 4, 6, 8}, 3, 1},
		{[]uint64{2, 4, 6, 8}, 4, 1},
		{[]uint64{2, 4, 6, 8}, 8, 3},
		{[]uint64{2, 4, 6, 8}, 9, 4},
		{[]uint64{2, 4, 6, 8}, 17, 4},
		{[]uint64{2, 4, 6, 8}, 18446744073709551615, 4},
		{[]uint64{5, 5, 5, 5, 5}, 4, 0},
		{[]uint64{5, 5, 5, 5, 5}, 5, 0},
		{[]uint64{5, 5, 5, 5, 5}, 6, 5},
		{[]uint64{1, 1, 2, 2, 2, 7, 7}, 1, 0},
		{[]uint64{1, 1, 2, 2, 2, 7, 7}, 2, 2},
		{[]uint64{1, 1, 2, 2, 2, 7, 7}, 3, 5},
		{[]uint64{1, 1, 2, 2, 2, 7, 7}, 7, 5},
		{[]uint64{1, 1, 2, 2, 2, 7, 7}, 8, 7},
		{[]uint64{0, 9223372036854775807, 9223372036854775808, 18446744073709551615}, 9223372036854775807, 1},
		{[]uint64{0, 9223372036854775807, 9223372036854775808, 18446744073709551615}, 9223372036854775808, 2},
		{[]uint64{0, 9223372036854775807, 9223372036854775808, 18446744073709551615}, 9223372036854775809, 3},
		{[]uint64{0, 9223372036854775807, 9223372036854775808, 18446744073709551615}, 18446744073709551615, 3},
		{[]uint64{0, 9223372036854775807, 9223372036854775808, 18446744073709551614}, 18446744073709551615, 4},
	} {
		finds(t, sequenceOf(t, c.l), c.l, c.n, c.want)
		finds(t, decoded(t, codeOf(c.l)), c.l, c.n, c.want)
	}
}

// P10.2: ascending sequences of each length and width.
func TestAscending(t *testing.T) {
	r := rand.New(rand.NewSource(102))
	for n := range 40 {
		for w := range 65 {
			l := ascending(r, n, w)
			holdsAscending(t, sequenceOf(t, l), l)
			holdsAscending(t, decoded(t, codeOf(l)), l)
		}
	}
}

// P10.6: the numbers before Find are less, and those from there on are not.
func TestOrder(t *testing.T) {
	r := rand.New(rand.NewSource(106))
	for range 300 {
		p := sequenceOf(t, ascending(r, r.Intn(300), r.Intn(65)))
		for range 30 {
			n := some(r, 1, max(1, p.Width()+r.Intn(2))%65)[0]
			found := p.Find(n)
			if found < 0 || found > p.Len() {
				t.Fatalf("Find(%d) of %d numbers: %d", n, p.Len(), found)
			}
			for i := range p.Len() {
				if number, _ := p.Get(i); number < n != (i < found) {
					t.Fatalf("Find(%d) is %d, but number %d is %d", n, found, i, number)
				}
			}
		}
	}
}

// Find ends in a sequence that is not ascending, too, and does not change what it returns (rules R1 and R4).
func TestFindWithoutOrder(t *testing.T) {
	r := rand.New(rand.NewSource(103))
	for range 300 {
		l := some(r, r.Intn(50), r.Intn(65))
		p := sequenceOf(t, l)
		for _, n := range sought(l) {
			if one, two := p.Find(n), p.Find(n); one != two || one < 0 || one > len(l) {
				t.Fatalf("Find(%d) in %s: %d, %d", n, show(l), one, two)
			}
		}
	}
}

// What is passed to New stays as it is and is not kept; what is beyond the length is not read (rule R3).
func TestNumbersAreNotShared(t *testing.T) {
	for _, n := range []int{0, 1, 2, 64, 100} {
		for _, w := range []int{0, 1, 7, 63, 64} {
			room := append(some(rand.New(rand.NewSource(3)), n, w), all(1000, top)...)
			before := slices.Clone(room)
			p := sequenceOf(t, room[:n])
			holds(t, p, before[:n])
			if !slices.Equal(room, before) {
				t.Errorf("New of %d numbers changed them", n)
			}
			for i := range room {
				room[i] = ^room[i]
			}
			holds(t, p, before[:n])
		}
	}
}

// Methods leave the sequence as it is, and sequences share nothing with each other (rules R3 and R4).
func TestSequencesAreNotShared(t *testing.T) {
	r := rand.New(rand.NewSource(4))
	one, two := ascending(r, 70, 13), ascending(r, 130, 64)
	p, q := sequenceOf(t, one), sequenceOf(t, two)
	again := decoded(t, p.Encode())
	for range 2 {
		holdsAscending(t, p, one)
		holdsAscending(t, q, two)
		holdsAscending(t, again, one)
	}
}
