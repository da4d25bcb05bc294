package packed_test

import (
	"encoding/binary"
	"fmt"
	"math/rand"
	"slices"
	"testing"

	"henkan/api"
	"henkan/packed"
)

// The tests hold the package against a second reading of the chapter: the width is tried out from 0 on, a code is put together from the digits of its numbers in base 2, what is no code is found part by part, and the place of a number is found by looking at one number after the other.

// least, greatest and top are the ends of the numbers.
const (
	least    = -1 << 63
	greatest = 1<<63 - 1
	top      = 1<<64 - 1
)

// widthOf returns the least width that is enough for all numbers.
func widthOf(l []uint64) int {
	w := 0
	for _, n := range l {
		for w < 64 && n >= uint64(1)<<w {
			w++
		}
	}
	return w
}

// codeWith returns what is the code of the numbers if the width is theirs.
func codeWith(l []uint64, w int) []byte {
	var digits []byte
	for _, n := range l {
		digits = append(digits, digitsOf(n, w)...)
	}
	b := append(binary.LittleEndian.AppendUint32(nil, uint32(len(l))), byte(w))
	for part := range slices.Chunk(digits, 8) {
		sum := byte(0)
		for i, digit := range part {
			sum += digit * []byte{1, 2, 4, 8, 16, 32, 64, 128}[i]
		}
		b = append(b, sum)
	}
	return b
}

// digitsOf returns the w lowest digits of n in base 2, the lowest one first.
func digitsOf(n uint64, w int) []byte {
	l := make([]byte, w)
	for i := range l {
		l[i] = byte(n % 2)
		n /= 2
	}
	return l
}

// codeOf returns the code of numbers.
func codeOf(l []uint64) []byte { return codeWith(l, widthOf(l)) }

// numbersOf returns the numbers of which b is the code, or false.
func numbersOf(b []byte) ([]uint64, bool) {
	if len(b) < 5 {
		return nil, false
	}
	n, w := int(binary.LittleEndian.Uint32(b)), int(b[4])
	if n > 1048576 || w > 64 || len(b) != 5+rounded(n*w, 8) {
		return nil, false
	}
	var digits []byte
	for _, c := range b[5:] {
		digits = append(digits, digitsOf(uint64(c), 8)...)
	}
	if slices.Contains(digits[n*w:], 1) {
		return nil, false
	}
	l := make([]uint64, n)
	for i := range l {
		for j, digit := range digits[i*w : i*w+w] {
			l[i] += uint64(digit) << j
		}
	}
	return l, widthOf(l) == w
}

// rounded returns n / size, rounded up.
func rounded(n, size int) int {
	for n%size != 0 {
		n++
	}
	return n / size
}

// findOf returns the index of the first number that is not less than n, or how many numbers there are.
func findOf(l []uint64, n uint64) int {
	for i, number := range l {
		if number >= n {
			return i
		}
	}
	return len(l)
}

// holds checks all methods of the sequence of numbers but Find: at all indices and beyond.
func holds(t *testing.T, p *packed.Ints, l []uint64) {
	t.Helper()
	if p == nil || p.Len() != len(l) || p.Width() != widthOf(l) {
		t.Fatalf("the sequence of %s: %v, length %d, width %d, want width %d", show(l), p != nil, p.Len(), p.Width(), widthOf(l))
	}
	for i, n := range l {
		if got, ok := p.Get(i); got != n || !ok {
			t.Fatalf("Get(%d) of %s: %d, %v, want %d", i, show(l), got, ok, n)
		}
	}
	for _, i := range beyond(len(l)) {
		if got, ok := p.Get(i); got != 0 || ok {
			t.Errorf("Get(%d) of %s: %d, %v", i, show(l), got, ok)
		}
	}
	if got := p.Encode(); !slices.Equal(got, codeOf(l)) {
		t.Errorf("Encode of %s: %s", show(l), shorten(got))
	}
}

// holdsAscending checks all methods of the sequence of numbers, each of which is not less than the one before it.
func holdsAscending(t *testing.T, p *packed.Ints, l []uint64) {
	t.Helper()
	holds(t, p, l)
	if !slices.IsSorted(l) {
		t.Fatalf("%s is not ascending", show(l))
	}
	for _, n := range sought(l) {
		finds(t, p, l, n, findOf(l, n))
	}
}

// sought returns numbers that are sought in a sequence: all that stand there, those beside them, and the ends.
func sought(l []uint64) []uint64 {
	all := []uint64{0, 1, 1 << 32, 1 << 63, top - 1, top}
	for _, n := range l {
		all = append(all, n-1, n, n+1)
	}
	return all
}

// finds checks one call of Find.
func finds(t *testing.T, p *packed.Ints, l []uint64, n uint64, want int) {
	if got := p.Find(n); got != want {
		t.Helper()
		t.Fatalf("Find(%d) in %s: %d, want %d", n, show(l), got, want)
	}
}

// refuses checks that there is no sequence for a code.
func refuses(t *testing.T, b []byte) {
	t.Helper()
	if p, err := packed.Decode(b); p != nil || err != api.ErrForm {
		t.Errorf("Decode of %s: %v, %d, want no sequence and %d", shorten(b), p != nil, err, api.ErrForm)
	}
}

// sequenceOf returns the sequence of numbers, as New makes it.
func sequenceOf(t *testing.T, l []uint64) *packed.Ints {
	t.Helper()
	p, err := packed.New(l)
	if p == nil || err != api.OK {
		t.Fatalf("New of %s: %v, %d", show(l), p != nil, err)
	}
	return p
}

// decoded returns the sequence of a code, as Decode makes it.
func decoded(t *testing.T, b []byte) *packed.Ints {
	t.Helper()
	p, err := packed.Decode(b)
	if p == nil || err != api.OK {
		t.Fatalf("Decode of %s: %v, %d", shorten(b), p != nil, err)
	}
	return p
}

// decodes checks that Decode does what the second reading does, and that a code which is taken is the code of what it returned.
func decodes(t *testing.T, b []byte) bool {
	t.Helper()
	l, ok := numbersOf(b)
	if !ok {
		refuses(t, b)
		return false
	}
	p := decoded(t, b)
	holds(t, p, l)
	if got := p.Encode(); !slices.Equal(got, b) {
		t.Errorf("Decode of %s: the code is %s", shorten(b), shorten(got))
	}
	return true
}

// encodes checks the code of numbers, in both directions.
func encodes(t *testing.T, l []uint64, code ...byte) {
	t.Helper()
	if got := sequenceOf(t, l).Encode(); !slices.Equal(got, code) {
		t.Errorf("Encode of %s: %s, want %s", show(l), shorten(got), shorten(code))
	}
	holds(t, decoded(t, code), l)
}

// beyond returns numbers that are not from 0 to n - 1, those near them among them.
func beyond(n int) []int {
	l := []int{least, least + 1, -1 << 58, -1 << 32, -1 << 31, -1<<31 - 1, -1 << 20, -65, -64, -63, -2, -1}
	for _, more := range []int{0, 1, 2, 63, 64, 65, 1 << 20, 1<<31 - 1, 1 << 31, 1 << 32, 1 << 57, 1 << 58, 1 << 62} {
		l = append(l, n+more)
	}
	return append(l, greatest-1, greatest)
}

// all returns n numbers that are equal.
func all(n int, number uint64) []uint64 { return slices.Repeat([]uint64{number}, n) }

// bytesOf returns n bytes that are b.
func bytesOf(n int, b byte) []byte { return slices.Repeat([]byte{b}, n) }

// some returns n numbers less than 2^w, of all sizes.
func some(r *rand.Rand, n, w int) []uint64 {
	l := make([]uint64, n)
	for i := range l {
		if w > 0 {
			l[i] = r.Uint64() >> (64 - w) >> []int{0, 0, r.Intn(w)}[r.Intn(3)]
		}
	}
	return l
}

// ascending returns n numbers less than 2^w in order, some of which are equal.
func ascending(r *rand.Rand, n, w int) []uint64 {
	l := some(r, n, w)
	for i := range l {
		if i > 0 && r.Intn(4) == 0 {
			l[i] = l[i-1]
		}
	}
	slices.Sort(l)
	return l
}

// patterns returns sequences of n numbers with the width w: of equal ones, with one that needs the width, and of random ones.
func patterns(r *rand.Rand, n, w int) [][]uint64 {
	if w == 0 || n == 0 {
		return [][]uint64{all(n, 0)}
	}
	highest, lowest := uint64(top)>>(64-w), uint64(1)<<(w-1)
	l := [][]uint64{all(n, highest), all(n, lowest)}
	for _, i := range []int{0, n / 2, n - 1} {
		for _, number := range []uint64{highest, lowest} {
			one := all(n, 0)
			one[i] = number
			other := some(r, n, w)
			other[i] = number
			l = append(l, one, other)
		}
	}
	return l
}

// show writes numbers for a message.
func show(l []uint64) string {
	return fmt.Sprintf("%d numbers %d", len(l), l[:min(len(l), 12)])
}

// shorten writes bytes for a message.
func shorten(b []byte) string { return fmt.Sprintf("%d bytes %.60x", len(b), b) }
