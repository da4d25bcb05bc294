package bitvec_test

import (
	"encoding/binary"
	"fmt"
	"math/rand"
	"slices"
	"testing"

	"henkan/api"
	"henkan/bitvec"
)

// The tests hold the package against a second reading of the chapter: bits are counted one by one, places are listed in ascending order, a code is put together from the bits of each of its bytes, and what is no code is found part by part.

// least and greatest are the ends of the numbers.
const (
	least    = -1 << 63
	greatest = 1<<63 - 1
)

// placesOf returns the places of the bits that are b.
func placesOf(bits []bool, b bool) []int {
	var l []int
	for i, bit := range bits {
		if bit == b {
			l = append(l, i)
		}
	}
	return l
}

// rounded returns n / size, rounded up.
func rounded(n, size int) int {
	for n%size != 0 {
		n++
	}
	return n / size
}

// codeOf returns the code of bits.
func codeOf(bits []bool) []byte {
	b := binary.LittleEndian.AppendUint32(nil, uint32(len(bits)))
	data := make([]byte, 8*rounded(len(bits), 64))
	for _, place := range placesOf(bits, true) {
		data[place/8] += []byte{1, 2, 4, 8, 16, 32, 64, 128}[place%8]
	}
	b = append(b, data...)
	trues := uint32(0)
	for i, bit := range bits {
		if i%512 == 0 {
			b = binary.LittleEndian.AppendUint32(b, trues)
		}
		if bit {
			trues++
		}
	}
	return b
}

// bitsOf returns the bits of which b is the code, or false.
func bitsOf(b []byte) ([]bool, bool) {
	if len(b) < 4 {
		return nil, false
	}
	n := int(binary.LittleEndian.Uint32(b))
	if n > 1048576 || len(b) != 4+8*rounded(n, 64)+4*rounded(n, 512) {
		return nil, false
	}
	var bits []bool
	for i := range rounded(n, 64) {
		word := fmt.Sprintf("%064b", binary.LittleEndian.Uint64(b[4+8*i:]))
		for j := range 64 {
			bits = append(bits, word[63-j] == '1')
		}
	}
	if slices.Contains(bits[n:], true) {
		return nil, false
	}
	for i := range rounded(n, 512) {
		if int(binary.LittleEndian.Uint32(b[4+8*rounded(n, 64)+4*i:])) != len(placesOf(bits[:512*i], true)) {
			return nil, false
		}
	}
	return bits[:n], true
}

// holds checks all methods of the vector of bits: at all places and beyond.
func holds(t *testing.T, v *bitvec.Vec, bits []bool) {
	t.Helper()
	if v == nil || v.Len() != len(bits) {
		t.Fatalf("Len of the vector of %s: %d", show(bits), v.Len())
	}
	for i, bit := range bits {
		if v.Get(i) != bit {
			t.Fatalf("Get(%d) of %s: %v", i, show(bits), v.Get(i))
		}
	}
	for _, i := range beyond(len(bits)) {
		if v.Get(i) {
			t.Errorf("Get(%d) of %s: true", i, show(bits))
		}
	}
	for _, b := range []bool{true, false} {
		holdsCounts(t, v, bits, b)
	}
	if got := v.Encode(); !slices.Equal(got, codeOf(bits)) {
		t.Errorf("Encode of %s: %s", show(bits), shorten(got))
	}
}

// holdsCounts checks Rank and Select for the bits that are b.
func holdsCounts(t *testing.T, v *bitvec.Vec, bits []bool, b bool) {
	t.Helper()
	places := placesOf(bits, b)
	for _, i := range beyond(len(bits)) {
		want := 0
		if i > 0 {
			want = len(places)
		}
		ranks(t, v, bits, b, i, want)
	}
	before := 0
	for i, bit := range bits {
		ranks(t, v, bits, b, i, before)
		if bit == b {
			before++
		}
	}
	for k, place := range places {
		selects(t, v, bits, b, k, place)
	}
	for _, k := range beyond(len(places)) {
		selects(t, v, bits, b, k, -1)
	}
}

// ranks checks one call of Rank.
func ranks(t *testing.T, v *bitvec.Vec, bits []bool, b bool, i, want int) {
	if got := v.Rank(b, i); got != want {
		t.Helper()
		t.Fatalf("Rank(%v, %d) of %s: %d, want %d", b, i, show(bits), got, want)
	}
}

// selects checks one call of Select.
func selects(t *testing.T, v *bitvec.Vec, bits []bool, b bool, k, want int) {
	if got := v.Select(b, k); got != want {
		t.Helper()
		t.Fatalf("Select(%v, %d) of %s: %d, want %d", b, k, show(bits), got, want)
	}
}

// refuses checks that there is no vector for a code.
func refuses(t *testing.T, b []byte) {
	t.Helper()
	if v, err := bitvec.Decode(b); v != nil || err != api.ErrForm {
		t.Errorf("Decode of %s: %v, %d, want no vector and %d", shorten(b), v != nil, err, api.ErrForm)
	}
}

// vectorOf returns the vector of bits, as New makes it.
func vectorOf(t *testing.T, bits []bool) *bitvec.Vec {
	t.Helper()
	v, err := bitvec.New(bits)
	if v == nil || err != api.OK {
		t.Fatalf("New of %s: %v, %d", show(bits), v != nil, err)
	}
	return v
}

// decoded returns the vector of a code, as Decode makes it.
func decoded(t *testing.T, b []byte) *bitvec.Vec {
	t.Helper()
	v, err := bitvec.Decode(b)
	if v == nil || err != api.OK {
		t.Fatalf("Decode of %s: %v, %d", shorten(b), v != nil, err)
	}
	return v
}

// beyond returns numbers that are not from 0 to n - 1, those near them among them.
func beyond(n int) []int {
	l := []int{least, least + 1, -1 << 32, -1 << 31, -1<<31 - 1, -1 << 20, -1025, -513, -512, -511, -65, -64, -63, -2, -1}
	for _, more := range []int{0, 1, 2, 63, 64, 65, 511, 512, 513, 1 << 20, 1<<31 - 1, 1 << 31, 1 << 32, 1 << 62} {
		l = append(l, n+more)
	}
	return append(l, greatest-1, greatest)
}

// read returns the bits of a text of 1 and 0.
func read(text string) []bool {
	l := make([]bool, len(text))
	for i, c := range text {
		l[i] = c == '1'
	}
	return l
}

// all returns n bits that are b.
func all(n int, b bool) []bool { return slices.Repeat([]bool{b}, n) }

// turned returns bits with another bit at some places.
func turned(bits []bool, places ...int) []bool {
	bits = slices.Clone(bits)
	for _, i := range places {
		bits[i] = !bits[i]
	}
	return bits
}

// some returns n bits; about one of every rare is true, or false if rare is negative.
func some(r *rand.Rand, n, rare int) []bool {
	l := make([]bool, n)
	for i := range l {
		l[i] = r.Intn(max(rare, -rare)) == 0 == (rare > 0)
	}
	return l
}

// lengths are numbers of bits around those at which bytes, words and blocks end.
func lengths() []int {
	return []int{0, 1, 2, 3, 7, 8, 9, 31, 32, 33, 63, 64, 65, 127, 128, 129, 447, 448, 449, 511, 512, 513, 575, 576, 577, 1023, 1024, 1025, 1535, 1536, 1537, 4095, 4096, 4097, 5000}
}

// patterns returns vectors of n bits: of equal ones, of equal ones but for one, and of random ones.
func patterns(r *rand.Rand, n int) [][]bool {
	l := [][]bool{all(n, true), all(n, false)}
	if n == 0 {
		return l
	}
	for _, b := range []bool{true, false} {
		for _, i := range []int{0, n / 2, n - 1} {
			l = append(l, turned(all(n, b), i))
		}
	}
	for _, rare := range []int{2, 2, 3, -3, 50, -50, 700, -700} {
		l = append(l, some(r, n, rare))
	}
	return l
}

// show writes bits for a message.
func show(bits []bool) string {
	s := ""
	for _, bit := range bits[:min(len(bits), 80)] {
		s += map[bool]string{true: "1", false: "0"}[bit]
	}
	return fmt.Sprintf("%d bits %s", len(bits), s)
}

// shorten writes bytes for a message.
func shorten(b []byte) string { return fmt.Sprintf("%d bytes %.60x", len(b), b) }
