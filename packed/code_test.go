package packed_test

import (
	"encoding/binary"
	"math/rand"
	"slices"
	"testing"

	"henkan/packed"
)

// P10.3: codes written out.
func TestCodes(t *testing.T) {
	encodes(t, []uint64{0}, 1, 0, 0, 0, 0)
	encodes(t, all(300, 0), 44, 1, 0, 0, 0)
	encodes(t, all(1<<20, 0), 0, 0, 16, 0, 0)
	encodes(t, []uint64{1}, 1, 0, 0, 0, 1, 1)
	encodes(t, []uint64{1, 0, 0, 0, 0, 0, 0, 1}, 8, 0, 0, 0, 1, 0x81)
	encodes(t, []uint64{0, 1, 1, 0, 1, 0, 0, 0, 1}, 9, 0, 0, 0, 1, 0x16, 1)
	encodes(t, []uint64{3, 0, 2, 1}, 4, 0, 0, 0, 2, 0x63)
	encodes(t, []uint64{3, 0, 2, 1, 2}, 5, 0, 0, 0, 2, 0x63, 2)
	encodes(t, []uint64{7, 0, 4, 1}, 4, 0, 0, 0, 3, 0x07, 3)
	encodes(t, []uint64{127, 1, 64}, 3, 0, 0, 0, 7, 0xFF, 0, 16)
	encodes(t, []uint64{200, 0, 255}, 3, 0, 0, 0, 8, 200, 0, 255)
	encodes(t, []uint64{256, 255, 511}, 3, 0, 0, 0, 9, 0, 0xFF, 0xFD, 7)
	encodes(t, []uint64{0x1234, 0xFEDC}, 2, 0, 0, 0, 16, 0x34, 0x12, 0xDC, 0xFE)
	encodes(t, []uint64{1 << 32, 1}, 2, 0, 0, 0, 33, 0, 0, 0, 0, 3, 0, 0, 0, 0)
	encodes(t, []uint64{1 << 62, 1, 1<<63 - 1}, 3, 0, 0, 0, 63, 0, 0, 0, 0, 0, 0, 0, 0xC0, 0, 0, 0, 0, 0, 0, 0, 0xC0, 255, 255, 255, 255, 255, 255, 255, 31)
	encodes(t, []uint64{0x0123456789ABCDEF, top, 1 << 63}, 3, 0, 0, 0, 64, 0xEF, 0xCD, 0xAB, 0x89, 0x67, 0x45, 0x23, 1, 255, 255, 255, 255, 255, 255, 255, 255, 0, 0, 0, 0, 0, 0, 0, 128)
}

// P10.5: how many bytes a code has.
func TestSize(t *testing.T) {
	r := rand.New(rand.NewSource(105))
	for _, c := range []struct{ n, w, bytes int }{{0, 0, 5}, {1, 0, 5}, {1 << 20, 0, 5}, {1, 1, 6}, {8, 1, 6}, {9, 1, 7}, {1, 64, 13}, {3, 3, 7}, {8, 3, 8}, {5, 63, 45}, {1000, 13, 1630}, {1 << 20, 64, 8388613}} {
		l := all(c.n, 0)
		if c.w > 0 {
			l[c.n/2] = 1 << (c.w - 1)
		}
		if got := len(sequenceOf(t, l).Encode()); got != c.bytes {
			t.Errorf("%d numbers with the width %d: %d bytes, want %d", c.n, c.w, got, c.bytes)
		}
	}
	for range 1000 {
		p := sequenceOf(t, some(r, r.Intn(400), r.Intn(65)))
		if got, want := len(p.Encode()), 5+(p.Len()*p.Width()+7)/8; got != want {
			t.Errorf("%d numbers with the width %d: %d bytes, want %d", p.Len(), p.Width(), got, want)
		}
	}
}

// P10.4: Decode and Encode take each other back.
func TestRoundTrip(t *testing.T) {
	r := rand.New(rand.NewSource(104))
	for range 1000 {
		l := some(r, r.Intn(300), r.Intn(65))
		code := sequenceOf(t, l).Encode()
		p := decoded(t, code)
		holds(t, p, l)
		if got := p.Encode(); !slices.Equal(got, code) {
			t.Errorf("the code of what was decoded of %s: %s", shorten(code), shorten(got))
		}
	}
}

// P10.3: codes that are shorter or longer than they say.
func TestWrongLengths(t *testing.T) {
	r := rand.New(rand.NewSource(5))
	for w := range 65 {
		for _, n := range []int{0, 1, 2, 7, 8, 9, 20} {
			code := codeOf(some(r, n, w))
			for i := range code {
				refuses(t, code[:i])
				if i > 0 {
					decodes(t, code[i:])
				}
			}
			for more := 1; more <= 10; more++ {
				refuses(t, append(slices.Clone(code), bytesOf(more, 0)...))
				refuses(t, append(slices.Clone(code), bytesOf(more, 255)...))
			}
		}
	}
	for n := range 40 {
		refuses(t, bytesOf(n, 255))
		if n != 5 {
			refuses(t, bytesOf(n, 0))
		}
	}
}

// P10.3: a width that is not the least one: greater, with as many bits as it needs, and less.
func TestWrongWidths(t *testing.T) {
	r := rand.New(rand.NewSource(6))
	for w := range 65 {
		for _, n := range []int{0, 1, 2, 8, 9, 30} {
			l := some(r, n, w)
			for other := range 65 {
				if other > widthOf(l) {
					refuses(t, codeWith(l, other))
				} else {
					decodes(t, codeWith(l, other))
				}
			}
		}
	}
}

// P10.3: each width before the bits of another one, those above 64 among them.
func TestOtherWidths(t *testing.T) {
	for _, l := range [][]uint64{nil, {0}, {1}, {1, 0, 1}, {5, 0, 3}, {top}, {top, top}, {1 << 62, 1<<63 - 1}, all(8, 3), all(16, top)} {
		code := codeOf(l)
		taken := 0
		for w := range 256 {
			code[4] = byte(w)
			if decodes(t, code) {
				taken++
			}
		}
		if taken == 0 {
			t.Errorf("%s: no width is taken", show(l))
		}
	}
}

// P10.3: widths above 64, with all bits that they say.
func TestTooWide(t *testing.T) {
	for _, n := range []int{0, 1, 2, 3, 8, 64, 65} {
		for w := 65; w < 256; w++ {
			for _, b := range []byte{0, 1, 127, 128, 255} {
				refuses(t, slices.Concat([]byte{byte(n), 0, 0, 0, byte(w)}, bytesOf(rounded(n*w, 8), b)))
			}
		}
	}
	for _, w := range []byte{65, 128, 255} {
		refuses(t, append([]byte{0, 0, 16, 0, w}, bytesOf(rounded(1<<20*int(w), 8), 255)...))
	}
}

// P10.3: bits behind the last number.
func TestBitsBehind(t *testing.T) {
	for w := 1; w <= 64; w++ {
		for n := 1; n <= 16; n++ {
			for _, number := range []uint64{1 << (w - 1), top >> (64 - w)} {
				code := codeOf(all(n, number))
				for i := n * w; i%8 != 0; i++ {
					code[5+i/8] ^= 1 << (i % 8)
					refuses(t, code)
					code[5+i/8] ^= 1 << (i % 8)
				}
				decodes(t, code)
			}
		}
	}
}

// P10.3: each number of numbers before the bits of another one.
func TestOtherNumbers(t *testing.T) {
	for _, w := range []int{0, 1, 2, 3, 7, 8, 9, 63, 64} {
		for _, n := range []int{0, 1, 3, 8, 9, 100} {
			code := codeOf(all(n, uint64(top)>>(64-w)))
			for other := range 300 {
				binary.LittleEndian.PutUint32(code, uint32(other))
				decodes(t, code)
			}
			for _, number := range []uint32{1<<20 + 1, 1<<20 + 64, 1 << 21, 1 << 24, 1 << 31, 1<<31 + 1, 1<<32 - 1} {
				binary.LittleEndian.PutUint32(code, number)
				refuses(t, code)
			}
		}
	}
}

// P10.3: codes that are right but for more numbers than a sequence may have.
func TestTooManyNumbers(t *testing.T) {
	for _, number := range []uint64{0, 1, 1 << 12} {
		holds(t, decoded(t, codeOf(all(1<<20, number))), all(1<<20, number))
		for _, n := range []int{1<<20 + 1, 1<<20 + 8, 1 << 21} {
			refuses(t, codeOf(all(n, number)))
		}
	}
	refuses(t, []byte{0, 0, 32, 0, 0})
	refuses(t, []byte{0, 0, 0, 1, 0})
	refuses(t, []byte{255, 255, 255, 255, 0})
}

// P10.3: codes in which one bit or one byte is another one.
func TestChangedCodes(t *testing.T) {
	r := rand.New(rand.NewSource(7))
	taken, refused := 0, 0
	for range 1000 {
		code := codeOf(some(r, r.Intn(40), r.Intn(65)))
		for range 30 {
			changed := slices.Clone(code)
			i := r.Intn(len(changed))
			changed[i] = []byte{changed[i] ^ 1<<r.Intn(8), changed[i] + 1, changed[i] - 1, byte(r.Intn(256))}[r.Intn(4)]
			if decodes(t, changed) {
				taken++
			} else {
				refused++
			}
		}
	}
	if taken < 500 || refused < 500 {
		t.Errorf("%d are taken, and %d refused", taken, refused)
	}
}

// P10.3: short codes of random bytes.
func TestRandomCodes(t *testing.T) {
	r := rand.New(rand.NewSource(8))
	taken := 0
	for range 30000 {
		n, w := r.Intn(6), r.Intn(10)
		code := []byte{byte(n), 0, 0, 0, byte(w)}
		for range rounded(n*w, 8) {
			code = append(code, byte(r.Intn(256))>>r.Intn(8))
		}
		if decodes(t, code) {
			taken++
		}
	}
	if taken < 3000 || taken > 27000 {
		t.Errorf("%d are taken", taken)
	}
}

// What Encode returns is new each time (rule R3).
func TestCodeIsNotShared(t *testing.T) {
	for _, l := range [][]uint64{nil, {0, 0}, {5, 0, 3}, all(20, top)} {
		for _, p := range []*packed.Ints{sequenceOf(t, l), decoded(t, codeOf(l))} {
			one, two := p.Encode(), p.Encode()
			room := one[:cap(one)]
			for i := range room {
				room[i] ^= 255
			}
			if !slices.Equal(two, codeOf(l)) {
				t.Errorf("%s: %s", show(l), shorten(two))
			}
			holds(t, p, l)
		}
	}
}

// What is passed to Decode stays as it is and is not kept; what is beyond the length is not read (rule R3).
func TestDecodedBytesAreNotShared(t *testing.T) {
	for _, l := range [][]uint64{nil, {0, 0}, {5, 0, 3}, all(20, top)} {
		code := codeOf(l)
		room := append(slices.Clone(code), bytesOf(100, 255)...)
		before := slices.Clone(room)
		p := decoded(t, room[:len(code)])
		if !slices.Equal(room, before) {
			t.Errorf("Decode of %s changed it", shorten(code))
		}
		for i := range room {
			room[i] ^= 255
		}
		holds(t, p, l)
		for i := range code {
			refuses(t, before[:i])
		}
	}
}
