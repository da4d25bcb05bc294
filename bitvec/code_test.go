package bitvec_test

import (
	"encoding/binary"
	"math/rand"
	"slices"
	"testing"

	"henkan/bitvec"
)

// encodes checks the code of bits, in both directions.
func encodes(t *testing.T, bits []bool, code ...byte) {
	t.Helper()
	if got := vectorOf(t, bits).Encode(); !slices.Equal(got, code) {
		t.Errorf("Encode of %s: %s, want %s", show(bits), shorten(got), shorten(code))
	}
	holds(t, decoded(t, code), bits)
}

// decodes checks that Decode does what the second reading does, and that a code which is taken is the code of what it returned.
func decodes(t *testing.T, b []byte) bool {
	t.Helper()
	bits, ok := bitsOf(b)
	if !ok {
		refuses(t, b)
		return false
	}
	v := decoded(t, b)
	holds(t, v, bits)
	if got := v.Encode(); !slices.Equal(got, b) {
		t.Errorf("Decode of %s: the code is %s", shorten(b), shorten(got))
	}
	return true
}

// bytesOf returns n bytes that are b.
func bytesOf(n int, b byte) []byte { return slices.Repeat([]byte{b}, n) }

// P9.4 and P9.5: codes written out.
func TestCodes(t *testing.T) {
	ones := func(n int) []byte { return bytesOf(n, 255) }
	zeros := func(n int) []byte { return bytesOf(n, 0) }
	encodes(t, read("0"), 1, 0, 0, 0, 0, 0, 0, 0, 0, 0, 0, 0, 0, 0, 0, 0)
	encodes(t, read("1"), 1, 0, 0, 0, 1, 0, 0, 0, 0, 0, 0, 0, 0, 0, 0, 0)
	encodes(t, read("00000001"+"10000000"+"1001"), 20, 0, 0, 0, 128, 1, 9, 0, 0, 0, 0, 0, 0, 0, 0, 0)
	encodes(t, all(63, true), slices.Concat([]byte{63, 0, 0, 0}, ones(7), []byte{127}, zeros(4))...)
	encodes(t, all(63, false), slices.Concat([]byte{63, 0, 0, 0}, zeros(12))...)
	encodes(t, all(64, true), slices.Concat([]byte{64, 0, 0, 0}, ones(8), zeros(4))...)
	encodes(t, all(64, false), slices.Concat([]byte{64, 0, 0, 0}, zeros(12))...)
	encodes(t, all(65, true), slices.Concat([]byte{65, 0, 0, 0}, ones(8), []byte{1}, zeros(11))...)
	encodes(t, all(65, false), slices.Concat([]byte{65, 0, 0, 0}, zeros(20))...)
	encodes(t, all(511, true), slices.Concat([]byte{255, 1, 0, 0}, ones(63), []byte{127}, zeros(4))...)
	encodes(t, all(512, true), slices.Concat([]byte{0, 2, 0, 0}, ones(64), zeros(4))...)
	encodes(t, all(512, false), slices.Concat([]byte{0, 2, 0, 0}, zeros(68))...)
	encodes(t, all(513, true), slices.Concat([]byte{1, 2, 0, 0}, ones(64), []byte{1}, zeros(11), []byte{0, 2, 0, 0})...)
	encodes(t, turned(all(513, false), 0, 511, 512), slices.Concat([]byte{1, 2, 0, 0, 1}, zeros(62), []byte{128, 1}, zeros(11), []byte{2, 0, 0, 0})...)
	encodes(t, all(1025, true), slices.Concat([]byte{1, 4, 0, 0}, ones(128), []byte{1}, zeros(11), []byte{0, 2, 0, 0, 0, 4, 0, 0})...)
	encodes(t, turned(all(1025, false), 600, 1024), slices.Concat([]byte{1, 4, 0, 0}, zeros(75), []byte{1}, zeros(52), []byte{1}, zeros(7), zeros(8), []byte{1, 0, 0, 0})...)
}

// P9.4: the parts of the longest code.
func TestLongestCode(t *testing.T) {
	b := vectorOf(t, all(1<<20, true)).Encode()
	if len(b) != 4+131072+8192 || !slices.Equal(b[:4], []byte{0, 0, 16, 0}) || !slices.Equal(b[4:131076], bytesOf(131072, 255)) {
		t.Errorf("%s", shorten(b))
	}
	for i := range 2048 {
		if got := binary.LittleEndian.Uint32(b[131076+4*i:]); got != uint32(512*i) {
			t.Fatalf("count %d: %d", i, got)
		}
	}
}

// P9.5: codes that are shorter or longer than they say.
func TestWrongLengths(t *testing.T) {
	r := rand.New(rand.NewSource(5))
	for _, n := range []int{0, 1, 7, 8, 9, 63, 64, 65, 511, 512, 513, 1025} {
		for _, bits := range [][]bool{all(n, true), all(n, false), some(r, n, 2)} {
			code := codeOf(bits)
			for i := range code {
				refuses(t, code[:i])
				if i > 0 {
					decodes(t, code[i:])
				}
			}
			for more := 1; more <= 20; more++ {
				refuses(t, append(slices.Clone(code), bytesOf(more, 0)...))
				refuses(t, append(slices.Clone(code), bytesOf(more, 255)...))
			}
		}
	}
	for n := range 40 {
		refuses(t, bytesOf(n, 255))
		if n != 4 {
			refuses(t, bytesOf(n, 0))
		}
	}
}

// P9.5: each number of bits before the words and counts of another number.
func TestOtherNumbers(t *testing.T) {
	for _, n := range []int{0, 1, 3, 63, 64, 65, 128, 512, 513, 1024, 1025} {
		for other := range 1200 {
			for _, b := range []bool{true, false} {
				code := codeOf(all(n, b))
				binary.LittleEndian.PutUint32(code, uint32(other))
				if rounded(n, 64) != rounded(other, 64) || b && other < n {
					refuses(t, code)
				} else {
					decodes(t, code)
				}
			}
		}
		for _, number := range []uint32{1 << 16, 1<<16 + 1, 1 << 20, 1<<20 + 1, 1 << 24, 1 << 31, 1<<31 + 1, 1<<32 - 64, 1<<32 - 1} {
			code := codeOf(all(n, false))
			binary.LittleEndian.PutUint32(code, number|uint32(n))
			refuses(t, code)
		}
	}
}

// P9.5: codes that are right but for more bits than a vector may have.
func TestTooManyBits(t *testing.T) {
	for _, b := range []bool{true, false} {
		holds(t, decoded(t, codeOf(all(1<<20, b))), all(1<<20, b))
		for _, n := range []int{1<<20 + 1, 1<<20 + 64, 1<<20 + 65, 1<<20 + 513, 1 << 21, 1 << 24} {
			refuses(t, codeOf(all(n, b)))
		}
	}
}

// P9.5: bits behind the last one.
func TestBitsBehind(t *testing.T) {
	for _, n := range []int{1, 2, 7, 8, 9, 31, 32, 33, 62, 63, 65, 100, 127, 511, 513, 570, 1025} {
		for _, b := range []bool{true, false} {
			code := codeOf(all(n, b))
			for i := n; i%64 != 0; i++ {
				code[4+i/8] ^= 1 << (i % 8)
				refuses(t, code)
				code[4+i/8] ^= 1 << (i % 8)
			}
			decodes(t, code)
		}
	}
}

// P9.5: counts that are not those of the words.
func TestWrongCounts(t *testing.T) {
	r := rand.New(rand.NewSource(6))
	for _, n := range []int{1, 64, 512, 513, 1024, 1025, 2000} {
		for _, bits := range [][]bool{all(n, true), all(n, false), some(r, n, 2)} {
			code := codeOf(bits)
			for i := 4 + 8*rounded(n, 64); i < len(code); i++ {
				for bit := range 8 {
					code[i] ^= 1 << bit
					refuses(t, code)
					code[i] ^= 1 << bit
				}
			}
			decodes(t, code)
		}
	}
	// The counts of words that are true up to the count and with it, and those of false bits.
	refuses(t, slices.Concat([]byte{0, 2, 0, 0}, bytesOf(64, 255), []byte{0, 2, 0, 0}))
	refuses(t, slices.Concat([]byte{1, 2, 0, 0}, bytesOf(64, 255), []byte{1}, bytesOf(11, 0), []byte{1, 2, 0, 0}))
	refuses(t, slices.Concat([]byte{1, 2, 0, 0}, bytesOf(72, 0), bytesOf(4, 0), []byte{0, 2, 0, 0}))
}

// P9.5: codes in which one bit or one byte is another one.
func TestChangedCodes(t *testing.T) {
	r := rand.New(rand.NewSource(7))
	taken, refused := 0, 0
	for range 300 {
		code := codeOf(some(r, r.Intn(1100), []int{2, 3, -3, 100}[r.Intn(4)]))
		for range 30 {
			changed := slices.Clone(code)
			i := r.Intn(len(changed))
			changed[i] = []byte{changed[i] ^ 1<<r.Intn(8), changed[i] + 1, changed[i] - 1, byte(r.Intn(256))}[r.Intn(4)]
			if decodes(t, changed) {
				taken++
			} else {
				refused++
			}
		}
	}
	if taken < 500 || refused < 500 {
		t.Errorf("%d are taken, and %d refused", taken, refused)
	}
}

// P9.8: Decode and Encode take each other back.
func TestRoundTrip(t *testing.T) {
	r := rand.New(rand.NewSource(98))
	for range 500 {
		bits := some(r, r.Intn(2500), []int{2, 3, -3, 100, -100}[r.Intn(5)])
		code := vectorOf(t, bits).Encode()
		v := decoded(t, code)
		holds(t, v, bits)
		if got := v.Encode(); !slices.Equal(got, code) {
			t.Errorf("the code of what was decoded of %s: %s", shorten(code), shorten(got))
		}
	}
}

// What Encode returns is new each time (rule R3).
func TestCodeIsNotShared(t *testing.T) {
	for _, n := range []int{0, 1, 64, 600} {
		bits := some(rand.New(rand.NewSource(1)), n, 2)
		for _, v := range []*bitvec.Vec{vectorOf(t, bits), decoded(t, codeOf(bits))} {
			one, two := v.Encode(), v.Encode()
			room := one[:cap(one)]
			for i := range room {
				room[i] ^= 255
			}
			if !slices.Equal(two, codeOf(bits)) {
				t.Errorf("%s: %s", show(bits), shorten(two))
			}
			holds(t, v, bits)
		}
	}
}

// What is passed to Decode stays as it is and is not kept; what is beyond the length is not read (rule R3).
func TestDecodedBytesAreNotShared(t *testing.T) {
	for _, n := range []int{0, 1, 64, 65, 512, 600} {
		bits := some(rand.New(rand.NewSource(2)), n, 2)
		code := codeOf(bits)
		room := append(slices.Clone(code), bytesOf(100, 255)...)
		before := slices.Clone(room)
		v := decoded(t, room[:len(code)])
		if !slices.Equal(room, before) {
			t.Errorf("Decode of %s changed it", shorten(code))
		}
		for i := range room {
			room[i] ^= 255
		}
		holds(t, v, bits)
		for i := range code {
			refuses(t, before[:i])
		}
	}
}
