package bitvec_test

import (
	"math/rand"
	"slices"
	"strings"
	"testing"

	"henkan/api"
	"henkan/bitvec"
)

// P9.1 to P9.5: the examples of the chapter.
func TestExamples(t *testing.T) {
	bits := read("1011")
	v := vectorOf(t, bits)
	ranks(t, v, bits, true, 3, 2)
	ranks(t, v, bits, false, 9, 1)
	selects(t, v, bits, true, 1, 2)
	selects(t, v, bits, true, 3, -1)
	selects(t, v, bits, false, -1, -1)
	code := []byte{4, 0, 0, 0, 13, 0, 0, 0, 0, 0, 0, 0, 0, 0, 0, 0}
	encodes(t, bits, code...)
	encodes(t, nil, 0, 0, 0, 0)
	refuses(t, nil)
	refuses(t, []byte{0, 0, 0, 0, 0})
	refuses(t, []byte{4, 0, 0, 0, 13, 0, 0, 0, 0, 0, 0, 0, 1, 0, 0, 0})
	refuses(t, []byte{4, 0, 0, 0, 29, 0, 0, 0, 0, 0, 0, 0, 0, 0, 0, 0})
	refuses(t, code[:15])
	refuses(t, []byte{65, 0, 0, 0, 1, 0, 0, 0, 0, 0, 0, 0, 0, 0, 0, 0})
	refuses(t, []byte{1, 0, 0, 0, 1, 0, 0, 0, 0, 0, 0, 0, 1, 0, 0, 0})
}

// P9.1: a nil vector has no bits.
func TestNil(t *testing.T) {
	var v *bitvec.Vec
	if v.Len() != 0 {
		t.Errorf("Len: %d", v.Len())
	}
	for _, i := range append(beyond(0), 0, 1) {
		if v.Get(i) {
			t.Errorf("Get(%d): true", i)
		}
		for _, b := range []bool{true, false} {
			ranks(t, v, nil, b, i, 0)
			selects(t, v, nil, b, i, -1)
		}
	}
	if got := v.Encode(); len(got) != 0 {
		t.Errorf("Encode: %x", got)
	}
}

// P9.1: no bits, in both forms that there are of them.
func TestNoBits(t *testing.T) {
	holds(t, vectorOf(t, nil), nil)
	holds(t, vectorOf(t, []bool{}), nil)
	holds(t, decoded(t, []byte{0, 0, 0, 0}), nil)
}

// P9.1 to P9.3: rows written out.
func TestRows(t *testing.T) {
	bits := read("0110100")
	v := vectorOf(t, bits)
	for i, want := range []bool{false, true, true, false, true, false, false, false, false} {
		if v.Get(i) != want {
			t.Errorf("Get(%d): %v", i, !want)
		}
	}
	for i, want := range []int{0, 0, 1, 2, 2, 3, 3, 3, 3, 3} {
		ranks(t, v, bits, true, i, want)
	}
	for i, want := range []int{0, 1, 1, 1, 2, 2, 3, 4, 4, 4} {
		ranks(t, v, bits, false, i, want)
	}
	for k, want := range []int{1, 2, 4, -1, -1} {
		selects(t, v, bits, true, k, want)
	}
	for k, want := range []int{0, 3, 5, 6, -1, -1} {
		selects(t, v, bits, false, k, want)
	}
}

// P9.2 and P9.3: rows written out, beyond the first words and blocks.
func TestLongRows(t *testing.T) {
	bits := read(strings.Repeat("0", 511) + "11" + strings.Repeat("0", 511) + "1")
	v := vectorOf(t, bits)
	for i, want := range map[int]int{-1: 0, 0: 0, 511: 0, 512: 1, 513: 2, 514: 2, 1023: 2, 1024: 2, 1025: 3, 1026: 3, least: 0, greatest: 3} {
		ranks(t, v, bits, true, i, want)
	}
	for i, want := range map[int]int{-1: 0, 0: 0, 511: 511, 512: 511, 513: 511, 514: 512, 1023: 1021, 1024: 1022, 1025: 1022, 1026: 1022, least: 0, greatest: 1022} {
		ranks(t, v, bits, false, i, want)
	}
	for k, want := range map[int]int{-1: -1, 0: 511, 1: 512, 2: 1024, 3: -1, least: -1, greatest: -1} {
		selects(t, v, bits, true, k, want)
	}
	for k, want := range map[int]int{-1: -1, 0: 0, 510: 510, 511: 513, 1021: 1023, 1022: -1, least: -1, greatest: -1} {
		selects(t, v, bits, false, k, want)
	}
}

// P9.1 to P9.4: vectors of all lengths that are near the ends of words and blocks.
func TestPatterns(t *testing.T) {
	r := rand.New(rand.NewSource(9))
	for _, n := range lengths() {
		for _, bits := range patterns(r, n) {
			holds(t, vectorOf(t, bits), bits)
		}
	}
}

// P9.1 to P9.4: every length up to some blocks.
func TestEveryLength(t *testing.T) {
	r := rand.New(rand.NewSource(91))
	for n := range 1100 {
		bits := some(r, n, 2)
		holds(t, vectorOf(t, bits), bits)
	}
}

// P9.1 to P9.5: as many bits as there may be.
func TestGreatest(t *testing.T) {
	r := rand.New(rand.NewSource(92))
	for _, bits := range [][]bool{all(1<<20, true), all(1<<20, false), some(r, 1<<20, 2), some(r, 1<<20, 3000), some(r, 1<<20-1, -3)} {
		v := vectorOf(t, bits)
		holds(t, v, bits)
		holds(t, decoded(t, v.Encode()), bits)
	}
}

// P9.1: more bits than there may be.
func TestTooLong(t *testing.T) {
	if bitvec.MaxBits != 1048576 {
		t.Errorf("MaxBits: %d", bitvec.MaxBits)
	}
	for _, n := range []int{1<<20 + 1, 1<<20 + 64, 1 << 21, 1<<24 + 3} {
		for _, b := range []bool{true, false} {
			if v, err := bitvec.New(all(n, b)); v != nil || err != api.ErrLong {
				t.Errorf("New of %d bits: %v, %d", n, v != nil, err)
			}
		}
	}
}

// P9.6: Select and Rank take each other back.
func TestInverse(t *testing.T) {
	r := rand.New(rand.NewSource(96))
	for range 300 {
		v := vectorOf(t, some(r, r.Intn(3000), []int{2, 3, -3, 100, -100}[r.Intn(5)]))
		for _, b := range []bool{true, false} {
			for k := -2; k < v.Len()+3; k++ {
				if i := v.Select(b, k); i != -1 && (v.Get(i) != b || v.Rank(b, i) != k || i < 0 || i >= v.Len()) {
					t.Fatalf("Select(%v, %d) is %d of %d, which is %v after %d", b, k, i, v.Len(), v.Get(i), v.Rank(b, i))
				}
			}
			for i := range v.Len() {
				if v.Get(i) == b && v.Select(b, v.Rank(b, i)) != i {
					t.Fatalf("bit %d of %d is %v after %d, but Select is %d", i, v.Len(), b, v.Rank(b, i), v.Select(b, v.Rank(b, i)))
				}
			}
		}
	}
}

// P9.7: the true and the false bits are all bits, and one more bit is counted once.
func TestSums(t *testing.T) {
	r := rand.New(rand.NewSource(97))
	for range 300 {
		v := vectorOf(t, some(r, r.Intn(3000), []int{2, 3, -3, 100, -100}[r.Intn(5)]))
		for i := range v.Len() + 1 {
			if v.Rank(true, i)+v.Rank(false, i) != i {
				t.Fatalf("before %d of %d there are %d and %d bits", i, v.Len(), v.Rank(true, i), v.Rank(false, i))
			}
		}
		for _, b := range []bool{true, false} {
			for i := range v.Len() {
				one := 0
				if v.Get(i) == b {
					one = 1
				}
				if v.Rank(b, i+1) != v.Rank(b, i)+one {
					t.Fatalf("bit %d of %d is %v, after %d and before %d", i, v.Len(), v.Get(i), v.Rank(b, i), v.Rank(b, i+1))
				}
			}
		}
	}
}

// What is passed to New stays as it is and is not kept; what is beyond the length is not read (rule R3).
func TestBitsAreNotShared(t *testing.T) {
	for _, n := range []int{0, 1, 63, 64, 100, 512, 600} {
		room := some(rand.New(rand.NewSource(3)), n+1000, 2)
		for i := range room[n:] {
			room[n+i] = true
		}
		before := slices.Clone(room)
		v := vectorOf(t, room[:n])
		holds(t, v, before[:n])
		if !slices.Equal(room, before) {
			t.Errorf("New of %d bits changed them", n)
		}
		for i := range room {
			room[i] = !room[i]
		}
		holds(t, v, before[:n])
	}
}

// Methods leave the vector as it is, and vectors share nothing with each other (rules R3 and R4).
func TestVectorsAreNotShared(t *testing.T) {
	r := rand.New(rand.NewSource(4))
	one, two := some(r, 700, 2), some(r, 1300, 3)
	v, w := vectorOf(t, one), vectorOf(t, two)
	again := decoded(t, v.Encode())
	for range 2 {
		holds(t, v, one)
		holds(t, w, two)
		holds(t, again, one)
	}
}
