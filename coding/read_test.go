package coding_test

import (
	"math/rand"
	"runtime"
	"slices"
	"strings"
	"testing"

	"henkan/coding"
)

// P12.1 to P12.5: each kind of values at each index of codes of all kinds, and beyond.
func TestIndices(t *testing.T) {
	for _, b := range [][]byte{
		nil, {}, {0}, {1}, {127}, {128}, {255}, {0x80, 0}, {0x80, 1}, bytesOf(12, 0), bytesOf(12, 1), bytesOf(12, 2), bytesOf(12, 128), bytesOf(12, 255),
		codeOfUint(top), codeOfInt(least), codeOfText("かな"), codeOfList([]string{"a", "ab", "", "b"}), codeOfSorted([]string{"a", "ab", "b", "ba"}),
		slices.Concat(codeOfSorted([]string{"", "x"}), codeOfUint(1<<40), codeOfList([]string{"", "\x00\x01a", ""}), codeOfUint(top)),
	} {
		numbers().readsEverywhere(t, b)
		signed().readsEverywhere(t, b)
		texts().readsEverywhere(t, b)
		lists().readsEverywhere(t, b)
		sorted().readsEverywhere(t, b)
	}
}

// refusesNumber checks that nothing is read where the code of a number should be: of a number, of how many bytes or strings there are, or of how many bytes strings have in common.
func refusesNumber(t *testing.T, b ...byte) {
	t.Helper()
	numbers().refuses(t, b...)
	signed().refuses(t, b...)
	texts().refuses(t, b...)
	lists().refuses(t, b...)
	sorted().refuses(t, b...)
	lists().refuses(t, append([]byte{1}, b...)...)
	sorted().refuses(t, append([]byte{1}, b...)...)
	sorted().refuses(t, append([]byte{1, 0}, b...)...)
	sorted().refuses(t, append([]byte{2, 0, 1, 'a'}, b...)...)
	sorted().refuses(t, append([]byte{2, 0, 1, 'a', 1}, b...)...)
}

// P12.1: codes whose last byte is 0 where that may not be, whatever follows.
func TestLastByteZero(t *testing.T) {
	for n := 1; n <= 12; n++ {
		for _, c := range []byte{0x80, 0x81, 0xFF} {
			refusesNumber(t, append(bytesOf(n, c), 0)...)
			refusesNumber(t, append(bytesOf(n, c), 0, 1, 'a', 1, 0)...)
		}
	}
	refusesNumber(t, 0x81, 0)
	refusesNumber(t, 0x80, 0x80, 0)
	refusesNumber(t, 0x83, 0x80, 0)
}

// P12.1: codes without an end, and of more than ten bytes.
func TestLongNumbers(t *testing.T) {
	for n := range 30 {
		for _, c := range []byte{0x80, 0x81, 0xFF} {
			refusesNumber(t, bytesOf(n, c)...)
			if n < 10 {
				continue
			}
			for _, last := range []byte{0, 1, 2, 127} {
				refusesNumber(t, append(bytesOf(n, c), last)...)
				refusesNumber(t, append(bytesOf(n, c), last, 0, 0, 0)...)
			}
		}
	}
}

// P12.1: each tenth byte: only 1 tells a number that is not too great.
func TestTenthByte(t *testing.T) {
	for _, c := range []byte{0x80, 0x81, 0xFF} {
		for last := range 256 {
			b := append(bytesOf(9, c), byte(last))
			if last == 1 {
				if !numbers().reads(t, b, 0) || !signed().reads(t, b, 0) {
					t.Errorf("%x is refused", b)
				}
				continue
			}
			refusesNumber(t, b...)
			refusesNumber(t, append(b, 0)...)
			refusesNumber(t, append(b, 1)...)
		}
	}
	refusesNumber(t, append(bytesOf(9, 0x80), 2)...)
	refusesNumber(t, append(bytesOf(9, 0x80), 0x81, 1)...)
}

// greater returns numbers that are greater than n.
func greater(n int) []uint64 {
	return []uint64{uint64(n) + 1, uint64(n) + 2, uint64(n) + 128, 1 << 16, 1 << 31, 1 << 32, 1<<32 + uint64(n), 1<<63 - 1, 1 << 63, 1<<63 + uint64(n), top - 1, top}
}

// P12.3 to P12.5: more bytes than there are.
func TestTooManyBytes(t *testing.T) {
	for n := range 300 {
		for _, more := range greater(n) {
			b := append(codeOfUint(more), bytesOf(n, 'a')...)
			texts().refuses(t, b...)
			lists().refuses(t, append([]byte{1}, b...)...)
			lists().refuses(t, append([]byte{2, 0}, b...)...)
			sorted().refuses(t, append([]byte{1, 0}, b...)...)
			sorted().refuses(t, append([]byte{2, 0, 0, 0}, b...)...)
			sorted().refuses(t, append([]byte{2, 0, 1, 'A', 1}, b...)...)
		}
		if !texts().reads(t, append(codeOfLength(n), bytesOf(n, 'a')...), 0) {
			t.Errorf("a string of %d bytes is refused", n)
		}
	}
}

// P12.4 and P12.5: more strings than there are.
func TestTooManyStrings(t *testing.T) {
	for n := range 300 {
		for _, more := range greater(n) {
			lists().refuses(t, append(codeOfUint(more), bytesOf(n, 0)...)...)
			lists().refuses(t, append(codeOfUint(more), codeOfList(make([]string, n))[len(codeOfLength(n)):]...)...)
			sorted().refuses(t, append(codeOfUint(more), bytesOf(n, 0)...)...)
		}
	}
	for _, l := range edgeSorted() {
		for _, more := range greater(len(l)) {
			sorted().refuses(t, append(codeOfUint(more), codeOfSorted(l)[len(codeOfLength(len(l))):]...)...)
			lists().refuses(t, append(codeOfUint(more), codeOfList(l)[len(codeOfLength(len(l))):]...)...)
		}
	}
}

// P12.4: a list is read up to its end alone, though more strings follow.
func TestFewerStrings(t *testing.T) {
	l := []string{"", "a", "", "bcd", "か"}
	for n := range len(l) + 1 {
		b := append(codeOfLength(n), codeOfList(l)[1:]...)
		if got, next, ok := coding.List(b, 0); !slices.Equal(got, l[:n]) || next != len(codeOfList(l[:n])) || !ok {
			t.Errorf("List of %x: %q, %d, %v", b, got, next, ok)
		}
	}
	l = []string{"", "a", "ab", "b", "か"}
	for n := range len(l) + 1 {
		b := append(codeOfLength(n), codeOfSorted(l)[1:]...)
		if got, next, ok := coding.Sorted(b, 0); !slices.Equal(got, l[:n]) || next != len(codeOfSorted(l[:n])) || !ok {
			t.Errorf("Sorted of %x: %q, %d, %v", b, got, next, ok)
		}
	}
}

// P12.5: a common beginning that is longer than the string before.
func TestLongCommon(t *testing.T) {
	k := sorted()
	for _, n := range greater(0) {
		k.refuses(t, slices.Concat([]byte{1}, codeOfUint(n), []byte{0})...)
		k.refuses(t, slices.Concat([]byte{1}, codeOfUint(n), []byte{1, 'a'})...)
		k.refuses(t, slices.Concat([]byte{2, 0, 0}, codeOfUint(n), []byte{1, 'a'})...)
	}
	for _, n := range greater(1) {
		k.refuses(t, slices.Concat([]byte{2, 0, 1, 'a'}, codeOfUint(n), []byte{1, 'b'})...)
		// The string before the one before is longer.
		k.refuses(t, slices.Concat([]byte{3, 0, 3, 'a', 'a', 'a', 0, 1, 'b'}, codeOfUint(n), []byte{1, 'b'})...)
	}
	for _, n := range greater(128) {
		k.refuses(t, slices.Concat([]byte{2, 0, 0x80, 1}, bytesOf(128, 'a'), codeOfUint(n), []byte{1, 'b'})...)
	}
}

// P12.5: a common beginning that is not all that two strings have in common.
func TestShortCommon(t *testing.T) {
	k := sorted()
	k.refuses(t, 2, 0, 1, 'a', 0, 2, 'a', 'b')
	k.refuses(t, 2, 0, 1, 'a', 0, 2, 'a', 0)
	k.refuses(t, 2, 0, 2, 'a', 'b', 1, 2, 'b', 'c')
	k.refuses(t, 2, 0, 2, 'a', 'b', 0, 2, 'a', 'c')
	k.refuses(t, 2, 0, 2, 'a', 'b', 0, 3, 'a', 'b', 'c')
	k.refuses(t, 3, 0, 1, 'a', 0, 1, 'b', 0, 2, 'b', 'a')
	for _, l := range edgeSorted() {
		refusesCommon(t, l, func(n int) int { return n - 1 })
		refusesCommon(t, l, func(n int) int { return n / 2 })
		refusesCommon(t, l, func(int) int { return 0 })
	}
}

// refusesCommon checks that codes are refused in which strings have another number of bytes in common with the one before them than they should, and all their other bytes.
func refusesCommon(t *testing.T, l []string, other func(int) int) {
	t.Helper()
	for i := 1; i < min(len(l), 40); i++ {
		// The strings up to this one alone are written, the last one by hand.
		head := codeOfSorted(l[:i])
		head = append(codeOfLength(i+1), head[len(codeOfLength(i)):]...)
		n := 0
		for n < len(l[i-1]) && l[i-1][n] == l[i][n] {
			n++
		}
		changed := other(n)
		if changed >= 0 && changed != n {
			sorted().refuses(t, slices.Concat(head, codeOfLength(changed), codeOfText(l[i][changed:]))...)
		}
		if got, _, ok := coding.Sorted(slices.Concat(head, codeOfLength(n), codeOfText(l[i][n:])), 0); !ok || !slices.Equal(got, l[:i+1]) {
			t.Fatalf("Sorted refuses %s: %v, %s", show(l[:i+1]), ok, show(got))
		}
	}
}

// P12.5: strings that do not ascend.
func TestDescending(t *testing.T) {
	k := sorted()
	k.refuses(t, 2, 0, 0, 0, 0)
	k.refuses(t, 2, 0, 1, 'a', 1, 0)
	k.refuses(t, 2, 0, 1, 'a', 0, 0)
	k.refuses(t, 2, 0, 2, 'a', 'b', 1, 0)
	k.refuses(t, 2, 0, 1, 'b', 0, 1, 'a')
	k.refuses(t, 2, 0, 1, 'b', 0, 2, 'a', 'z')
	k.refuses(t, 2, 0, 2, 'a', 'b', 1, 1, 'a')
	k.refuses(t, 2, 0, 1, 255, 0, 1, 127)
	k.refuses(t, 2, 0, 1, 128, 0, 1, 127)
	k.refuses(t, 2, 0, 1, 1, 0, 1, 0)
	k.refuses(t, 3, 0, 1, 'b', 0, 1, 'a', 0, 1, 'c')
	k.refuses(t, 3, 0, 1, 'a', 0, 1, 'c', 0, 1, 'b')
	k.refuses(t, 3, 0, 1, 'a', 0, 1, 'c', 1, 0)
	for _, l := range edgeSorted() {
		if len(strings.Join(l, "")) > 2000 {
			continue
		}
		for i := range min(len(l), 30) {
			for j := range i {
				exchanged := slices.Clone(l)
				exchanged[i], exchanged[j] = exchanged[j], exchanged[i]
				k.refuses(t, codeOfSorted(exchanged)...)
			}
			k.refuses(t, codeOfSorted(slices.Insert(slices.Clone(l), i, l[i]))...)
		}
	}
}

// A short code of much text is refused without making the text (rule R1).
func TestRefusedTextIsNotMade(t *testing.T) {
	code := func(last byte) []byte {
		b := slices.Concat(codeOfLength(10001), []byte{0}, codeOfLength(20000), bytesOf(20000, 'a'))
		for i := range 9999 {
			// Of these strings, each has 20000 or 20001 bytes in common with the one before it.
			if i%256 == 0 {
				b = append(append(b, codeOfLength(20000)...), 2, byte(i/256), 0)
			} else {
				b = append(append(b, codeOfLength(20001)...), 1, byte(i))
			}
		}
		return append(append(b, codeOfLength(20000)...), 1, last)
	}
	b, refused := code('a'), code(0)
	if l, next, ok := coding.Sorted(b, 0); len(l) != 10001 || next != len(b) || !ok {
		t.Errorf("%d strings are read, %d, %v", len(l), next, ok)
	}
	var before, after runtime.MemStats
	runtime.ReadMemStats(&before)
	l, next, ok := coding.Sorted(refused, 0)
	runtime.ReadMemStats(&after)
	if made := after.TotalAlloc - before.TotalAlloc; len(l) != 0 || next != 0 || ok || made > 1<<22 {
		t.Errorf("%d strings are read, %d, %v, and %d bytes are made", len(l), next, ok, made)
	}
}

// P12.7: every code of up to two bytes, of any bytes.
func TestEveryShortCode(t *testing.T) {
	taken := 0
	for i := range 256 {
		taken += takenOf(t, []byte{byte(i)})
		for j := range 256 {
			taken += takenOf(t, []byte{byte(i), byte(j)})
		}
	}
	// Numbers of each sign are 128 + 128*256 + 128*127; strings, lists and ascending strings are 1 + 512, 1 + 256 + 1 and 1 + 256.
	if taken != 2*49152+513+258+257 {
		t.Errorf("%d values are read", taken)
	}
}

// takenOf checks what is read of bytes from the first one on, and returns how many kinds of values there are.
func takenOf(t *testing.T, b []byte) int {
	t.Helper()
	taken := 0
	for _, ok := range []bool{numbers().reads(t, b, 0), signed().reads(t, b, 0), texts().reads(t, b, 0), lists().reads(t, b, 0), sorted().reads(t, b, 0)} {
		if ok {
			taken++
		}
	}
	return taken
}

// every passes all codes of up to n bytes of an alphabet to visit.
func every(n int, alphabet []byte, visit func([]byte)) {
	var extend func(b []byte)
	extend = func(b []byte) {
		visit(b)
		if len(b) < n {
			for _, c := range alphabet {
				extend(append(slices.Clone(b), c))
			}
		}
	}
	extend(nil)
}

// P12.7: every code of some bytes.
func TestEveryCode(t *testing.T) {
	every(5, []byte{0, 1, 2, 'a', 127, 128, 129, 255}, func(b []byte) { takenOf(t, b) })
	found := 0
	every(9, []byte{0, 1, 2, 3}, func(b []byte) {
		lists().reads(t, b, 0)
		if sorted().reads(t, b, 0) && len(b) == 9 && b[0] == 3 {
			found++
		}
	})
	if found == 0 {
		t.Error("no three strings are read")
	}
}

// P12.7: codes in which one byte is another one, is missing, or is there twice.
func TestChangedCodes(t *testing.T) {
	r := rand.New(rand.NewSource(127))
	taken, refused := 0, 0
	for range 3000 {
		l := some(r, r.Intn(9), 4, "\x00\x01ab\xFF")
		for _, code := range [][]byte{codeOfUint(r.Uint64() >> r.Intn(64)), codeOfText(strings.Join(l, "")), codeOfList(l), codeOfSorted(ascending(l)), codeOfSorted(l)} {
			i := r.Intn(len(code))
			changed := slices.Clone(code)
			switch r.Intn(6) {
			case 0:
				changed[i]++
			case 1:
				changed[i]--
			case 2:
				changed[i] = byte(r.Intn(256))
			case 3:
				changed[i] ^= 1 << r.Intn(8)
			case 4:
				changed = slices.Delete(changed, i, i+1)
			case 5:
				changed = slices.Insert(changed, i, changed[i])
			}
			n := takenOf(t, changed)
			taken, refused = taken+n, refused+5-n
		}
	}
	if taken < 10000 || refused < 10000 {
		t.Errorf("%d are taken, and %d refused", taken, refused)
	}
}

// P12.7: random bytes.
func TestRandomBytes(t *testing.T) {
	r := rand.New(rand.NewSource(7))
	taken := 0
	for range 30000 {
		b := make([]byte, r.Intn(30))
		most := []int{2, 4, 8, 256}[r.Intn(4)]
		for i := range b {
			b[i] = byte(r.Intn(most))
		}
		at := r.Intn(len(b) + 1)
		for _, ok := range []bool{numbers().reads(t, b, at), signed().reads(t, b, at), texts().reads(t, b, at), lists().reads(t, b, at), sorted().reads(t, b, at)} {
			if ok {
				taken++
			}
		}
	}
	if taken < 30000 || taken > 120000 {
		t.Errorf("%d values are read", taken)
	}
}
