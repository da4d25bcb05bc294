package coding_test

import (
	"bytes"
	"fmt"
	"math/big"
	"math/rand"
	"slices"
	"strconv"
	"strings"
	"testing"

	"henkan/coding"
)

// The tests hold the package against a second reading of the chapter: the digits of a number are cut out of its text in base 2, and a value that is read is one only if its code, put together anew, is what was read.

// least, greatest and top are the ends of the signed numbers and of the numbers.
const (
	least    = -1 << 63
	greatest = 1<<63 - 1
	top      = 1<<64 - 1
)

// kind is a kind of values: their functions in the package, and those of the second reading.
type kind[T any] struct {
	name  string
	put   func([]byte, T) []byte
	get   func([]byte, int) (T, int, bool)
	code  func(T) []byte
	read  func([]byte, int) (T, int, bool)
	equal func(a, b T) bool
}

func same[T comparable](a, b T) bool { return a == b }

func numbers() kind[uint64] {
	return kind[uint64]{"Uint", coding.PutUint, coding.Uint, codeOfUint, readUint, same[uint64]}
}

func signed() kind[int] {
	return kind[int]{"Int", coding.PutInt, coding.Int, codeOfInt, readInt, same[int]}
}

func texts() kind[string] {
	return kind[string]{"Text", coding.PutText, coding.Text, codeOfText, readText, same[string]}
}

func lists() kind[[]string] {
	return kind[[]string]{"List", coding.PutList, coding.List, codeOfList, readList, slices.Equal[[]string]}
}

// sorted is the kind of ascending strings. Its put returns no bytes with false alone.
func sorted() kind[[]string] {
	put := func(b []byte, l []string) []byte {
		code, ok := coding.PutSorted(b, l)
		if ok != (len(code) > 0) {
			panic(fmt.Sprintf("PutSorted of %q: %x, %v", l, code, ok))
		}
		return code
	}
	return kind[[]string]{"Sorted", put, coding.Sorted, codeOfSorted, readSorted, slices.Equal[[]string]}
}

// codeOfNumber returns the code of n, which may be any number from 0 on.
func codeOfNumber(n *big.Int) []byte {
	digits := n.Text(2)
	digits = strings.Repeat("0", (7-len(digits)%7)%7) + digits
	var b []byte
	for len(digits) > 0 {
		digit, _ := strconv.ParseUint(digits[len(digits)-7:], 2, 8)
		digits = digits[:len(digits)-7]
		b = append(b, byte(digit)|0x80)
	}
	b[len(b)-1] &= 0x7F
	return b
}

// readNumber returns the number whose code, with up to any number of digits, begins at an index.
func readNumber(b []byte, at int) (*big.Int, int, bool) {
	if at < 0 || at > len(b) {
		return nil, 0, false
	}
	end := slices.IndexFunc(b[at:], func(c byte) bool { return c < 128 })
	if end < 0 {
		return nil, 0, false
	}
	code := b[at : at+end+1]
	n := new(big.Int)
	for _, c := range slices.Backward(code) {
		n.Mul(n, big.NewInt(128))
		n.Add(n, big.NewInt(int64(c%128)))
	}
	return n, at + len(code), bytes.Equal(codeOfNumber(n), code)
}

func codeOfUint(v uint64) []byte { return codeOfNumber(new(big.Int).SetUint64(v)) }

func readUint(b []byte, at int) (uint64, int, bool) {
	n, next, ok := readNumber(b, at)
	if !ok || !n.IsUint64() {
		return 0, 0, false
	}
	return n.Uint64(), next, true
}

func codeOfInt(v int) []byte {
	n := big.NewInt(int64(v))
	if v >= 0 {
		n.Mul(n, big.NewInt(2))
	} else {
		n.Mul(n, big.NewInt(-2))
		n.Sub(n, big.NewInt(1))
	}
	return codeOfNumber(n)
}

func readInt(b []byte, at int) (int, int, bool) {
	n, next, ok := readNumber(b, at)
	if !ok || !n.IsUint64() {
		return 0, 0, false
	}
	if n.Bit(0) == 1 {
		n.Add(n, big.NewInt(1))
		n.Neg(n)
	}
	n.Div(n, big.NewInt(2))
	return int(n.Int64()), next, true
}

func codeOfText(s string) []byte { return slices.Concat(codeOfLength(len(s)), []byte(s)) }

// codeOfLength returns the code of a number of bytes or strings.
func codeOfLength(n int) []byte { return codeOfUint(uint64(n)) }

func readText(b []byte, at int) (string, int, bool) {
	n, next, ok := readNumber(b, at)
	if !ok || n.Cmp(big.NewInt(int64(len(b)-next))) > 0 {
		return "", 0, false
	}
	end := next + int(n.Int64())
	return string(b[next:end]), end, true
}

func codeOfList(l []string) []byte {
	b := codeOfLength(len(l))
	for _, s := range l {
		b = append(b, codeOfText(s)...)
	}
	return b
}

func readList(b []byte, at int) ([]string, int, bool) {
	n, next, ok := readNumber(b, at)
	if !ok || n.Cmp(big.NewInt(int64(len(b)))) > 0 {
		return nil, 0, false
	}
	var l []string
	for range n.Int64() {
		s, end, ok := readText(b, next)
		if !ok {
			return nil, 0, false
		}
		l, next = append(l, s), end
	}
	return l, next, true
}

// ascends reports whether each string is greater than the one before it.
func ascends(l []string) bool {
	for i, s := range l {
		if i > 0 && strings.Compare(l[i-1], s) >= 0 {
			return false
		}
	}
	return true
}

func codeOfSorted(l []string) []byte {
	b := codeOfLength(len(l))
	before := ""
	for _, s := range l {
		n := min(len(s), len(before))
		for !strings.HasPrefix(before, s[:n]) {
			n--
		}
		b = slices.Concat(b, codeOfLength(n), codeOfText(s[n:]))
		before = s
	}
	return b
}

func readSorted(b []byte, at int) ([]string, int, bool) {
	n, next, ok := readNumber(b, at)
	if !ok || n.Cmp(big.NewInt(int64(len(b)))) > 0 {
		return nil, 0, false
	}
	var l []string
	before := ""
	for range n.Int64() {
		shared, middle, ok := readNumber(b, next)
		if !ok || shared.Cmp(big.NewInt(int64(len(before)))) > 0 {
			return nil, 0, false
		}
		others, end, ok := readText(b, middle)
		if !ok {
			return nil, 0, false
		}
		before = before[:shared.Int64()] + others
		l, next = append(l, before), end
	}
	if !ascends(l) || !bytes.Equal(codeOfSorted(l), b[at:next]) {
		return nil, 0, false
	}
	return l, next, true
}

// reads checks what is read at an index against the second reading, and reports whether there is a value. There is one only if it has this code.
func (k kind[T]) reads(t *testing.T, b []byte, at int) bool {
	t.Helper()
	got, next, ok := k.get(b, at)
	want, wantNext, wantOk := k.read(b, at)
	if !k.equal(got, want) || next != wantNext || ok != wantOk {
		t.Fatalf("%s of %s at %d: %s, %d, %v, want %s, %d, %v", k.name, show(b), at, show(got), next, ok, show(want), wantNext, wantOk)
	}
	if ok && !bytes.Equal(k.put(nil, got), b[at:next]) {
		t.Fatalf("%s of %s at %d: %s has the code %s", k.name, show(b), at, show(got), show(k.put(nil, got)))
	}
	return ok
}

// readsEverywhere checks what is read at all indices and beyond.
func (k kind[T]) readsEverywhere(t *testing.T, b []byte) {
	t.Helper()
	for at := range b {
		k.reads(t, b, at)
	}
	for _, at := range []int{-1, -2, -len(b), -len(b) - 1, least, least + 1, len(b), len(b) + 1, len(b) + 2, 2*len(b) + 2, greatest - 1, greatest} {
		if at < 0 || at >= len(b) {
			k.refusesAt(t, b, at)
		}
	}
}

// refusesAt checks that nothing is read at an index.
func (k kind[T]) refusesAt(t *testing.T, b []byte, at int) {
	t.Helper()
	var zero T
	if got, next, ok := k.get(b, at); !k.equal(got, zero) || next != 0 || ok {
		t.Fatalf("%s of %s at %d: %s, %d, %v", k.name, show(b), at, show(got), next, ok)
	}
}

// refuses checks that nothing is read of bytes, and neither behind others.
func (k kind[T]) refuses(t *testing.T, b ...byte) {
	t.Helper()
	k.refusesAt(t, b, 0)
	k.refusesAt(t, slices.Concat([]byte{1, 97, 0}, b), 3)
	if _, _, ok := k.read(b, 0); ok {
		t.Fatalf("the second reading takes %s", show(b))
	}
}

// codes checks the code of a value, alone and between other bytes.
func (k kind[T]) codes(t *testing.T, v T, code ...byte) {
	t.Helper()
	for _, before := range [][]byte{nil, {0}, {128}, {255, 3}, bytesOf(200, 130)} {
		want := slices.Concat(before, code)
		if got := k.put(before, v); !bytes.Equal(got, want) {
			t.Fatalf("Put%s of %s behind %s: %s, want %s", k.name, show(v), show(before), show(got), show(want))
		}
		for _, after := range [][]byte{nil, {0}, {127}, {128}, {255, 255}, code} {
			got, next, ok := k.get(slices.Concat(want, after), len(before))
			if !k.equal(got, v) || next != len(want) || !ok {
				t.Fatalf("%s of %s between %s and %s: %s, %d, %v, want %s, %d", k.name, show(code), show(before), show(after), show(got), next, ok, show(v), len(want))
			}
		}
	}
}

// holds checks the code of a value against the second reading, and that nothing is read of a part of it.
func (k kind[T]) holds(t *testing.T, v T) {
	t.Helper()
	code := k.code(v)
	if got, next, ok := k.read(code, 0); !k.equal(got, v) || next != len(code) || !ok {
		t.Fatalf("the second reading of %s: %s, %d, %v", show(code), show(got), next, ok)
	}
	k.codes(t, v, code...)
	for i := range min(len(code), 300) {
		k.refusesAt(t, code[:i], 0)
		k.refusesAt(t, code[:len(code)-1-i], 0)
	}
}

// show returns what is seen of a value in a message.
func show(v any) string {
	s := fmt.Sprintf("%q", v)
	switch v := v.(type) {
	case []byte:
		s = fmt.Sprintf("%x", v)
	case int, uint64:
		s = fmt.Sprint(v)
	}
	if len(s) > 200 {
		return s[:200] + ".."
	}
	return s
}

// bytesOf returns n bytes that are all the same.
func bytesOf(n int, c byte) []byte { return bytes.Repeat([]byte{c}, n) }

// some returns a list of n random strings of up to most bytes of an alphabet.
func some(r *rand.Rand, n, most int, alphabet string) []string {
	l := make([]string, n)
	for i := range l {
		s := make([]byte, r.Intn(most+1))
		for j := range s {
			s[j] = alphabet[r.Intn(len(alphabet))]
		}
		l[i] = string(s)
	}
	return l
}

// ascending returns the strings of a list in ascending order, each once.
func ascending(l []string) []string {
	l = slices.Clone(l)
	slices.Sort(l)
	return slices.Compact(l)
}

// edgeNumbers are the powers of two, the numbers beside them, and those written out in the issue of the package.
func edgeNumbers() []uint64 {
	l := []uint64{0, 1, 300, top, top - 1, top - 2}
	for i := range 64 {
		l = append(l, 1<<i-1, 1<<i, 1<<i+1)
	}
	return l
}

// edgeInts are the signed numbers that edgeNumbers are, and those with the other sign.
func edgeInts() []int {
	var l []int
	for _, v := range edgeNumbers() {
		l = append(l, int(v), -int(v))
	}
	return l
}

// edgeTexts are strings of lengths at which codes become longer, and of all bytes.
func edgeTexts() []string {
	l := []string{"", "\x00", "\x00\x00", "\xFF", "\xFF\x00\xFF", "\x80", "\x7F\x80", "か", "か"[:2], "\xED\xA0\x80", "a b\n\t"}
	every := make([]byte, 256)
	for i := range every {
		every[i] = byte(i)
		l = append(l, string(every[i:i+1]))
	}
	l = append(l, string(every))
	for _, n := range []int{126, 127, 128, 129, 255, 256, 16383, 16384, 16385} {
		l = append(l, strings.Repeat("a", n), strings.Repeat("\x00", n), strings.Repeat("\xFF", n))
	}
	return l
}

// edgeLists are lists of strings, most of which do not ascend.
func edgeLists() [][]string {
	r := rand.New(rand.NewSource(12))
	l := [][]string{nil, {}, {""}, {"", ""}, {"", "", ""}, {"a"}, {"a", "a"}, {"b", "a"}, {"", "a"}, {"a", ""}, {"ab", "a", "abc", "ab"}, {"\x00", "\xFF", "\xFF\x00", ""}, {"かな", "漢字", "か"}, edgeTexts()}
	for _, n := range []int{126, 127, 128, 129, 300} {
		l = append(l, make([]string, n), some(r, n, 3, "ab"), some(r, n, 140, "\x00\x7F\x80\xFF"))
	}
	return l
}

// edgeSorted are lists of ascending strings.
func edgeSorted() [][]string {
	long := strings.Repeat("a", 127)
	l := [][]string{
		{"", "\x00"}, {"", "\x00", "\x00\x00", "\x00\x01"}, {"a", "ab", "abc", "abcd"}, {"a", "abcd", "b"}, {"abc", "abd", "abda", "ac", "b"},
		{"\x7F", "\x7F\x00", "\x80", "\x80\xFF", "\xFF", "\xFF\xFF"}, {"か", "かき", "き", "きょう", "今日"},
		{long, long + "a", long + "aa", long + "ab", long + "b"}, {"", long, long + long, long + long + "a", long + "b"},
		{strings.Repeat("b", 16384), strings.Repeat("b", 16384) + "\x00", strings.Repeat("b", 16384) + "\xFF", strings.Repeat("b", 127) + "c", strings.Repeat("b", 127) + "c\x00"},
	}
	for _, strings := range edgeLists() {
		l = append(l, ascending(strings))
	}
	return l
}
