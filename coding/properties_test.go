package coding_test

import (
	"bytes"
	"math/rand"
	"slices"
	"testing"

	"henkan/coding"
)

// P12.6: random values, one by one.
func TestRandomValues(t *testing.T) {
	r := rand.New(rand.NewSource(126))
	for range 2000 {
		numbers().holds(t, r.Uint64()>>r.Intn(64))
		signed().holds(t, int(r.Uint64())>>r.Intn(64))
	}
	for range 300 {
		alphabet := []string{"a", "ab", "\x00\x01\xFE\xFF", "abcdefghij\x7F\x80"}[r.Intn(4)]
		l := some(r, r.Intn(40), 1+r.Intn(150), alphabet)
		texts().holds(t, first(l))
		lists().holds(t, l)
		sorted().holds(t, ascending(l))
	}
}

// first returns the first string of a list, or the empty one.
func first(l []string) string { return append(slices.Clone(l), "")[0] }

// value is a value of any kind that was written behind others.
type value struct {
	put  func([]byte) []byte
	read func(*testing.T, []byte, int) int
}

// valueOf returns a value, which is read again with its index after it.
func valueOf[T any](k kind[T], v T) value {
	return value{
		func(b []byte) []byte { return k.put(b, v) },
		func(t *testing.T, b []byte, at int) int {
			t.Helper()
			got, next, ok := k.get(b, at)
			if !k.equal(got, v) || !ok || next != at+len(k.code(v)) {
				t.Fatalf("%s at %d: %s, %d, %v, want %s", k.name, at, show(got), next, ok, show(v))
			}
			return next
		},
	}
}

// P12.6: random values of all kinds, one behind the other between random bytes.
func TestSequences(t *testing.T) {
	r := rand.New(rand.NewSource(61))
	for range 300 {
		var values []value
		for range r.Intn(20) {
			l := some(r, r.Intn(6), 5, "abc\x00\xFF")
			switch r.Intn(5) {
			case 0:
				values = append(values, valueOf(numbers(), r.Uint64()>>r.Intn(64)))
			case 1:
				values = append(values, valueOf(signed(), int(r.Uint64())>>r.Intn(64)))
			case 2:
				values = append(values, valueOf(texts(), first(l)))
			case 3:
				values = append(values, valueOf(lists(), l))
			case 4:
				values = append(values, valueOf(sorted(), ascending(l)))
			}
		}
		begin := make([]byte, r.Intn(10))
		r.Read(begin)
		b := slices.Clone(begin)
		for _, v := range values {
			b = v.put(b)
		}
		end := len(b)
		for range r.Intn(10) {
			b = append(b, byte(r.Intn(256)))
		}
		at := len(begin)
		for _, v := range values {
			at = v.read(t, b, at)
		}
		if at != end || !bytes.HasPrefix(b, begin) {
			t.Fatalf("%d of %d bytes are read of %s behind %s", at, end, show(b), show(begin))
		}
	}
}

// TestPutSharesNothing checks that b stays as it is, beyond its length too, and is not kept (rule R3).
func TestPutSharesNothing(t *testing.T) {
	putSharesNothing(t, numbers(), 0, 5, 300, top)
	putSharesNothing(t, signed(), 0, -5, 300, least)
	putSharesNothing(t, texts(), "", "a", string(bytesOf(300, 9)))
	putSharesNothing(t, lists(), nil, []string{""}, []string{"b", "a"}, make([]string, 300))
	putSharesNothing(t, sorted(), nil, []string{""}, []string{"a", "ab", "b"}, []string{"b", "a"}, []string{"a", "a"})
}

func putSharesNothing[T any](t *testing.T, k kind[T], values ...T) {
	t.Helper()
	for _, v := range values {
		for _, n := range []int{0, 1, 8, 100} {
			room := bytesOf(n+1000, 77)
			before := slices.Clone(room)
			one, two := k.put(room[:n], v), k.put(room[:n], v)
			want := slices.Clone(one)
			if !bytes.Equal(room, before) {
				t.Fatalf("Put%s of %s changes what is behind b", k.name, show(v))
			}
			flip(one)
			flip(room)
			if !bytes.Equal(two, want) {
				t.Fatalf("Put%s of %s: the result changes with another one or with b", k.name, show(v))
			}
			flip(two)
			flip(room)
			if !bytes.Equal(room, before) {
				t.Fatalf("Put%s of %s: b changes with the result", k.name, show(v))
			}
		}
		// A part of b, up to its capacity.
		full := slices.Clip(bytesOf(16, 3))
		b := k.put(full, v)
		flip(b)
		if !bytes.Equal(full, bytesOf(16, 3)) {
			t.Fatalf("Put%s of %s: b changes with the result", k.name, show(v))
		}
	}
}

// flip changes all bytes up to the capacity.
func flip(b []byte) {
	for i := range b[:cap(b)] {
		b[:cap(b)][i] ^= 255
	}
}

// The strings that are passed stay as they are, and those beyond their length are not read (rule R3).
func TestListsStay(t *testing.T) {
	room := []string{"a", "ab", "b", "A", "x"}
	before := slices.Clone(room)
	for n := range 4 {
		lists().codes(t, room[:n], codeOfList(before[:n])...)
		sorted().codes(t, room[:n], codeOfSorted(before[:n])...)
	}
	notAscending(t, room...)
	if !slices.Equal(room, before) {
		t.Errorf("%q", room)
	}
}

// What is read stays when the bytes change, which reading does not; bytes beyond their length are not read (rule R3).
func TestReadSharesNothing(t *testing.T) {
	readSharesNothing(t, numbers(), 0, 300, top)
	readSharesNothing(t, signed(), 0, -300, least)
	readSharesNothing(t, texts(), "", "a", "かな", string(bytesOf(300, 9)))
	readSharesNothing(t, lists(), nil, []string{""}, []string{"b", "a", "", "a"}, edgeTexts())
	readSharesNothing(t, sorted(), nil, []string{""}, []string{"a", "ab", "b"}, ascending(edgeTexts()))
}

func readSharesNothing[T any](t *testing.T, k kind[T], values ...T) {
	t.Helper()
	for _, v := range values {
		code := k.code(v)
		b := slices.Concat(code, bytesOf(50, 1))
		got, _, ok := k.get(b[:len(code)], 0)
		if !ok || !bytes.Equal(b, slices.Concat(code, bytesOf(50, 1))) {
			t.Fatalf("%s of %s: %v, and the bytes %s", k.name, show(code), ok, show(b))
		}
		for i := range min(len(code), 1000) {
			k.refusesAt(t, b[:i], 0)
			k.refusesAt(t, b[:len(code)-1-i], 0)
		}
		flip(b)
		if !k.equal(got, v) {
			t.Fatalf("%s of %s changes with the bytes: %s", k.name, show(code), show(got))
		}
	}
}

// Two lists that were read share nothing (rule R3).
func TestListsAreNotShared(t *testing.T) {
	for _, k := range []kind[[]string]{lists(), sorted()} {
		want := []string{"a", "ab", "b", "c", "cd"}
		code := k.code(want)
		one, _, _ := k.get(code, 0)
		two, _, _ := k.get(code, 0)
		for i := range one[:cap(one)] {
			one[:cap(one)][i] = "x"
		}
		if !slices.Equal(two, want) {
			t.Errorf("%s: %q", k.name, two)
		}
	}
}

// Nothing is kept between calls: after what is refused, the same is read as before (rule R4).
func TestNothingIsKept(t *testing.T) {
	code := codeOfSorted([]string{"a", "ab", "b"})
	for range 3 {
		for i := range code {
			sorted().refusesAt(t, code[:i], 0)
			lists().reads(t, code, i)
			sorted().reads(t, code, 0)
		}
		if b, ok := coding.PutSorted(nil, []string{"b", "a"}); len(b) != 0 || ok {
			t.Errorf("%x, %v", b, ok)
		}
		if b, ok := coding.PutSorted(nil, []string{"a", "ab", "b"}); !bytes.Equal(b, code) || !ok {
			t.Errorf("%x, %v", b, ok)
		}
	}
}
