package compose_test

import (
	"math/rand"
	"strings"
	"testing"

	"henkan/api"
	"henkan/auto"
	"henkan/compose"
	"henkan/roman"
)

// least and greatest are the ends of the numbers.
const (
	least    = -1 << 63
	greatest = 1<<63 - 1
)

// checks checks one call of Check.
func checks(t *testing.T, b compose.Buffer, want api.Errno) {
	t.Helper()
	if got := compose.Check(b); got != want {
		t.Errorf("Check of %s: %d, want %d", show(b), got, want)
	}
}

// is checks that a buffer is the one that is wanted, and valid.
func is(t *testing.T, call string, got, want compose.Buffer) {
	t.Helper()
	if !equal(got, want) {
		t.Errorf("%s: %s, want %s", call, show(got), show(want))
	}
	checks(t, got, api.OK)
}

// reads checks what Text and Raw return.
func reads(t *testing.T, b compose.Buffer, before, pending, after, raw string) {
	t.Helper()
	if gotBefore, gotPending, gotAfter := compose.Text(b); gotBefore != before || gotPending != pending || gotAfter != after {
		t.Errorf("Text of %s: %+q, %+q, %+q, want %+q, %+q, %+q", show(b), gotBefore, gotPending, gotAfter, before, pending, after)
	}
	if got := compose.Raw(b); got != raw {
		t.Errorf("Raw of %s: %+q, want %+q", show(b), got, raw)
	}
}

// typing returns b after keys were inserted.
func typing(t *testing.T, a *auto.Auto, b compose.Buffer, keys string) compose.Buffer {
	t.Helper()
	for i := range len(keys) {
		var e api.Errno
		if b, e = compose.Insert(a, b, keys[i]); e != api.OK {
			t.Fatalf("Insert of the keys %.300q: %d at %d", keys, e, i)
		}
	}
	return b
}

// P8.2 to P8.6: the examples of the chapter.
func TestExamples(t *testing.T) {
	a := automaton(t, roman.Default())
	b := typing(t, a, compose.Buffer{}, "kyou")
	reads(t, b, "きょう", "", "", "kyou")
	b = typing(t, a, b, "n")
	reads(t, b, "きょう", "n", "", "kyoun")
	b = compose.Flush(a, b)
	reads(t, b, "きょうん", "", "", "kyoun")
	b = compose.Move(typing(t, a, compose.Buffer{}, "ka"), -1)
	b = typing(t, a, b, "shi")
	reads(t, b, "し", "", "か", "shika")
	b = typing(t, a, compose.Buffer{}, "kk")
	reads(t, b, "っ", "k", "", "kk")
	b = compose.Back(b)
	reads(t, b, "っ", "", "", "k")
	b = compose.Back(b)
	reads(t, b, "", "", "", "")
	is(t, "the empty buffer again", b, compose.Buffer{})
}

// P8.2 to P8.6: a longer sequence of calls.
func TestSequence(t *testing.T) {
	a := automaton(t, roman.Default())
	b := typing(t, a, compose.Buffer{}, "kyouhaqiitenki")
	is(t, "keys", b, buffer("kyo=き =ょ u=う ha=は q=q i=い i=い te=て n=ん ki=き||"))
	b = compose.Delete(compose.Move(b, -6))
	is(t, "Delete in the middle", b, buffer("kyo=き =ょ u=う ha=は || i=い i=い te=て n=ん ki=き"))
	b = typing(t, a, b, "shin")
	is(t, "keys in the middle", b, buffer("kyo=き =ょ u=う ha=は shi=し |n| i=い i=い te=て n=ん ki=き"))
	reads(t, b, "きょうはし", "n", "いいてんき", "kyouhashiniitenki")
	b = compose.Move(b, -3)
	b = compose.Flush(a, b)
	is(t, "Flush", b, buffer("kyo=き =ょ u=う ha=は shi=し n=ん || i=い i=い te=て n=ん ki=き"))
	b, e := compose.Put(compose.Move(b, -2), "~ 1", "１漢")
	if e != api.OK {
		t.Errorf("Put: %d", e)
	}
	reads(t, b, "きょうは１漢", "", "しんいいてんき", "kyouha~ 1shiniitenki")
	b = compose.Back(compose.Back(b))
	is(t, "Back", b, buffer("kyo=き =ょ u=う ha=は || shi=し n=ん i=い i=い te=て n=ん ki=き"))
	b = compose.Back(compose.Back(compose.Move(compose.Back(compose.Move(b, least)), 2)))
	is(t, "Move to the beginning and Back", b, buffer("|| u=う ha=は shi=し n=ん i=い i=い te=て n=ん ki=き"))
	b = compose.Delete(compose.Delete(compose.Move(b, greatest)))
	is(t, "Move to the end and Delete", b, buffer("u=う ha=は shi=し n=ん i=い i=い te=て n=ん ki=き ||"))
}

// P8.1: buffers at the edges of what is valid.
func TestValid(t *testing.T) {
	for _, b := range stillValid() {
		if !valid(b) {
			t.Fatalf("%s is not valid", show(b))
		}
		checks(t, b, api.OK)
	}
}

// P8.1: buffers beyond the edges of what is valid.
func TestNotValid(t *testing.T) {
	for _, b := range notValid() {
		if valid(b) {
			t.Fatalf("%s is valid", show(b))
		}
		checks(t, b, api.ErrArg)
	}
}

// P8.1: every byte among the raw keys, and among the pending keys.
func TestEveryByte(t *testing.T) {
	for i := range 256 {
		for _, s := range []string{string([]byte{byte(i)}), string([]byte{'k', byte(i)}), string([]byte{byte(i), 'k', 'k'}), string([]byte{'k', 'k', 'k', byte(i), 'k'})} {
			raw, pending := api.ErrArg, api.ErrArg
			if 32 <= i && i <= 126 {
				raw = api.OK
			}
			if 33 <= i && i <= 126 {
				pending = api.OK
			}
			checks(t, changed(filled(3, 2, ""), 1, s, "あ"), raw)
			checks(t, filled(3, 2, s), pending)
		}
	}
}

// P8.1: every number of items with every caret that is near, and every number of pending keys.
func TestNumbers(t *testing.T) {
	for n := range 70 {
		for caret := -3; caret < 70; caret++ {
			want := api.ErrArg
			if n <= 64 && 0 <= caret && caret <= n {
				want = api.OK
			}
			checks(t, filled(n, caret, ""), want)
		}
		want := api.ErrArg
		if n <= 8 {
			want = api.OK
		}
		checks(t, filled(2, 1, strings.Repeat("a", n)), want)
	}
}

// P8.1: what the other functions do with buffers that are not valid.
func TestFunctionsOfNotValid(t *testing.T) {
	a := automaton(t, roman.Default())
	for _, b := range notValid() {
		for _, got := range []compose.Buffer{compose.Flush(a, b), compose.Flush(nil, b), compose.Back(b), compose.Delete(b), compose.Move(b, 0), compose.Move(b, 1), compose.Move(b, -1), compose.Move(b, least), compose.Move(b, greatest)} {
			if !equal(got, b) {
				t.Errorf("%s became %s", show(b), show(got))
			}
		}
		reads(t, b, "", "", "", "")
		for _, key := range []byte("ak!~") {
			refusesKey(t, a, b, key, api.ErrArg)
		}
		refusesText(t, b, "a", "あ", api.ErrArg)
	}
}

// P8.7: keys that are inserted one after the other write what Run writes.
func TestTyping(t *testing.T) {
	r := rand.New(rand.NewSource(87))
	a := automaton(t, roman.Default())
	for range 300 {
		typesAsRun(t, a, some(r, "aiueokstnhmyrwgzdbpjfcvx-,.'A1~!", 0, 60))
	}
	for range 300 {
		typesAsRun(t, automaton(t, someRules(r, 12, "abn")), some(r, "abnc", 0, 40))
	}
}

// typesAsRun checks that inserting keys writes what Run writes, up to the first key for which there is no room.
func typesAsRun(t *testing.T, a *auto.Auto, keys string) {
	t.Helper()
	var b compose.Buffer
	for i := range len(keys) {
		out, pending := a.Run(keys[:i+1])
		next, e := compose.Insert(a, b, keys[i])
		if len([]rune(out)) > 64 {
			if e != api.ErrFull || !equal(next, compose.Buffer{}) {
				t.Errorf("after %q: %s and %d, want no room", keys[:i+1], show(next), e)
			}
			return
		}
		before, rest, after := compose.Text(next)
		if e != api.OK || before != out || rest != pending || after != "" {
			t.Errorf("after %q: %+q, %q, %+q and %d, want %+q and %q", keys[:i+1], before, rest, after, e, out, pending)
		}
		b = next
	}
}

// P8.8: a key is added to the end of what is before the caret in Raw.
func TestKeysAreKept(t *testing.T) {
	r := rand.New(rand.NewSource(88))
	kept, lost := 0, 0
	for range 4000 {
		l := someRules(r, 12, "abn")
		if r.Intn(3) == 0 {
			l = roman.Default()
		}
		a, b, key := automaton(t, l), someBuffer(r, "abnky"), some(r, "abnky!~", 1, 1)
		if len(l) > 0 && r.Intn(2) == 0 {
			keys := l[r.Intn(len(l))].Keys
			b.Pending, key = keys[:len(keys)-1], keys[len(keys)-1:]
		}
		out, rest := a.Step(b.Pending, key[0])
		after, e := compose.Insert(a, b, key[0])
		if e != api.OK {
			continue
		}
		if !strings.HasSuffix(b.Pending+key, rest) || out == "" && rest != b.Pending+key {
			lost++
			continue
		}
		kept++
		if got, want := compose.Raw(upToCaret(after)), compose.Raw(upToCaret(b))+key; got != want {
			t.Errorf("%q after %s: %q, want %q", key, show(b), got, want)
		}
	}
	if kept < 1000 || lost < 100 {
		t.Errorf("%d keys are kept, and %d need not be", kept, lost)
	}
}

// upToCaret returns b without what is after the caret.
func upToCaret(b compose.Buffer) compose.Buffer {
	b.Items = b.Items[:b.Caret]
	return b
}

// P8.9: Back after Put of one character gives the buffer before, and Delete after Move by -1 is Back.
func TestEdits(t *testing.T) {
	r := rand.New(rand.NewSource(89))
	for range 2000 {
		b := someBuffer(r, "abnky")
		b.Pending = ""
		if after, e := compose.Put(b, some(r, "abnky ~", 0, 5), some(r, "あ漢a😀", 1, 1)); e == api.OK {
			checks(t, after, api.OK)
			is(t, "Back after Put", compose.Back(after), b)
		} else if len(b.Items) < 64 {
			t.Errorf("Put in %s: %d", show(b), e)
		}
		if b.Caret > 0 {
			is(t, "Delete after Move", compose.Delete(compose.Move(b, -1)), compose.Back(b))
		}
	}
}

// P8.2 to P8.6, P8.9: random sequences of calls with random rules.
func TestRandomCalls(t *testing.T) {
	r := rand.New(rand.NewSource(8))
	for i := range 400 {
		l := someRules(r, 15, "abn")
		if i%4 == 0 {
			l = roman.Default()
		}
		a, b := automaton(t, l), someBuffer(r, "abnky")
		for range 60 {
			b = anyCall(t, r, a, b)
			before, pending, after, raw := texts(b)
			reads(t, b, before, pending, after, raw)
			checks(t, b, api.OK)
		}
	}
}

// anyCall makes one call for b, holds it against the second reading, and returns the buffer that there is then.
func anyCall(t *testing.T, r *rand.Rand, a *auto.Auto, b compose.Buffer) compose.Buffer {
	t.Helper()
	var got, want compose.Buffer
	var e, wantE api.Errno
	passed := separate(b)
	call := r.Intn(10)
	switch call {
	case 0:
		got, want = compose.Back(passed), shortened(b)
	case 1:
		got, want = compose.Delete(passed), cut(b)
	case 2:
		n := r.Intn(150) - 75
		got, want = compose.Move(passed, n), moved(b, n)
	case 3:
		got, want = compose.Flush(a, passed), flushed(a, b)
	case 4, 5:
		raw, out := some(r, "abn ~\x1F", 0, 5), some(r, "あ漢a😀", 0, 3)
		got, e = compose.Put(passed, raw, out)
		want, wantE = written(b, raw, out)
	default:
		key := some(r, "abnkyou ~!\x7F", 1, 1)[0]
		got, e = compose.Insert(a, passed, key)
		want, wantE = keyed(a, b, key)
	}
	if e != wantE || !equal(got, want) {
		t.Errorf("call %d of %s: %s and %d, want %s and %d", call, show(b), show(got), e, show(want), wantE)
	}
	if !equal(passed, b) || !isSeparate(passed) {
		t.Errorf("call %d: %s was changed to %s", call, show(b), show(passed))
	}
	if wantE != api.OK {
		return b
	}
	return got
}
