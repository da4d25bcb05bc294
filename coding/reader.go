package coding

// reader reads values from bytes, one after the other. It panics with a refusal where no code begins.
type reader struct{ rest []byte }

// refusal is what a reader gives up with.
type refusal struct{}

// read returns what a reader gets at an index of b and the index after it, or false if it gives up.
func read[T any](b []byte, at int, get func(*reader) T) (v T, next int, ok bool) {
	if at < 0 || at > len(b) {
		return
	}
	r := reader{b[at:]}
	defer func() {
		switch recover().(type) {
		case nil:
			next, ok = len(b)-len(r.rest), true
		case refusal:
			// The results are still zero. Whatever else it may be, no panic goes on to the caller.
		}
	}()
	v = get(&r)
	return
}

// number reads a number.
func (r *reader) number() uint64 {
	var v uint64
	for i, c := range r.rest {
		// The tenth byte has the 64th bit of a number and no other one; the last byte has a digit that counts unless it is alone.
		if i == maxBytes-1 && c > 1 || i > 0 && c == 0 {
			break
		}
		v += uint64(c%base) << (digitBits * i)
		if c < base {
			r.rest = r.rest[i+1:]
			return v
		}
	}
	panic(refusal{})
}

// signed reads a signed number.
func (r *reader) signed() int {
	v := r.number()
	if v%2 == 1 {
		return ^int(v / 2)
	}
	return int(v / 2)
}

// bytes reads a string, and returns the part of the bytes that has it.
func (r *reader) bytes() []byte {
	n := r.number()
	if n > uint64(len(r.rest)) {
		panic(refusal{})
	}
	s := r.rest[:n]
	r.rest = r.rest[n:]
	return s
}

// text reads a string.
func (r *reader) text() string { return string(r.bytes()) }

// list reads strings. However many there should be, it gives up where the bytes end.
func (r *reader) list() []string {
	var l []string
	for range r.number() {
		l = append(l, r.text())
	}
	return l
}

// sorted reads ascending strings.
func (r *reader) sorted() []string {
	// Few bytes may stand for much text, so none is made before they are read to their end: what is refused there costs little.
	check := *r
	check.ascend(func([]byte) {})
	var l []string
	r.ascend(func(s []byte) { l = append(l, string(s)) })
	return l
}

// ascend reads ascending strings, and passes each one to visit, which must not keep it.
func (r *reader) ascend(visit func(s []byte)) {
	var s []byte
	for i := range r.number() {
		n, others := r.number(), r.bytes()
		if n > uint64(len(s)) || i > 0 && !above(others, s[n:]) {
			panic(refusal{})
		}
		s = append(s[:n], others...)
		visit(s)
	}
}

// above reports whether a is greater than b and has no beginning in common with it.
func above(a, b []byte) bool {
	return len(a) > 0 && (len(b) == 0 || a[0] > b[0])
}
