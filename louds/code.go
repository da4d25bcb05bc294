package louds

import (
	"bytes"

	"henkan/api"
	"henkan/bitvec"
	"henkan/packed"
)

// A code has partCount parts, each of which is preceded by its size in sizeBytes.
const (
	partCount = 4
	sizeBytes = 4
)

// Encode returns the trie as bytes.
func (t *Trie) Encode() []byte {
	if t == nil {
		return nil
	}
	return join(t.shape.Encode(), t.labels, t.ends.Encode(), t.numbers.Encode())
}

// Decode returns the trie in b, or ErrForm.
func Decode(b []byte) (*Trie, api.Errno) {
	l, ok := read(b)
	if !ok {
		return nil, api.ErrForm
	}
	t, err := Build(l)
	// Only the code of these strings is accepted: that refuses other shapes, labels and numbers, and nodes with which no string begins.
	if err != api.OK || !bytes.Equal(t.Encode(), b) {
		return nil, api.ErrForm
	}
	return t, api.OK
}

// join returns parts one after the other, each behind its size.
func join(parts ...[]byte) []byte {
	var b []byte
	for _, part := range parts {
		for i := range sizeBytes {
			b = append(b, byte(len(part)>>(8*i)))
		}
		b = append(b, part...)
	}
	return b
}

// split returns the part with which b begins and what is behind it.
func split(b []byte) (part, rest []byte, ok bool) {
	if len(b) < sizeBytes {
		return nil, nil, false
	}
	size, data := uint(b[0])|uint(b[1])<<8|uint(b[2])<<16|uint(b[3])<<24, b[sizeBytes:]
	if size > uint(len(data)) {
		return nil, nil, false
	}
	return data[:size], data[size:], true
}

// read returns the strings that b is the code of if it is one.
func read(b []byte) ([]string, bool) {
	var parts [partCount][]byte
	for i := range parts {
		var ok bool
		if parts[i], b, ok = split(b); !ok {
			return nil, false
		}
	}
	shape, shapeErr := bitvec.Decode(parts[0])
	ends, endsErr := bitvec.Decode(parts[2])
	numbers, numbersErr := packed.Decode(parts[3])
	if shapeErr != api.OK || endsErr != api.OK || numbersErr != api.OK {
		return nil, false
	}
	parents, ok := parentsIn(shape)
	if !ok || len(parts[1]) != len(parents)-1 || ends.Len() != len(parents) {
		return nil, false
	}
	return readStrings(parents, parts[1], ends, numbers)
}

// parentsIn returns the parent of each node of a shape, or false if one does not come before its children.
func parentsIn(shape *bitvec.Vec) ([]int, bool) {
	parents, node := []int{0}, 0
	for i := 2; i < shape.Len(); i++ {
		if !shape.Get(i) {
			node++
		} else if node < len(parents) {
			parents = append(parents, node)
		} else {
			return nil, false
		}
	}
	return parents, true
}

// readStrings returns the strings, each at the place of its number, or false if there are not as many.
func readStrings(parents []int, labels []byte, ends *bitvec.Vec, numbers *packed.Ints) ([]string, bool) {
	if numbers.Len() > api.MaxEntries || numbers.Len() != ends.Rank(true, ends.Len()) {
		return nil, false
	}
	parent := func(node int) int { return parents[node] }
	l := make([]string, numbers.Len())
	for i := range l {
		id, _ := numbers.Get(i)
		if id >= uint64(len(l)) {
			return nil, false
		}
		l[id] = spell(ends.Select(true, i), parent, labels)
	}
	return l, true
}
