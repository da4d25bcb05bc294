package louds

import (
	"henkan/api"
	"henkan/bitvec"
	"henkan/packed"
)

// group is a node of strings in ascending order: the strings from from to to (to not included) are those that begin with its length bytes.
type group struct{ from, to, length int }

// Build returns the trie of strings in strictly ascending order.
func Build(l []string) (*Trie, api.Errno) {
	if len(l) > api.MaxEntries {
		return nil, api.ErrLong
	}
	nodes, before := 1, ""
	for _, s := range l {
		if len(s) > maxBytes || s <= before {
			return nil, api.ErrArg
		}
		nodes += len(s) - shared(before, s)
		before = s
	}
	if nodes > maxNodes {
		return nil, api.ErrLong
	}
	return build(l), api.OK
}

// shared returns with how many equal bytes two strings begin.
func shared(a, b string) int {
	n := 0
	for n < len(a) && n < len(b) && a[n] == b[n] {
		n++
	}
	return n
}

// build returns the trie of strings in ascending order that fit.
func build(l []string) *Trie {
	var labels []byte
	var ends []bool
	var numbers []uint64
	shape, nodes := []bool{true, false}, make([]uint64, len(l))
	groups := []group{{to: len(l)}}
	// The nodes are gone through in their order, and the children of each one come behind all nodes found so far.
	for i := 0; i < len(groups); i++ {
		g := groups[i]
		end := g.isString(l)
		ends = append(ends, end)
		if end {
			numbers = append(numbers, uint64(g.from))
			nodes[g.from] = uint64(i)
			g.from++
		}
		for g.from < g.to {
			child := g.firstChild(l)
			shape = append(shape, true)
			labels = append(labels, l[g.from][g.length])
			groups = append(groups, child)
			g.from = child.to
		}
		shape = append(shape, false)
	}
	return assemble(shape, ends, labels, numbers, nodes)
}

// isString reports whether a node is one of the strings, which is the first one that begins with it then.
func (g group) isString(l []string) bool {
	return g.from < g.to && len(l[g.from]) == g.length
}

// firstChild returns the node that is one byte longer and with which the first string of a node begins.
func (g group) firstChild(l []string) group {
	child := group{from: g.from, to: g.from + 1, length: g.length + 1}
	for child.to < g.to && l[child.to][g.length] == l[child.from][g.length] {
		child.to++
	}
	return child
}

// assemble returns the trie with these parts, none of which is too long if the strings fit.
func assemble(shape, ends []bool, labels []byte, numbers, nodes []uint64) *Trie {
	t := &Trie{labels: labels}
	t.shape, _ = bitvec.New(shape)
	t.ends, _ = bitvec.New(ends)
	t.numbers, _ = packed.New(numbers)
	t.nodes, _ = packed.New(nodes)
	return t
}
