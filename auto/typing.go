package auto

import (
	"slices"
	"strings"

	"henkan/api"
	"henkan/utf"
)

// state is how far a text is written, in bytes, and the keys that are pending then.
type state struct {
	written int
	pending string
}

// arrival is the state before another one, and the key that leads from it to the other one.
type arrival struct {
	before state
	key    byte
}

// move is what a key writes, and the keys that are pending then.
type move struct {
	key       byte
	out, rest string
}

// Type returns the shortest keys that write s and leave nothing pending.
func (a *Auto) Type(s string) (string, bool) {
	if n := utf.Count(s); a == nil || n < 0 || n > api.MaxReading {
		return "", false
	}
	end := state{len(s), ""}
	reached := map[state]arrival{{}: {}}
	moves := a.memory(s)
	// States are visited in the order of the keys that lead to them, fewer keys first. So the first keys that lead to a state are the least ones.
	queue := []state{{}}
	for i := 0; i < len(queue); i++ {
		here := queue[i]
		if here == end {
			return keysTo(reached, end), true
		}
		for _, m := range moves(here.pending) {
			if !strings.HasPrefix(s[here.written:], m.out) {
				continue
			}
			next := state{here.written + len(m.out), m.rest}
			if _, known := reached[next]; !known {
				reached[next] = arrival{here, m.key}
				queue = append(queue, next)
			}
		}
	}
	return "", false
}

// memory returns a function that returns the moves from pending keys on that write a part of s, and finds them only once: the same keys are pending at many places.
func (a *Auto) memory(s string) func(pending string) []move {
	known := map[string][]move{}
	return func(pending string) []move {
		l, ok := known[pending]
		if !ok {
			l = a.moves(s, pending)
			known[pending] = l
		}
		return l
	}
}

// moves returns what each key does while some keys are pending, in the order of the keys, without those that write what s does not contain.
func (a *Auto) moves(s, pending string) []move {
	var l []move
	for key := byte(firstKey); key <= lastKey; key++ {
		out, rest := a.Step(pending, key)
		if strings.Contains(s, out) {
			l = append(l, move{key, out, rest})
		}
	}
	return l
}

// keysTo returns the keys that lead from the first state to another one.
func keysTo(reached map[state]arrival, to state) string {
	var keys []byte
	for to != (state{}) {
		keys = append(keys, reached[to].key)
		to = reached[to].before
	}
	slices.Reverse(keys)
	return string(keys)
}
