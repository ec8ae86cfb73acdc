package sparse

import (
	"fmt"
	"testing"
)

// someCalls returns each call, with each of some manifests and hooks, and a Put under each set of these hooks, in their order and the opposite one.
func someCalls(mans int, letters string) []string {
	var l []string
	for _, h := range letters {
		l = append(l, "look "+string(h), "peek "+string(h))
	}
	for man := range mans + 1 {
		l = append(l, fmt.Sprint("drop ", man))
	}
	for bits := range 1 << len(letters) {
		set, back := "", ""
		for i := range letters {
			if bits>>i&1 == 1 {
				set, back = set+letters[i:i+1], letters[i:i+1]+back
			}
		}
		for man := range mans {
			l = append(l, fmt.Sprint("put ", man, " ", set))
			if len(set) > 1 {
				l = append(l, fmt.Sprint("put ", man, " ", back))
			}
		}
	}
	return l
}

// expectStates does each call in each state that an index with these bounds can reach; it returns how many there are.
func expectStates(t *testing.T, perHook, most, mans int, letters string) int {
	t.Helper()
	calls := someCalls(mans, letters)
	type path []string
	reach := func(to path) two {
		c := twoOf(t, perHook, most)
		for _, call := range to {
			c.do(t, call)
		}
		return c
	}
	known := map[string]bool{"": true}
	for next := []path{nil}; len(next) > 0 && !t.Failed(); next = next[1:] {
		for _, call := range calls {
			c := reach(next[0])
			c.do(t, call)
			c.expect(t, call, fps(letters)...)
			if state := c.w.told(); !known[state] {
				known[state] = true
				next = append(next, append(next[0][:len(next[0]):len(next[0])], call))
			}
		}
	}
	return len(known)
}

// P17.1 to P17.6: each call in each state of small indexes.
func TestAllStates(t *testing.T) {
	for perHook := range 4 {
		for most := range 6 {
			n := expectStates(t, perHook, most, 3, "ab")
			if (perHook == 0 || most == 0) != (n == 1) {
				t.Errorf("%d states of an index with %d and %d", n, perHook, most)
			}
		}
	}
	for _, c := range [][2]int{{1, 2}, {1, 3}, {2, 2}, {2, 3}, {2, 4}, {2, 5}, {2, 6}} {
		expectStates(t, c[0], c[1], 2, "0bA")
	}
}
