package sparse

import (
	"fmt"
	"math"
	"slices"
	"strconv"
	"strings"
	"testing"

	"sheaf/api"
)

// step is a call as a text, what it is to return, and what the index is to have behind it, which are both known without any computation.
type step struct{ call, answer, state string }

// do does a call by its text: put, a manifest and letters of hooks; look or peek, and a letter; drop, and a manifest. It returns the answer as a text.
func (c two) do(t *testing.T, call string) string {
	t.Helper()
	words := strings.Fields(call)
	answer := ""
	switch words[0] {
	case "put":
		letters := ""
		if len(words) > 2 {
			letters = words[2]
		}
		c.put(t, number(t, words[1]), fps(letters)...)
	case "look":
		answer = fmt.Sprint(c.w.peek(fp(words[1][0])))
		c.look(t, fp(words[1][0]))
	case "peek":
		answer = fmt.Sprint(c.w.peek(fp(words[1][0])))
		c.peek(t, fp(words[1][0]))
	case "drop":
		man := number(t, words[1])
		before := c.x.Len()
		c.drop(t, man)
		answer = fmt.Sprint(before - c.x.Len())
	default:
		t.Fatalf("no call: %s", call)
	}
	return answer
}

func number(t *testing.T, s string) uint32 {
	t.Helper()
	n, err := strconv.ParseUint(s, 10, 32)
	if err != nil {
		t.Fatal(err)
	}
	return uint32(n)
}

// expectSteps holds each step against what is known of it, and against the words; it returns the index.
func expectSteps(t *testing.T, perHook, most int, steps ...step) two {
	t.Helper()
	c := twoOf(t, perHook, most)
	for i, s := range steps {
		answer := c.do(t, s.call)
		if state := told(c.x); answer != s.answer || state != s.state {
			t.Errorf("New(%d, %d), step %d, %s: %q, and %q, not %q, and %q", perHook, most, i, s.call, answer, state, s.answer, s.state)
		}
	}
	return c
}

// P17.1: each bound of New, one beyond each, and the least and the greatest int; a new index has nothing.
func TestNew(t *testing.T) {
	for _, perHook := range []int{math.MinInt, math.MinInt + 1, math.MinInt32, -65, -64, -2, -1, 0, 1, 2, 63, 64, 65, 66, 128, 65536, 1 << 32, 1<<32 + 1, math.MaxInt - 1, math.MaxInt} {
		for _, most := range []int{math.MinInt, math.MinInt + 1, math.MinInt32, -65536, -2, -1, 0, 1, 2, 64, 65535, 65536, 65537, 65538, 1 << 17, 1 << 32, 1<<32 + 1, math.MaxInt - 1, math.MaxInt} {
			if perHook < 0 || perHook > mostPerHook || most < 0 || most > mostPairs {
				if x, e := New(perHook, most); x != nil || e != api.ErrArg {
					t.Errorf("New(%d, %d): %v %d", perHook, most, x, e)
				}
				continue
			}
			c := twoOf(t, perHook, most)
			c.expect(t, "new", fps("0aA")...)
			c.drop(t, 0)
			c.look(t, fp('0'))
			c.put(t, 7, fps("ba")...)
			c.put(t, 8, fps("a")...)
		}
	}
}

// P17.1 to P17.4: the chapter's example.
func TestExample(t *testing.T) {
	c := expectSteps(t, 2, 10, step{"put 1 a", "", "a:1"}, step{"put 2 a", "", "a:2,1"}, step{"put 3 a", "", "a:3,2"})
	expectList(t, "Look", c.x.Look(fp('a')), []uint32{3, 2})
	expectNumber(t, "Len", c.x.Len(), 2)
}

// P17.2: under none, one, one given twice, and several hooks, which are taken in their own order, whatever that in the call is.
func TestPutSet(t *testing.T) {
	expectSteps(t, 3, 10,
		step{"put 1", "", ""}, step{"put 1 a", "", "a:1"}, step{"put 2 bb", "", "a:1 b:2"}, step{"put 3", "", "a:1 b:2"},
		step{"put 3 cba", "", "a:3,1 b:3,2 c:3"}, step{"put 4 cAc0", "", "a:3,1 b:3,2 0:4 c:4,3 A:4"}, step{"put 5 bbaabb", "", "0:4 c:4,3 A:4 a:5,3,1 b:5,3,2"})
	for _, letters := range []string{"0abcA", "Acba0", "b0Aca", "A0cbaA", "aaa0Acbbb"} {
		expectSteps(t, 1, 5, step{"put 9 " + letters, "", "0:9 a:9 b:9 c:9 A:9"})
	}
}

// P17.2: fingerprints are ordered byte by byte, without signs; those that differ in any one byte are two hooks.
func TestPutOrder(t *testing.T) {
	whole := api.Fp{}
	for i := range whole {
		whole[i] = byte(2 + i)
	}
	for at := range whole {
		c := twoOf(t, 2, 100)
		var l []api.Fp
		for _, b := range []byte{0, 1, 127, 128, 129, 255} {
			f := whole
			f[at] = b
			l = append(l, f)
		}
		back := slices.Clone(l)
		slices.Reverse(back)
		c.put(t, 1, back...)
		if !slices.Equal(c.x.Hooks(), l) {
			t.Errorf("byte %d: %x", at, c.x.Hooks())
		}
		c.put(t, 2, whole)
		expectNumber(t, "Len", c.x.Len(), 7)
		for _, f := range l {
			expectList(t, "Peek", c.x.Peek(f), []uint32{1})
		}
	}
}

// P17.2: a manifest that the list has already, first, last and amid others.
func TestPutAgain(t *testing.T) {
	expectSteps(t, 3, 10,
		step{"put 1 a", "", "a:1"}, step{"put 1 a", "", "a:1"}, step{"put 2 a", "", "a:2,1"}, step{"put 3 a", "", "a:3,2,1"},
		step{"put 3 a", "", "a:3,2,1"}, step{"put 2 a", "", "a:2,3,1"}, step{"put 1 a", "", "a:1,2,3"}, step{"put 3 a", "", "a:3,1,2"}, step{"put 4 a", "", "a:4,3,1"})
	// A pair that comes again takes no room of another one.
	expectSteps(t, 3, 3, step{"put 1 a", "", "a:1"}, step{"put 1 b", "", "a:1 b:1"}, step{"put 2 b", "", "a:1 b:2,1"}, step{"put 1 b", "", "a:1 b:1,2"}, step{"put 1 ba", "", "a:1 b:1,2"})
}

// P17.2: any number may be a manifest.
func TestPutNumbers(t *testing.T) {
	expectSteps(t, 4, 8,
		step{"put 0 a", "", "a:0"}, step{"put 4294967295 a", "", "a:4294967295,0"}, step{"put 2147483648 a", "", "a:2147483648,4294967295,0"},
		step{"put 4294967294 a", "", "a:4294967294,2147483648,4294967295,0"}, step{"put 0 a", "", "a:0,4294967294,2147483648,4294967295"},
		step{"put 1 a", "", "a:1,0,4294967294,2147483648"}, step{"drop 0", "1", "a:1,4294967294,2147483648"}, step{"drop 4294967295", "0", "a:1,4294967294,2147483648"},
		step{"drop 4294967294", "1", "a:1,2147483648"}, step{"put 0 0A", "", "a:1,2147483648 0:0 A:0"}, step{"drop 0", "2", "a:1,2147483648"})
}

// P17.2, P17.5: a list that is full, by one.
func TestListFull(t *testing.T) {
	expectSteps(t, 1, 10, step{"put 1 ab", "", "a:1 b:1"}, step{"put 2 a", "", "b:1 a:2"}, step{"put 1 a", "", "b:1 a:1"}, step{"put 3 ba", "", "a:3 b:3"})
	expectSteps(t, 2, 10, step{"put 1 ab", "", "a:1 b:1"}, step{"put 2 a", "", "b:1 a:2,1"}, step{"put 3 a", "", "b:1 a:3,2"}, step{"put 2 a", "", "b:1 a:2,3"}, step{"put 4 a", "", "b:1 a:4,2"})
	c := twoOf(t, mostPerHook, mostPairs)
	for man := range uint32(mostPerHook + 2) {
		c.put(t, man, fp('a'))
		expectNumber(t, "Len", c.x.Len(), min(int(man)+1, mostPerHook))
	}
	l := c.x.Peek(fp('a'))
	if len(l) != mostPerHook || l[0] != 65 || l[63] != 2 {
		t.Errorf("a full list: %d", l)
	}
}

// P17.2, P17.5: pairs that are full, by one: so that a hook goes with a list of one or of several manifests.
func TestPairsFull(t *testing.T) {
	expectSteps(t, 9, 3, step{"put 1 abc", "", "a:1 b:1 c:1"}, step{"put 1 d", "", "b:1 c:1 d:1"}, step{"put 2 d", "", "c:1 d:2,1"}, step{"put 2 c", "", "c:2,1"})
	expectSteps(t, 9, 3, step{"put 1 a", "", "a:1"}, step{"put 2 a", "", "a:2,1"}, step{"put 3 a", "", "a:3,2,1"}, step{"put 3 b", "", "b:3"})
	expectSteps(t, 9, 4, step{"put 1 a", "", "a:1"}, step{"put 2 a", "", "a:2,1"}, step{"put 1 bc", "", "a:2,1 b:1 c:1"}, step{"put 1 d", "", "b:1 c:1 d:1"}, step{"put 1 e", "", "b:1 c:1 d:1 e:1"})
	// A use keeps a hook, another one goes; a peek keeps none.
	expectSteps(t, 9, 2, step{"put 1 ab", "", "a:1 b:1"}, step{"look a", "[1]", "b:1 a:1"}, step{"put 1 c", "", "a:1 c:1"}, step{"peek a", "[1]", "a:1 c:1"}, step{"put 1 b", "", "c:1 b:1"})
	// The same list again, when all is full, takes nothing away.
	expectSteps(t, 9, 2, step{"put 1 ab", "", "a:1 b:1"}, step{"put 1 a", "", "b:1 a:1"}, step{"put 1 ab", "", "a:1 b:1"})
}

// P17.2, P17.5: several hooks go in one Put: for one pair, and one by one.
func TestSeveralGo(t *testing.T) {
	expectSteps(t, 9, 3, step{"put 1 abc", "", "a:1 b:1 c:1"}, step{"put 2 de", "", "c:1 d:2 e:2"}, step{"put 3 abcd", "", "b:3 c:3 d:3"})
	expectSteps(t, 9, 4, step{"put 1 abc", "", "a:1 b:1 c:1"}, step{"put 2 c", "", "a:1 b:1 c:2,1"}, step{"put 3 c", "", "b:1 c:3,2,1"}, step{"put 4 c", "", "c:4,3,2,1"}, step{"put 5 d", "", "d:5"})
	expectSteps(t, 9, 5, step{"put 1 ab", "", "a:1 b:1"}, step{"put 2 ab", "", "a:2,1 b:2,1"}, step{"put 3 cd", "", "b:2,1 c:3 d:3"}, step{"put 4 efgh", "", "d:3 e:4 f:4 g:4 h:4"})
}

// P17.2, P17.5: hooks of the very Put go: an old list ahead of its turn, which is then put anew; one that was just put; the last one, whose list alone is too long.
func TestVeryPut(t *testing.T) {
	expectSteps(t, 9, 2, step{"put 1 ab", "", "a:1 b:1"}, step{"put 2 bc", "", "c:2"})
	expectSteps(t, 9, 2, step{"put 1 z", "", "z:1"}, step{"put 2 abz", "", "b:2 z:2"}, step{"put 3 abcdefg", "", "f:3 g:3"})
	expectSteps(t, 9, 2, step{"put 1 z", "", "z:1"}, step{"put 2 z", "", "z:2,1"}, step{"put 3 az", "", "a:3 z:3"})
	expectSteps(t, 9, 1, step{"put 1 a", "", "a:1"}, step{"put 2 b", "", "b:2"}, step{"put 3 abc", "", "c:3"}, step{"put 3 c", "", "c:3"}, step{"put 4 c", "", ""}, step{"put 4 c", "", "c:4"})
	expectSteps(t, 3, 2, step{"put 1 a", "", "a:1"}, step{"put 2 a", "", "a:2,1"}, step{"put 3 a", "", ""}, step{"put 3 ab", "", "a:3 b:3"}, step{"put 4 b", "", "b:4,3"})
	expectSteps(t, 2, 1, step{"put 1 a", "", "a:1"}, step{"put 2 a", "", ""}, step{"look a", "[]", ""})
}

// P17.1, P17.5: an index with a bound of 0 is empty, whatever is put.
func TestNoRoom(t *testing.T) {
	for _, c := range [][2]int{{0, 0}, {0, 1}, {0, 10}, {0, mostPairs}, {1, 0}, {2, 0}, {mostPerHook, 0}} {
		expectSteps(t, c[0], c[1], step{"put 1 a", "", ""}, step{"put 1 a", "", ""}, step{"put 2 0abA", "", ""}, step{"look a", "[]", ""}, step{"peek a", "[]", ""}, step{"drop 1", "0", ""}, step{"put 3", "", ""})
	}
}

// P17.1, P17.3: Look uses a hook that has a list, Peek none; neither changes anything for one that has no list, or whose list is gone.
func TestLookPeek(t *testing.T) {
	expectSteps(t, 2, 4,
		step{"look a", "[]", ""}, step{"peek a", "[]", ""}, step{"put 1 abc", "", "a:1 b:1 c:1"}, step{"put 2 b", "", "a:1 c:1 b:2,1"},
		step{"peek a", "[1]", "a:1 c:1 b:2,1"}, step{"peek b", "[2 1]", "a:1 c:1 b:2,1"}, step{"look b", "[2 1]", "a:1 c:1 b:2,1"}, step{"look a", "[1]", "c:1 b:2,1 a:1"},
		step{"look b", "[2 1]", "c:1 a:1 b:2,1"}, step{"look d", "[]", "c:1 a:1 b:2,1"}, step{"peek d", "[]", "c:1 a:1 b:2,1"}, step{"look 0", "[]", "c:1 a:1 b:2,1"},
		step{"put 3 d", "", "a:1 b:2,1 d:3"}, step{"look c", "[]", "a:1 b:2,1 d:3"}, step{"peek c", "[]", "a:1 b:2,1 d:3"},
		step{"drop 3", "1", "a:1 b:2,1"}, step{"look d", "[]", "a:1 b:2,1"}, step{"peek d", "[]", "a:1 b:2,1"}, step{"put 4 d", "", "a:1 b:2,1 d:4"}, step{"look d", "[4]", "a:1 b:2,1 d:4"})
	expectSteps(t, 2, 4, step{"put 1 0", "", "0:1"}, step{"put 1 a", "", "0:1 a:1"}, step{"look 0", "[1]", "a:1 0:1"}, step{"peek a", "[1]", "a:1 0:1"}, step{"drop 1", "2", ""}, step{"look 0", "[]", ""})
}

// P17.1: the order of the hooks behind every kind of call.
func TestOrder(t *testing.T) {
	expectSteps(t, 2, 5,
		step{"put 1 abcd", "", "a:1 b:1 c:1 d:1"}, step{"look b", "[1]", "a:1 c:1 d:1 b:1"}, step{"peek a", "[1]", "a:1 c:1 d:1 b:1"}, step{"put 1 c", "", "a:1 d:1 b:1 c:1"},
		step{"put 2 d", "", "a:1 b:1 c:1 d:2,1"}, step{"drop 2", "1", "a:1 b:1 c:1 d:1"}, step{"put 2 ba", "", "d:1 a:2,1 b:2,1"},
		step{"put 3 c", "", "a:2,1 b:2,1 c:3"}, step{"look a", "[2 1]", "b:2,1 c:3 a:2,1"}, step{"put 4 e", "", "c:3 a:2,1 e:4"}, step{"drop 4", "1", "c:3 a:2,1"}, step{"drop 2", "1", "c:3 a:1"}, step{"put 2 c", "", "a:1 c:2,3"})
}

// P17.4: a manifest that no list has, that one has, that all have, that is a list's only one, first, last and amid others.
func TestDrop(t *testing.T) {
	expectSteps(t, 3, 20,
		step{"drop 1", "0", ""}, step{"put 1 ab", "", "a:1 b:1"}, step{"put 2 ab", "", "a:2,1 b:2,1"}, step{"put 3 abc", "", "a:3,2,1 b:3,2,1 c:3"}, step{"drop 4", "0", "a:3,2,1 b:3,2,1 c:3"},
		step{"put 4 b", "", "a:3,2,1 c:3 b:4,3,2"}, step{"drop 1", "1", "a:3,2 c:3 b:4,3,2"}, step{"drop 1", "0", "a:3,2 c:3 b:4,3,2"}, step{"drop 3", "3", "a:2 b:4,2"},
		step{"put 3 c", "", "a:2 b:4,2 c:3"}, step{"drop 2", "2", "b:4 c:3"}, step{"drop 4", "1", "c:3"}, step{"drop 3", "1", ""}, step{"drop 3", "0", ""})
	expectSteps(t, 2, 6, step{"put 1 abcdef", "", "a:1 b:1 c:1 d:1 e:1 f:1"}, step{"drop 1", "6", ""}, step{"put 2 fa", "", "a:2 f:2"}, step{"drop 2", "2", ""})
	// What was dropped makes room.
	expectSteps(t, 2, 3, step{"put 1 ab", "", "a:1 b:1"}, step{"put 2 c", "", "a:1 b:1 c:2"}, step{"drop 2", "1", "a:1 b:1"}, step{"put 3 d", "", "a:1 b:1 d:3"}, step{"put 4 d", "", "b:1 d:4,3"}, step{"drop 3", "1", "b:1 d:4"}, step{"put 5 d", "", "b:1 d:5,4"})
	// A manifest that a bound removed is in no list any more.
	expectSteps(t, 1, 2, step{"put 1 ab", "", "a:1 b:1"}, step{"put 2 a", "", "b:1 a:2"}, step{"put 2 c", "", "a:2 c:2"}, step{"drop 1", "0", "a:2 c:2"}, step{"drop 2", "2", ""})
}
