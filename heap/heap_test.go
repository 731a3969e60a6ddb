package heap

import (
	"cmp"
	"math"
	"slices"
	"testing"
)

type pair struct{ key, value int }

func order(a, b pair) int {
	return cmp.Or(cmp.Compare(a.key, b.key), cmp.Compare(a.value, b.value))
}

// sorted answers l in the order in which Pop has to tell it.
func sorted(l []pair) []pair {
	out := slices.Clone(l)
	slices.SortFunc(out, order)
	return out
}

func of(l ...pair) *Heap {
	h := &Heap{}
	for _, p := range l {
		h.Push(p.key, p.value)
	}
	return h
}

// pairs makes n pairs in no order, a good many of them more than once.
func pairs(n, keys, values int) []pair {
	var l []pair
	for i := range n {
		x := uint32(i+1) * 0x9e3779b1
		l = append(l, pair{int(x>>16)%keys - keys/2, int(x>>4)%values - values/2})
	}
	return l
}

// empty takes all of h and looks at Len on the way.
func empty(t *testing.T, h *Heap) []pair {
	t.Helper()
	var out []pair
	for n := h.Len(); n > 0; n-- {
		k, v, ok := h.Pop()
		if !ok || h.Len() != n-1 {
			t.Fatalf("Pop of %d: %d, %d, %v, and then there are %d", n, k, v, ok, h.Len())
		}
		out = append(out, pair{k, v})
	}
	isEmpty(t, h)
	return out
}

func isEmpty(t *testing.T, h *Heap) {
	t.Helper()
	for range 2 {
		if k, v, ok := h.Pop(); k != 0 || v != 0 || ok {
			t.Errorf("Pop of none: %d, %d, %v", k, v, ok)
		}
		if n := h.Len(); n != 0 {
			t.Errorf("Len of none: %d", n)
		}
	}
}

func TestP501New(t *testing.T) {
	isEmpty(t, &Heap{})
	isEmpty(t, new(Heap))
	var h Heap
	isEmpty(t, &h)
	h.Push(7, 8)
	if k, v, ok := h.Pop(); k != 7 || v != 8 || !ok {
		t.Errorf("Pop: %d, %d, %v", k, v, ok)
	}
	isEmpty(t, &h)
}

// Whatever the order in which they came, they go in theirs.
func TestP501Order(t *testing.T) {
	for name, l := range map[string][]pair{
		"keys":                     {{1, 0}, {2, 0}, {3, 0}, {4, 0}, {5, 0}},
		"values of one key":        {{9, 1}, {9, 2}, {9, 3}, {9, 4}, {9, 5}},
		"the key ahead":            {{1, 9}, {2, 8}, {3, 7}, {4, 6}, {5, 5}},
		"both":                     {{1, 1}, {1, 2}, {2, 0}, {2, 1}, {3, -1}},
		"below 0":                  {{-3, 0}, {-2, -2}, {-2, -1}, {-1, 5}, {0, -9}},
		"the same again":           {{4, 4}, {4, 4}, {4, 5}, {5, 4}, {5, 4}},
		"zeros":                    {{0, 0}, {0, 0}, {0, 0}, {0, 1}, {1, 0}},
		"the greatest":             {{math.MinInt, math.MaxInt}, {-1, 0}, {0, 0}, {1, 0}, {math.MaxInt, math.MinInt}},
		"the greatest as values":   {{5, math.MinInt}, {5, math.MinInt + 1}, {5, 0}, {5, math.MaxInt - 1}, {5, math.MaxInt}},
		"the greatest as both":     {{math.MinInt, math.MinInt}, {math.MinInt, math.MaxInt}, {0, 0}, {math.MaxInt, math.MinInt}, {math.MaxInt, math.MaxInt}},
		"apart in their high bits": {{1, 1 << 32}, {1 << 32, 1}, {1<<32 + 1, 0}, {1 << 33, 0}, {1 << 62, 0}},
	} {
		shuffled(l, func(in []pair) {
			if got := empty(t, of(in...)); !slices.Equal(got, l) {
				t.Errorf("%s: of %v: %v", name, in, got)
			}
		})
	}
}

// shuffled calls f with l in each of its orders.
func shuffled(l []pair, f func([]pair)) {
	var put func(head, rest []pair)
	put = func(head, rest []pair) {
		if len(rest) == 0 {
			f(head)
			return
		}
		for i, p := range rest {
			put(append(slices.Clone(head), p), slices.Delete(slices.Clone(rest), i, i+1))
		}
	}
	put(nil, l)
}

func TestP501Len(t *testing.T) {
	h := &Heap{}
	for n := range 300 {
		if h.Len() != n || h.Len() != n {
			t.Fatalf("Len: %d, not %d", h.Len(), n)
		}
		h.Push(n%3, n%2)
	}
	if got := empty(t, h); len(got) != 300 {
		t.Errorf("%d pairs of 300", len(got))
	}
}

// What comes between others is told in its place.
func TestP501PushedBetween(t *testing.T) {
	for _, less := range []int{2, 3, 5, 100} {
		h := &Heap{}
		var kept []pair
		for i, p := range pairs(3000, 17, 5) {
			h.Push(p.key, p.value)
			kept = sorted(append(kept, p))
			for range i % less {
				k, v, ok := h.Pop()
				if ok != (len(kept) > 0) || ok && kept[0] != (pair{k, v}) || !ok && (k != 0 || v != 0) {
					t.Fatalf("Pop %d: %d, %d, %v", i, k, v, ok)
				}
				if ok {
					kept = kept[1:]
				}
			}
			if h.Len() != len(kept) {
				t.Fatalf("Len %d: %d, not %d", i, h.Len(), len(kept))
			}
			if i%500 == 499 { // once in a while there is none left
				if got := empty(t, h); !slices.Equal(got, kept) {
					t.Fatalf("the rest at %d: %v, not %v", i, got, kept)
				}
				kept = nil
			}
		}
	}
}

// Each call ends soon, of many pairs too, in whichever order they come.
func TestP501Many(t *testing.T) {
	const many = 200000
	mixed := pairs(many, 1000, 1000)
	up := sorted(mixed)
	down := slices.Clone(up)
	slices.Reverse(down)
	for name, l := range map[string][]pair{
		"mixed":    mixed,
		"up":       up,
		"down":     down,
		"the same": make([]pair, many),
	} {
		if got := empty(t, of(l...)); !slices.Equal(got, sorted(l)) {
			t.Errorf("%s: not in order", name)
		}
	}
}

func TestP502Nil(t *testing.T) {
	var none *Heap
	isEmpty(t, none)
	for _, p := range pairs(20, 9, 9) {
		none.Push(p.key, p.value)
		isEmpty(t, none)
	}
	isEmpty(t, &Heap{})
}

func TestP502Two(t *testing.T) {
	a, b := &Heap{}, &Heap{}
	var ofA, ofB []pair
	for i, p := range pairs(400, 50, 9) {
		if i%3 == 0 {
			a.Push(p.key, p.value)
			ofA = append(ofA, p)
		} else {
			b.Push(p.key, p.value)
			ofB = append(ofB, p)
		}
		if a.Len() != len(ofA) || b.Len() != len(ofB) {
			t.Fatalf("Len: %d and %d, not %d and %d", a.Len(), b.Len(), len(ofA), len(ofB))
		}
	}
	if got := empty(t, a); !slices.Equal(got, sorted(ofA)) {
		t.Errorf("one: %v", got)
	}
	if got := empty(t, b); !slices.Equal(got, sorted(ofB)) {
		t.Errorf("the other: %v", got)
	}
}

// A copy is a second heap: neither tells what the other was told from then on.
func TestP502Copied(t *testing.T) {
	l := pairs(100, 40, 9)
	turn := []func(h *Heap){
		func(h *Heap) { empty(t, h) },
		func(h *Heap) { h.Pop() },
		func(h *Heap) { h.Push(math.MinInt, 0) },
		func(h *Heap) { h.Push(0, 0); h.Push(math.MaxInt, 0) },
		func(h *Heap) { h.Pop(); h.Push(3, 3); h.Pop(); h.Push(-3, -3) },
	}
	for n := range l {
		for i, f := range turn {
			a := of(l[:n]...)
			b := *a
			f(&b)
			if got := empty(t, a); !slices.Equal(got, sorted(l[:n])) {
				t.Fatalf("the first of %d, turn %d: %v", n, i, got)
			}
			a = of(l[:n]...)
			b = *a
			f(a)
			if got := empty(t, &b); !slices.Equal(got, sorted(l[:n])) {
				t.Fatalf("the copy of %d, turn %d: %v", n, i, got)
			}
		}
	}
}

// One that was told the same tells the same, whatever others were told
// between, and whatever it had before.
func TestP502SameAgain(t *testing.T) {
	l := pairs(60, 12, 4)
	used := of(pairs(500, 99, 99)...)
	empty(t, used)
	other := &Heap{}
	for _, h := range []*Heap{{}, {}, used} {
		var got []pair
		for _, p := range l {
			h.Push(p.key, p.value)
			other.Push(-p.key, -p.value)
			other.Pop()
		}
		for h.Len() > 0 {
			k, v, _ := h.Pop()
			got = append(got, pair{k, v})
			other.Push(k, v)
		}
		if !slices.Equal(got, sorted(l)) {
			t.Errorf("%v, not %v", got, sorted(l))
		}
	}
}
