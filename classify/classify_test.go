package classify

import (
	"fmt"
	"math"
	"slices"
	"strconv"
	"sync"
	"testing"
	"unsafe"

	"waymark/api"
	"waymark/policy"
)

// chance makes numbers, the same ones each time.
type chance uint32

func (c *chance) next(most int) int {
	*c = *c*1664525 + 1013904223
	return int(*c>>9) % most
}

func sameWant(a, b api.Want) bool {
	return a.From == b.From && a.To == b.To && a.Bound == b.Bound && slices.Equal(a.Via, b.Via) && slices.Equal(a.Nodes, b.Nodes) && slices.Equal(a.Links, b.Links) && slices.Equal(a.Colours, b.Colours)
}

func sameRule(a, b api.Rule) bool {
	return a.Name == b.Name && a.Priority == b.Priority && a.Match == b.Match && a.Strict == b.Strict && sameWant(a.Want, b.Want)
}

func same(a, b []api.Rule) bool { return slices.EqualFunc(a, b, sameRule) }

// brief tells rules in a line that is not too long.
func brief(l []api.Rule) string { return fmt.Sprintf("%.400s", fmt.Sprint(l)) }

// bare is a rule for all that comes in at the node.
func bare(name string, node, priority int) api.Rule {
	return api.Rule{Name: name, Priority: priority, Want: api.Want{From: node}}
}

// only is a rule at node 0 for what m is for.
func only(name string, priority int, m api.Match) api.Rule {
	r := bare(name, 0, priority)
	r.Match = m
	return r
}

// whole is a rule at node 1 with something in each field.
func whole(name string, priority int) api.Rule {
	return api.Rule{
		Name:     name,
		Priority: priority,
		Match:    api.Match{Src: api.Prefix{Addr: 0x0a0b0c0d, Len: 8}, Dst: api.Prefix{Addr: 0x14000002, Len: 32}, Proto: 6, Sport: 1000, Dport: 80},
		Want:     api.Want{From: 1, To: 2, Bound: 99, Via: []int{3, 4}, Nodes: []int{5}, Links: []int{0, 6}, Colours: []int{1, 2, 3}},
		Strict:   true,
	}
}

// flow is one that a whole rule is for; its fields differ from each other.
var flow = api.Tuple{Src: 0x0a000001, Dst: 0x14000002, Proto: 6, Sport: 1000, Dport: 80}

// finds looks at what is told: the rule of that number, below 0 none.
func finds(t *testing.T, l []api.Rule, node int, in api.Tuple, number int) {
	t.Helper()
	var want api.Rule
	if number >= 0 {
		want = l[number]
	}
	got, ok := First(l, node, in)
	if ok != (number >= 0) || !sameRule(got, want) {
		t.Errorf("First(%s, %d, %v): %v, %v, not rule %d", brief(l), node, in, got, ok, number)
	}
}

func TestP2001NoRules(t *testing.T) {
	spare := []api.Rule{whole("a", 1)}
	for _, l := range [][]api.Rule{nil, {}, spare[:0]} {
		for _, node := range []int{math.MinInt, -1, 0, 1, math.MaxInt} {
			finds(t, l, node, api.Tuple{}, -1)
			finds(t, l, node, flow, -1)
		}
	}
}

func TestP2001Examples(t *testing.T) {
	net := api.Prefix{Addr: 0x0a000000, Len: 8}
	l := []api.Rule{
		only("all", 1, api.Match{}),
		only("web", 5, api.Match{Dport: 80}),
		only("net", 5, api.Match{Src: net}),
		only("best", 9, api.Match{Src: net, Proto: 17}),
		bare("other", 3, 20),
	}
	for i, x := range []struct {
		node, want int
		t          api.Tuple
	}{
		{0, 0, api.Tuple{}},
		{0, 0, api.Tuple{Proto: 17}},
		{0, 0, api.Tuple{Src: 0x0b000000, Dport: 443}},
		{0, 1, api.Tuple{Dport: 80}},
		{0, 1, flow}, // as the web stands ahead of the net
		{0, 2, api.Tuple{Src: 0x0a000001, Dport: 443}},
		{0, 2, api.Tuple{Src: 0x0affffff}},
		{0, 3, api.Tuple{Src: 0x0a000001, Proto: 17, Dport: 80}},
		{3, 4, api.Tuple{}},
		{3, 4, flow},
		{1, -1, flow},
		{2, -1, api.Tuple{}},
		{-1, -1, api.Tuple{}},
	} {
		t.Run(strconv.Itoa(i), func(t *testing.T) { finds(t, l, x.node, x.t, x.want) })
	}
}

// All that a rule has is told, the bits behind a prefix's Len, too.
func TestP2001Whole(t *testing.T) {
	l := []api.Rule{bare("x", 0, 9), whole("y", 3), whole("z", 2), bare("all", 1, 1)}
	finds(t, l, 1, flow, 1)
	finds(t, l, 1, api.Tuple{}, 3)
	finds(t, l[:3], 1, api.Tuple{}, -1)
	finds(t, l[2:], 1, flow, 0)
	finds(t, []api.Rule{{}}, 0, flow, 0)
}

// A rule is at the node of its want's From, at none of the others that it has.
func TestP2001Node(t *testing.T) {
	everywhere := []int{0, 1, 2, 3, 4}
	for from := range 6 {
		r := api.Rule{Name: "a", Priority: 1, Want: api.Want{From: from, To: 3, Bound: 2, Via: everywhere, Nodes: everywhere, Links: everywhere, Colours: everywhere}}
		for node := -1; node < 7; node++ {
			want := -1
			if node == from {
				want = 1
			}
			finds(t, []api.Rule{bare("b", 8, 3), r, bare("c", 9, 3)}, node, flow, want)
		}
	}
	// That a node is one of a graph is not asked.
	odd := []int{math.MinInt, math.MinInt32, -1, 40, 1 << 32, math.MaxInt}
	for i := range odd {
		var l []api.Rule
		for j, node := range odd {
			l = append(l, bare("r"+strconv.Itoa(j), node, j))
		}
		finds(t, l, odd[i], flow, i)
		finds(t, slices.Delete(l, i, i+1), odd[i], flow, -1)
	}
}

// Of those of one node the greatest Priority comes first, wherever it stands,
// and of one Priority the first that stands.
func TestP2001Priority(t *testing.T) {
	for _, x := range []struct {
		priorities []int
		want       int
	}{
		{[]int{1, 2, 3}, 2},
		{[]int{3, 2, 1}, 0},
		{[]int{1, 3, 2}, 1},
		{[]int{2, 2, 2}, 0},
		{[]int{1, 2, 2, 2}, 1},
		{[]int{0, 0}, 0},
		{[]int{-1, 0}, 1},
		{[]int{-3, -2, -2}, 1},
		{[]int{math.MinInt, math.MaxInt, -1}, 1},
		{[]int{math.MaxInt, math.MinInt, 1}, 0},
		{[]int{math.MinInt, math.MinInt + 1}, 1},
		{[]int{math.MinInt, math.MinInt}, 0},
		{[]int{1, 1 << 32, 1<<32 + 1, 2}, 2},
	} {
		var l []api.Rule
		for i, priority := range x.priorities {
			l = append(l, bare("r"+strconv.Itoa(i), 4, priority))
		}
		finds(t, l, 4, flow, x.want)
	}
}

// Each one that does not match is passed over, until there is none.
func TestP2001PassedOver(t *testing.T) {
	priorities := []int{4, 7, 4, 9, 0, 7, -2, 9, 4}
	order := []int{3, 7, 1, 5, 0, 2, 8, 4, 6}
	var l []api.Rule
	for i, priority := range priorities {
		l = append(l, only("r"+strconv.Itoa(i), priority, api.Match{}))
	}
	for _, i := range order {
		finds(t, l, 0, flow, i)
		l[i].Match.Dport = 81
	}
	finds(t, l, 0, flow, -1)
	finds(t, l, 0, api.Tuple{Dport: 81}, order[0])
}

// Each field of a match tells, and each by itself; 0 asks for any.
func TestP2001Match(t *testing.T) {
	all := whole("a", 1).Match
	for i, x := range []struct {
		ok   bool
		turn func(m *api.Match, t *api.Tuple)
	}{
		{true, func(m *api.Match, t *api.Tuple) {}},
		{true, func(m *api.Match, t *api.Tuple) { *m = api.Match{} }},
		{true, func(m *api.Match, t *api.Tuple) { *m, *t = api.Match{}, api.Tuple{} }},
		{false, func(m *api.Match, t *api.Tuple) { *t = api.Tuple{} }},
		{true, func(m *api.Match, t *api.Tuple) { t.Src = 0x0affffff }},
		{false, func(m *api.Match, t *api.Tuple) { t.Src = 0x0b000001 }},
		{false, func(m *api.Match, t *api.Tuple) { t.Src = 0x09ffffff }},
		{false, func(m *api.Match, t *api.Tuple) { t.Dst++ }},
		{true, func(m *api.Match, t *api.Tuple) { t.Dst++; m.Dst.Len = 31; m.Dst.Addr ^= 1 }},
		{false, func(m *api.Match, t *api.Tuple) { t.Src, t.Dst = t.Dst, t.Src }},
		{true, func(m *api.Match, t *api.Tuple) { t.Src = 0; m.Src.Len = 0 }},
		{true, func(m *api.Match, t *api.Tuple) { t.Src = 0; m.Src.Len = math.MinInt }},
		{false, func(m *api.Match, t *api.Tuple) { m.Src.Len = math.MaxInt }},
		{true, func(m *api.Match, t *api.Tuple) { m.Dst.Len = math.MaxInt }},
		{false, func(m *api.Match, t *api.Tuple) { t.Proto = 17 }},
		{false, func(m *api.Match, t *api.Tuple) { t.Proto = 0 }},
		{true, func(m *api.Match, t *api.Tuple) { m.Proto = 0 }},
		{false, func(m *api.Match, t *api.Tuple) { t.Sport = 0 }},
		{true, func(m *api.Match, t *api.Tuple) { m.Sport = 0 }},
		{false, func(m *api.Match, t *api.Tuple) { t.Dport = 0 }},
		{true, func(m *api.Match, t *api.Tuple) { m.Dport = 0 }},
		{false, func(m *api.Match, t *api.Tuple) { t.Sport, t.Dport = t.Dport, t.Sport }},
		// Numbers that no packet has are numbers all the same.
		{true, func(m *api.Match, t *api.Tuple) { m.Proto, t.Proto = -1, -1 }},
		{false, func(m *api.Match, t *api.Tuple) { m.Proto, t.Proto = 6, 262 }},
		{false, func(m *api.Match, t *api.Tuple) { m.Sport, t.Sport = 1, 65537 }},
		{true, func(m *api.Match, t *api.Tuple) { m.Dport, t.Dport = math.MaxInt, math.MaxInt }},
		{false, func(m *api.Match, t *api.Tuple) { m.Dport, t.Dport = math.MinInt, math.MaxInt }},
		{true, func(m *api.Match, t *api.Tuple) { m.Dport, t.Dport = 0, math.MinInt }},
	} {
		m, in := all, flow
		x.turn(&m, &in)
		t.Run(strconv.Itoa(i), func(t *testing.T) {
			if x.ok {
				finds(t, []api.Rule{only("all", 1, api.Match{}), only("it", 2, m)}, 0, in, 1)
				finds(t, []api.Rule{only("it", 0, m)}, 0, in, 0)
			} else {
				finds(t, []api.Rule{only("all", 1, api.Match{}), only("it", 2, m)}, 0, in, 0)
				finds(t, []api.Rule{only("it", 0, m)}, 0, in, -1)
			}
		})
	}
}

// Rules that sound.Check refuses are found as others are: nothing is asked of
// them here but what they are for.
func TestP2001WrongRules(t *testing.T) {
	odd := []int{math.MinInt, -1, 121, math.MaxInt}
	wrong := api.Rule{Name: "NO word;", Priority: -5, Match: api.Match{Src: api.Prefix{Addr: 7, Len: -3}, Dst: api.Prefix{Addr: 0x14000002, Len: 99}}, Want: api.Want{From: 77, To: -7, Bound: -1, Via: slices.Repeat(odd, 3), Nodes: odd, Links: odd, Colours: odd}}
	twin := wrong
	twin.Strict = true
	low := wrong
	low.Priority = -6
	finds(t, []api.Rule{low, wrong, twin}, 77, flow, 1)
	finds(t, []api.Rule{low, twin, wrong}, 77, flow, 1)
	finds(t, []api.Rule{low, twin, wrong}, 77, api.Tuple{}, -1)
	finds(t, []api.Rule{low, {}, wrong}, 0, api.Tuple{Proto: -1}, 1)
}

func TestP2001Parsed(t *testing.T) {
	l, _, e := policy.Parse("rule all 0 from 0 to 2; rule gold 7 from 0 to 2 via 1 dst 20.0.0.0/30 strict; rule gold 7 from 0 to 1; rule web 8 dport 443 from 0 to 2; rule back 9 from 2 to 0;")
	if e != api.OK {
		t.Fatalf("that is no text of rules: %v", e)
	}
	finds(t, l, 0, flow, 1)
	finds(t, l, 0, api.Tuple{Dst: 0x14000004}, 2)
	finds(t, l, 0, api.Tuple{Dst: 0x14000002, Dport: 443}, 3)
	finds(t, l, 2, flow, 4)
	finds(t, l, 1, flow, -1)
}

// begins tells by the bits, one by one, whether addr is in p.
func begins(p api.Prefix, addr uint32) bool {
	for i := range min(max(p.Len, 0), 32) {
		if (p.Addr^addr)/(1<<(31-i))%2 != 0 {
			return false
		}
	}
	return true
}

// number tells which rule comes first, told another way: among all that are
// for the packet, without an order made of them.
func number(l []api.Rule, node int, t api.Tuple) int {
	best := -1
	for i, r := range l {
		m := r.Match
		is := r.Want.From == node && begins(m.Src, t.Src) && begins(m.Dst, t.Dst)
		for _, x := range [][2]int{{m.Proto, t.Proto}, {m.Sport, t.Sport}, {m.Dport, t.Dport}} {
			is = is && (x[0] == 0 || x[0] == x[1])
		}
		if is && (best < 0 || r.Priority > l[best].Priority) {
			best = i
		}
	}
	return best
}

func (c *chance) tuple() api.Tuple {
	return api.Tuple{Src: uint32(c.next(4)) << 30, Dst: uint32(c.next(4)), Proto: c.next(3), Sport: c.next(3), Dport: c.next(3)}
}

// match makes one that asks for little as often as not.
func (c *chance) match() api.Match {
	t := c.tuple()
	m := api.Match{Src: api.Prefix{Addr: t.Src, Len: c.next(4) - 1}, Dst: api.Prefix{Addr: t.Dst, Len: 29 + c.next(5)}}
	for i, n := range []*int{&m.Proto, &m.Sport, &m.Dport} {
		if c.next(3) == 0 {
			*n = []int{t.Proto, t.Sport, t.Dport}[i]
		}
	}
	if c.next(2) == 0 {
		m.Dst.Len = 0
	}
	return m
}

func TestP2001AnyRules(t *testing.T) {
	c := chance(2001)
	times := map[int]int{}
	for range 4000 {
		var l []api.Rule
		for i := range c.next(api.MaxRules + 1) {
			r := whole("r"+strconv.Itoa(i), c.next(6)-2)
			r.Match, r.Want.From, r.Strict = c.match(), c.next(3), c.next(2) == 0
			l = append(l, r)
		}
		for node := range 4 {
			in := c.tuple()
			n := number(l, node, in)
			times[n]++
			finds(t, l, node, in, n)
		}
	}
	for n := -1; n < api.MaxRules; n++ {
		if times[n] < 20 {
			t.Errorf("rule %d came %d times", n, times[n])
		}
	}
}

// How many rules there may be is not asked here.
func TestP2001Many(t *testing.T) {
	c := chance(20010)
	for _, n := range []int{12, 13, 21, 64, 1000, 50000} {
		var l []api.Rule
		for i := range n {
			r := bare("r"+strconv.Itoa(i), i%2, c.next(5))
			r.Match.Dport = c.next(4) + 80
			l = append(l, r)
		}
		for node := range 3 {
			for dport := 80; dport < 85; dport++ {
				in := api.Tuple{Dport: dport}
				finds(t, l, node, in, number(l, node, in))
			}
		}
	}
}

// listsOf are the lists of a rule.
func listsOf(r api.Rule) [][]int {
	return [][]int{r.Want.Via, r.Want.Nodes, r.Want.Links, r.Want.Colours}
}

// spoil turns all that a rule's lists have, their spare room, too.
func spoil(r api.Rule) {
	for _, x := range listsOf(r) {
		x = x[:cap(x)]
		for i := range x {
			x[i] = -7
		}
	}
}

// What is answered is new memory: each list is one of its own.
func TestP2002NewMemory(t *testing.T) {
	// The lists that are handed in are one and the same.
	room := []int{3, 4, 5, 6}
	shared := bare("a", 1, 2)
	shared.Want.Via, shared.Want.Nodes, shared.Want.Links, shared.Want.Colours = room[:2], room[:2], room[:2], room[:2]
	l := []api.Rule{shared, shared}
	first, _ := First(l, 1, flow)
	second, _ := First(l, 1, flow)
	spoil(second)
	if !sameRule(first, shared) || !slices.Equal(room, []int{3, 4, 5, 6}) {
		t.Errorf("the first answer became %v, the rule's list %v", first, room)
	}
	for i, x := range listsOf(first) {
		if !slices.Equal(x, []int{3, 4}) {
			t.Errorf("list %d became %v", i, x)
		}
		x = x[:cap(x)]
		for j := range x {
			x[j] = -1
		}
	}
	if !slices.Equal(room, []int{3, 4, 5, 6}) {
		t.Errorf("what was handed in became %v", room)
	}
}

// The rules, their order and their spare room are neither turned nor kept.
func TestP2002HandedIn(t *testing.T) {
	made := func() []api.Rule {
		l := []api.Rule{bare("a", 1, 0), whole("b", 1), whole("c", 5), bare("d", 0, 7), whole("e", 9)}
		for i := range l {
			l[i].Want.Links = append(make([]int, 0, 9), l[i].Want.Links...)
		}
		return l
	}
	for node, want := range map[int]int{0: 3, 1: 2, 2: -1} {
		l := made()
		finds(t, l[:4], node, flow, want)
		if !same(l, made()) {
			t.Errorf("First at %d turned what was handed in: %s", node, brief(l))
		}
		for i, r := range l {
			links := r.Want.Links
			if rest := links[len(links):cap(links)]; slices.ContainsFunc(rest, func(n int) bool { return n != 0 }) {
				t.Errorf("First at %d turned the spare room of rule %d: %v", node, i, rest)
			}
		}
	}
	l := made()
	got, ok := First(l[:4], 1, flow)
	for _, r := range l {
		spoil(r)
	}
	clear(l)
	if !ok || !sameRule(got, made()[2]) {
		t.Errorf("what was answered became %v, %v", got, ok)
	}
}

// The name of an answer stays as it is when the bytes that it was made of are
// turned.
func TestP2002HandedInName(t *testing.T) {
	b := []byte("gold")
	got, ok := First([]api.Rule{bare(unsafe.String(unsafe.SliceData(b), len(b)), 0, 0)}, 0, flow)
	clear(b)
	if !ok || got.Name != "gold" {
		t.Errorf("what was answered became %v, %v", got, ok)
	}
}

// The same arguments get the same answer, whatever was asked between.
func TestP2002SameAgain(t *testing.T) {
	l := []api.Rule{bare("a", 1, 0), whole("b", 1), whole("c", 1)}
	for _, between := range [][]api.Rule{nil, {{}}, {whole("b", 7)}, {bare("a", 1, 9)}, slices.Repeat(l, 300)} {
		for node := range 3 {
			First(between, node, flow)
			First(between, node, api.Tuple{})
			finds(t, l, 1, flow, 1)
			finds(t, l, 1, api.Tuple{}, 0)
			finds(t, l, 0, flow, -1)
		}
	}
}

func TestP2002AtOnce(t *testing.T) {
	l := []api.Rule{bare("a", 1, 0), whole("b", 1), whole("c", 5), bare("d", 0, 7)}
	var all sync.WaitGroup
	for range 8 {
		all.Go(func() {
			for range 200 {
				finds(t, l, 1, flow, 2)
				finds(t, l, 1, api.Tuple{}, 0)
				finds(t, l, 0, flow, 3)
				finds(t, l, 2, flow, -1)
			}
		})
	}
	all.Wait()
}
