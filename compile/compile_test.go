package compile

import (
	"math"
	"slices"
	"sync"
	"testing"

	"waymark/api"
	"waymark/expand"
	"waymark/graph"
	"waymark/opt"
	"waymark/tables"
)

// chance makes numbers, the same ones each time.
type chance uint32

func (c *chance) below(most int) int {
	*c = *c*1664525 + 1013904223
	return int(*c>>9) % most
}

func node(n int) api.Seg { return api.Seg{To: n} }

func edge(n int) api.Seg { return api.Seg{Edge: true, To: n} }

// frozen makes a graph's tables.
func frozen(g api.Graph) *tables.Tables {
	x, e := tables.New(g)
	if e != api.OK {
		panic("the graph of a test is wrong")
	}
	return x
}

// kite has three ways of length 2 from 0 to 3, a tail from there to 5, one of
// its links with a longer one beside it, a long way around the tail by 6, and
// node 7 alone.
//
//	  1
//	 / \
//	0---3---4===5   7
//	 \ / \     /
//	  2   --6--
func kite() api.Graph {
	return api.Graph{Nodes: 8, Links: []api.Link{
		{A: 0, B: 1, Metric: 1, Colour: 1},
		{A: 3, B: 1, Metric: 1, Colour: 2},
		{A: 0, B: 2, Metric: 1, Colour: 3},
		{A: 2, B: 3, Metric: 1, Colour: 62},
		{A: 0, B: 3, Metric: 2, Colour: 5},
		{A: 3, B: 4, Metric: 7, Colour: 6},
		{A: 4, B: 5, Metric: 4, Colour: 7},
		{A: 5, B: 4, Metric: 5, Colour: 8},
		{A: 3, B: 6, Metric: 8, Colour: 9},
		{A: 6, B: 5, Metric: 8, Colour: 9},
	}}
}

// lists looks for a list, with as many segments as it has and with more.
func lists(t *testing.T, name string, x *tables.Tables, w api.Want, down []bool, want ...api.Seg) {
	t.Helper()
	for depth := len(want); depth <= api.MaxDepth; depth++ {
		got, e := List(x, w, down, depth)
		if e != api.OK || !slices.Equal(got, want) {
			t.Errorf("%s: List of %v, %v down, at most %d: %v, %v, not %v", name, w, down, depth, got, e, want)
		}
	}
	if len(want) > 0 {
		refused(t, name, x, w, down, len(want)-1, api.ErrDeep)
	}
}

func refused(t *testing.T, name string, x *tables.Tables, w api.Want, down []bool, depth int, want api.Errno) {
	t.Helper()
	if got, e := List(x, w, down, depth); e != want || len(got) != 0 {
		t.Errorf("%s: List of %v, %v down, at most %d: %v, %v, not %v", name, w, down, depth, got, e, want)
	}
}

func TestP1701OfNothing(t *testing.T) {
	x := frozen(kite())
	for n := range 8 {
		lists(t, "a node to itself", x, api.Want{From: n, To: n}, nil)
		lists(t, "a node to itself, over itself", x, api.Want{From: n, To: n, Via: []int{n, n, n, n}, Bound: 1}, nil)
		lists(t, "a node to itself, all gone without", x, api.Want{From: n, To: n, Nodes: []int{n}}, slices.Repeat([]bool{true}, 10))
	}
	lists(t, "one node, no links", frozen(api.Graph{Nodes: 1}), api.Want{}, nil)
}

func TestP1701OneSegment(t *testing.T) {
	x := frozen(kite())
	lists(t, "beside it", x, api.Want{To: 1}, nil, node(1))
	lists(t, "three ways", x, api.Want{To: 3}, nil, node(3))
	lists(t, "three ways and a tail", x, api.Want{To: 5}, nil, node(5))
	lists(t, "back", x, api.Want{From: 5}, nil, node(0))
	lists(t, "a point on the way", x, api.Want{To: 5, Via: []int{3}}, nil, node(5))
	lists(t, "points on the way", x, api.Want{To: 5, Via: []int{0, 3, 4, 5}}, nil, node(5))
	lists(t, "what is not on the way", x, api.Want{To: 5, Nodes: []int{6, 7}, Colours: []int{8, 9}}, []bool{9: true}, node(5))
	lists(t, "within the Bound", x, api.Want{To: 5, Bound: 13}, nil, node(5))
	lists(t, "a longer link", x, api.Want{From: 4, To: 5, Links: []int{6}}, nil, edge(15))
	lists(t, "a longer link back", x, api.Want{From: 5, To: 4, Colours: []int{7}}, nil, edge(14))
	lists(t, "a link beside ways as short", x, api.Want{To: 3, Nodes: []int{1, 2}}, nil, edge(8))
}

func TestP1701MoreSegments(t *testing.T) {
	x := frozen(kite())
	lists(t, "by a point beside others", x, api.Want{To: 3, Via: []int{2}}, nil, node(2), node(3))
	lists(t, "not by one", x, api.Want{To: 5, Nodes: []int{1}, Links: []int{4}}, nil, node(2), node(5))
	lists(t, "there and back", x, api.Want{Via: []int{5}}, nil, node(5), node(0))
	lists(t, "in another order", x, api.Want{To: 5, Via: []int{4, 3}}, nil, node(4), node(3), node(5))
	lists(t, "to and fro", x, api.Want{From: 1, To: 1, Via: []int{0, 1, 0}}, nil, node(0), node(1), node(0), node(1))
	lists(t, "by a link of three ways and a longer one", x, api.Want{To: 5, Nodes: []int{1, 2}, Links: []int{6}}, nil, edge(8), node(4), edge(15))
	lists(t, "the long way around", x, api.Want{To: 5, Nodes: []int{4}}, nil, node(6), node(5))
}

// Segments go by the frozen tables, so what is down must be gone around by name.
func TestP1701Down(t *testing.T) {
	x := frozen(kite())
	w := api.Want{To: 5}
	lists(t, "up", x, w, []bool{10: true, 400: true}, node(5))
	lists(t, "a way of three", x, w, []bool{true}, node(2), node(5))
	lists(t, "another one", x, w, []bool{false, false, true}, node(1), node(5))
	lists(t, "two of three", x, w, []bool{true, false, true}, edge(8), node(5))
	lists(t, "on the tail", x, w, []bool{6: true}, node(4), edge(15))
	lists(t, "beside the tail", x, w, []bool{7: true}, node(5))
	lists(t, "the tail", x, w, []bool{5: true}, node(6), node(5))
	lists(t, "the tail's end", x, api.Want{To: 4}, []bool{5: true}, node(6), node(4))
	lists(t, "a way of three, to and fro", x, api.Want{Via: []int{3}}, []bool{true}, edge(8), edge(9))
	down := []bool{true, false, true, false, false, false, true, false, false, false}
	lists(t, "more than one", x, w, down, edge(8), node(4), edge(15))
	down[9] = true
	lists(t, "one more", x, w, down, edge(8), node(4), edge(15))
	down[7] = true
	refused(t, "all of them", x, w, down, 10, api.ErrNoWay)
}

// bridge leads from 0 to 3 over 1 or 2, on ways as short, though the links are
// not: it is told which of them has a shorter one beside it, of metric 1, that
// is gone without.
//
//	  1
//	 / \
//	0   3
//	 \ /
//	  2
func bridge(shorter ...[2]int) (*tables.Tables, api.Want) {
	g := api.Graph{Nodes: 4}
	for _, l := range [][2]int{{0, 1}, {1, 3}, {0, 2}, {2, 3}} {
		g.Links = append(g.Links, api.Link{A: l[0], B: l[1], Metric: 5})
	}
	for _, l := range shorter {
		g.Links = append(g.Links, api.Link{A: l[0], B: l[1], Metric: 1, Colour: 1})
	}
	return frozen(g), api.Want{To: 3, Colours: []int{1}}
}

func TestP1701First(t *testing.T) {
	x, w := bridge([2]int{0, 3})
	lists(t, "a lesser node, nodes ahead of edges", x, w, nil, node(1), node(3))
	x, w = bridge([2]int{0, 1}, [2]int{0, 2})
	lists(t, "a lesser edge", x, w, nil, edge(0), node(3))
	x, w = bridge([2]int{1, 3}, [2]int{2, 3})
	lists(t, "a lesser node, then an edge", x, w, nil, node(1), edge(2))
	x, w = bridge([2]int{0, 1}, [2]int{2, 3})
	lists(t, "a node and an edge ahead of an edge and a node", x, w, nil, node(2), edge(6))
	x, w = bridge([2]int{0, 2}, [2]int{1, 3})
	lists(t, "the lesser edge behind the lesser node", x, w, nil, node(1), edge(2))
	x, w = bridge([2]int{0, 1}, [2]int{0, 3})
	lists(t, "a node beside one behind a lesser edge", x, w, nil, node(2), node(3))
	x, w = bridge([2]int{0, 1}, [2]int{0, 2}, [2]int{1, 3}, [2]int{2, 3})
	lists(t, "edges alone", x, w, nil, edge(0), edge(2))
	x, w = bridge()
	w.Via = []int{3, 0}
	lists(t, "fewer ahead of lesser", x, w, nil, node(3), node(0), node(3))
	// A number says nothing of how far: the node that is come to last may be
	// the least one.
	g := api.Graph{Nodes: 4, Links: []api.Link{{A: 3, B: 2, Metric: 1}, {A: 2, B: 1, Metric: 1}, {A: 1, B: 0, Metric: 1}, {A: 3, B: 0, Metric: 2}}}
	lists(t, "the farthest first", frozen(g), api.Want{From: 3, To: 0, Links: []int{3}}, nil, node(1), node(0))
	g.Links[3].Metric = 3
	lists(t, "the farthest as far as it may be", frozen(g), api.Want{From: 3, To: 0, Links: []int{3}}, nil, node(1), node(0))
	g.Links = append(g.Links, api.Link{A: 2, B: 3, Metric: 1})
	lists(t, "the first of two edges", frozen(g), api.Want{From: 3, To: 2, Links: []int{4}}, nil, edge(0))
	lists(t, "the second of two edges", frozen(g), api.Want{From: 3, To: 2}, []bool{true}, edge(9))
}

// ladder is a row of nodes, each joined to the next one by a link, and by a
// shorter one of another colour: without that colour each step must be said.
func ladder(nodes int) (*tables.Tables, api.Want) {
	g := api.Graph{Nodes: nodes}
	for i := range nodes - 1 {
		g.Links = append(g.Links, api.Link{A: i, B: i + 1, Metric: 5}, api.Link{A: i, B: i + 1, Metric: 1, Colour: 9})
	}
	return frozen(g), api.Want{To: nodes - 1, Colours: []int{9}}
}

func TestP1701Depth(t *testing.T) {
	for steps := range 14 {
		x, w := ladder(steps + 1)
		var all []api.Seg
		for i := range steps {
			all = append(all, edge(4*i))
		}
		for _, depth := range []int{math.MinInt, math.MinInt32, -1, 0, 1, 2, 5, 9, 10, 11, 12, 255, 1 << 32, math.MaxInt - 1, math.MaxInt} {
			if min(max(depth, 0), 10) < steps {
				refused(t, "a ladder", x, w, nil, depth, api.ErrDeep)
				continue
			}
			if got, e := List(x, w, nil, depth); e != api.OK || !slices.Equal(got, all) {
				t.Errorf("a ladder of %d, at most %d: %v, %v", steps, depth, got, e)
			}
		}
	}
}

// depths are such that no list, however short, nor any error but one ahead of
// ErrDeep hangs on them.
func depths() []int {
	return []int{math.MinInt, -1, 0, 1, 5, 10, math.MaxInt}
}

func TestP1701NilTables(t *testing.T) {
	for _, w := range []api.Want{{}, {To: 9}, {From: -1}, {Bound: -1}, {Links: []int{3}}, {Via: make([]int, 5)}} {
		for _, depth := range depths() {
			refused(t, "a nil one", nil, w, nil, depth, api.ErrArg)
			refused(t, "the zero one", &tables.Tables{}, w, []bool{true}, depth, api.ErrArg)
		}
	}
}

// What is wrong with a want is told as opt.Cost tells it, ahead of what is told
// of the depth.
func TestP1701CostsError(t *testing.T) {
	x := frozen(kite())
	for e, l := range map[api.Errno][]api.Want{
		api.ErrNode:  {{From: 8}, {To: -1}, {To: 8, Links: []int{10}}, {Via: []int{8}}, {Nodes: []int{-1}, Bound: -1}, {From: math.MaxInt, To: math.MinInt}, {From: -1, To: -1}, {Via: []int{0, 0, 0, 0, 8}}},
		api.ErrLink:  {{Links: []int{10}}, {To: 5, Links: []int{0, -1}}, {Links: []int{10}, Colours: []int{63}, Bound: -1}, {Links: []int{math.MaxInt}, Via: make([]int, 5)}},
		api.ErrArg:   {{Colours: []int{63}}, {To: 7, Colours: []int{-1}}, {Bound: -1}, {To: 5, Bound: math.MinInt, Via: make([]int, 5)}},
		api.ErrLong:  {{Via: make([]int, 5)}, {To: 7, Via: make([]int, 5)}, {To: 5, Bound: 1, Via: make([]int, 10000)}},
		api.ErrNoWay: {{To: 7}, {From: 7, Via: []int{7}}, {To: 7, Via: []int{3}}, {Via: []int{7}}, {To: 5, Bound: 12}, {Via: []int{5}, Bound: 25}, {To: 5, Nodes: []int{4, 6}}, {To: 1, Nodes: []int{1}}, {To: 5, Links: []int{5, 8}}},
	} {
		for _, w := range l {
			for _, depth := range depths() {
				refused(t, "a wrong want", x, w, nil, depth, e)
			}
		}
	}
	for _, depth := range depths() {
		refused(t, "down", x, api.Want{To: 5}, []bool{5: true, 8: true}, depth, api.ErrNoWay)
	}
}

// The rest holds List against the document's words, told another way.

func (c *chance) graph(nodes, links, metric int) api.Graph {
	g := api.Graph{Nodes: 2 + c.below(nodes-1)}
	for range c.below(links + 1) {
		a := c.below(g.Nodes)
		b := (a + 1 + c.below(g.Nodes-1)) % g.Nodes
		g.Links = append(g.Links, api.Link{A: a, B: b, Metric: 1 + c.below(metric), Colour: c.below(6)})
	}
	return g
}

func (c *chance) want(g api.Graph, points int) api.Want {
	w := api.Want{From: c.below(g.Nodes), To: c.below(g.Nodes)}
	for range c.below(points + 1) {
		w.Via = append(w.Via, c.below(g.Nodes))
	}
	switch c.below(5) {
	case 0:
		w.Nodes = []int{c.below(g.Nodes)}
	case 1, 2:
		w.Colours = []int{c.below(6)}
	case 3:
		if len(g.Links) > 0 {
			w.Links = []int{c.below(len(g.Links))}
		}
	}
	return w
}

func (c *chance) down(links int) []bool {
	l := make([]bool, c.below(links+3))
	for i := range l {
		l[i] = c.below(6) == 0
	}
	return l
}

// segments are all that a graph has, in their order.
func segments(g api.Graph) []api.Seg {
	var l []api.Seg
	for n := range g.Nodes {
		l = append(l, node(n))
	}
	for n := range 2 * len(g.Links) {
		l = append(l, edge(n))
	}
	return l
}

// tryAll tries all lists of n segments behind l, in their order, each whole.
func tryAll(x *tables.Tables, w api.Want, down []bool, all, l []api.Seg, n int) ([]api.Seg, bool) {
	if n == 0 {
		return l, expand.List(x, w, down, l)
	}
	for _, s := range all {
		if found, ok := tryAll(x, w, down, all, append(slices.Clone(l), s), n-1); ok {
			return found, true
		}
	}
	return nil, false
}

// Of all lists, each looked at whole, the first one of the fewest segments is
// told.
func TestP1701AllLists(t *testing.T) {
	c := chance(1701)
	const most = 3
	told := [most + 2]int{}
	for range 250 {
		g := c.graph(4, 5, 3)
		x := frozen(g)
		w, down := c.want(g, 2), c.down(len(g.Links))
		if _, e := opt.Cost(g, w, down); e != api.OK {
			refused(t, "some graph", x, w, down, c.below(5), e)
			continue
		}
		n, found, ok := 0, []api.Seg(nil), false
		for ; n <= most; n++ {
			if found, ok = tryAll(x, w, down, segments(g), nil, n); ok {
				lists(t, "some graph", x, w, down, found...)
				break
			}
			refused(t, "some graph", x, w, down, n, api.ErrDeep)
		}
		told[n]++
	}
	for n, times := range told {
		if times == 0 {
			t.Errorf("none of %d segments was told", n)
		}
	}
}

// fewest tells how many segments lead from each state to the goal, or else a
// number above all: it goes back from the goal.
func fewest(x *tables.Tables, g api.Graph, w api.Want, down []bool) map[[2]int]int {
	guide, _ := expand.Find(x, w, down)
	behind := map[[2]int][][2]int{}
	for at := range g.Nodes {
		for number := range len(w.Via) + 2 {
			from := [2]int{at, number}
			for _, s := range segments(g) {
				if to, ok := guide.Seg(from, s); ok {
					behind[to] = append(behind[to], from)
				}
			}
		}
	}
	left := map[[2]int]int{opt.Goal(w): 0}
	next := [][2]int{opt.Goal(w)}
	for len(next) > 0 {
		to := next[0]
		next = next[1:]
		for _, from := range behind[to] {
			if _, ok := left[from]; !ok {
				left[from] = left[to] + 1
				next = append(next, from)
			}
		}
	}
	return left
}

// firstOf follows from the start on, again and again, the first segment behind
// which there is one segment less to go.
func firstOf(x *tables.Tables, g api.Graph, w api.Want, down []bool) ([]api.Seg, bool) {
	left := fewest(x, g, w, down)
	guide, _ := expand.Find(x, w, down)
	at := opt.Start(w)
	n, ok := left[at]
	l := []api.Seg{}
	for ok && n > 0 {
		for _, s := range segments(g) {
			to, leads := guide.Seg(at, s)
			if rest, ends := left[to]; leads && ends && rest == n-1 {
				l, at, n = append(l, s), to, rest
				break
			}
		}
	}
	return l, ok
}

// Long lists are told as they are by definition, from the goal back.
func TestP1701LongLists(t *testing.T) {
	c := chance(71)
	told := map[int]int{}
	for range 600 {
		g := c.graph(14, 40, 4)
		x := frozen(g)
		w, down := c.want(g, 4), c.down(len(g.Links))
		if _, e := opt.Cost(g, w, down); e != api.OK {
			refused(t, "some graph", x, w, down, c.below(12), e)
			continue
		}
		found, ok := firstOf(x, g, w, down)
		if !ok || len(found) > api.MaxDepth {
			refused(t, "some graph", x, w, down, 10, api.ErrDeep)
			continue
		}
		lists(t, "some graph", x, w, down, found...)
		if !expand.List(x, w, down, found) {
			t.Errorf("%v of %v in %v is no list", found, w, g)
		}
		told[len(found)]++
	}
	for n := range 9 {
		if told[n] == 0 {
			t.Errorf("none of %d segments was told: %v", n, told)
		}
	}
}

// A list leads on none but best walks: whichever way its segments go, the walk
// is Opt.
func TestP1701Walks(t *testing.T) {
	c := chance(21)
	walked := 0
	for range 400 {
		g := c.graph(12, 24, 3)
		x := frozen(g)
		w, down := c.want(g, 4), c.down(len(g.Links))
		l, e := List(x, w, down, 10)
		if e != api.OK {
			continue
		}
		for range 5 {
			walked++
			if walk := c.walk(x, g, w.From, l); !opt.Has(g, w, down, walk) {
				t.Errorf("%v of %v in %v, %v down: %v", l, w, g, down, walk)
			}
		}
	}
	if walked < 300 {
		t.Errorf("%d were walked", walked)
	}
}

// walk goes by a list from the node on, where there are more ways by any.
func (c *chance) walk(x *tables.Tables, g api.Graph, at int, l []api.Seg) []int {
	var edges []int
	for _, s := range l {
		for first := true; s.Edge && first || !s.Edge && at != s.To; first = false {
			hop := s.To
			if !s.Edge {
				next := x.Next(at, s.To)
				hop = next[c.below(len(next))]
			}
			edges = append(edges, hop)
			_, at, _ = graph.Ends(g, hop)
		}
	}
	return edges
}

// The greatest graphs there may be are soon done, be there a list or none.
func TestP1701Most(t *testing.T) {
	row := api.Graph{Nodes: api.MaxNodes}
	for i := range api.MaxNodes - 1 {
		row.Links = append(row.Links, slices.Repeat([]api.Link{{A: i, B: i + 1, Metric: api.MaxMetric}}, 3)...)
	}
	x, w := frozen(row), api.Want{To: 39, Via: []int{39, 0, 39, 0}}
	lists(t, "a row", x, w, nil, node(39), node(0), node(39), node(0), node(39))
	refused(t, "a row, one down", x, w, []bool{60: true}, 10, api.ErrDeep)
	refused(t, "a row, each link twice", x, w, slices.Repeat([]bool{true, false, false}, 39), 10, api.ErrDeep)
	w.Via = w.Via[:2]
	lists(t, "a row, one down", x, w, []bool{60: true}, node(20), edge(122), node(39), node(21), edge(123), node(0), node(20), edge(122), node(39))
	lists(t, "a row, back", x, api.Want{From: 39, Via: []int{30, 20}, Bound: 39 * api.MaxMetric}, nil, node(0))
	mesh := api.Graph{Nodes: api.MaxNodes}
	for i := range 32 {
		for _, to := range []int{i, i + 1, i + 3} {
			mesh.Links = append(mesh.Links, api.Link{A: i, B: i/8*8 + 8 + to%8, Metric: 1, Colour: 1 + i/8})
		}
	}
	w = api.Want{From: 2, To: 38, Via: []int{38, 2, 38, 2}}
	lists(t, "ranks", frozen(mesh), w, nil, node(38), node(2), node(38), node(2), node(38))
}

// What is handed in stays as it is, the spare room behind it too, and so do the
// tables.
func TestP1702Kept(t *testing.T) {
	g := kite()
	x := frozen(g)
	down := []bool{false, true, false, false, false, false, false, false, true, false, true}
	room := [4][]int{{1, 3, 4, 3, 9, 9}, {6, 6, 2, 1, 8, 8}, {0, 7, 3, 1, 7, 7}, {3, 62, 0, 9, 6, 6}}
	wasDown := slices.Clone(down)
	var was [4][]int
	for i, l := range room {
		was[i] = slices.Clone(l)
	}
	for k := range 5 {
		w := api.Want{To: 5, Via: room[0][:k], Nodes: room[1][:k], Links: room[2][:min(k, 1)], Colours: room[3][:k/2]}
		for d := range 9 {
			List(x, w, down[:d], 10)
			List(x, w, down[:d], k)
		}
	}
	if !slices.Equal(down, wasDown) {
		t.Errorf("down %v, not %v", down, wasDown)
	}
	for i, l := range room {
		if !slices.Equal(l, was[i]) {
			t.Errorf("list %d: %v, not %v", i, l, was[i])
		}
	}
	y := frozen(g)
	for from := range g.Nodes {
		for to := range g.Nodes {
			if !slices.Equal(x.Next(from, to), y.Next(from, to)) || x.Dist(from, to) != y.Dist(from, to) {
				t.Errorf("the tables from %d to %d: %v, %d", from, to, x.Next(from, to), x.Dist(from, to))
			}
		}
	}
	if h := x.Graph(); h.Nodes != g.Nodes || !slices.Equal(h.Links, g.Links) {
		t.Errorf("the graph: %v", h)
	}
}

// What is answered is new memory: writing over it, and its spare room, tells
// nowhere.
func TestP1702NewMemory(t *testing.T) {
	x, w := frozen(kite()), api.Want{To: 5, Via: []int{4, 3}}
	first, _ := List(x, w, nil, 10)
	second, _ := List(x, w, nil, 10)
	for range 3 {
		for i := range first[:cap(first)] {
			first[:cap(first)][i] = edge(-9)
		}
		if want := []api.Seg{node(4), node(3), node(5)}; !slices.Equal(second, want) {
			t.Errorf("the second one turned into %v", second)
		}
		lists(t, "a later one", x, w, nil, node(4), node(3), node(5))
		first, _ = List(x, w, nil, 10)
	}
}

// Nothing is kept from call to call: what was asked ahead does not tell.
func TestP1702NothingKept(t *testing.T) {
	x, down := frozen(kite()), make([]bool, 10)
	other, steps := ladder(4)
	w := api.Want{To: 5, Via: []int{3}}
	for range 3 {
		lists(t, "as it was", x, w, down, node(5))
		down[6], w.Via[0] = true, 1
		lists(t, "turned", x, w, down, node(1), node(4), edge(15))
		lists(t, "other tables", other, steps, down, edge(0), edge(4), edge(8))
		refused(t, "none", nil, w, down, 10, api.ErrArg)
		down[6], w.Via[0] = false, 3
	}
}

// Answers are the same, whoever else asks the same tables.
func TestP1702ManyAsk(t *testing.T) {
	x := frozen(kite())
	var all sync.WaitGroup
	for range 8 {
		all.Go(func() {
			for range 20 {
				lists(t, "asked at once", x, api.Want{Via: []int{5}}, nil, node(5), node(0))
				lists(t, "asked at once", x, api.Want{To: 5}, []bool{6: true}, node(4), edge(15))
			}
		})
	}
	all.Wait()
}
