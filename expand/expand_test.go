package expand

import (
	"math"
	"slices"
	"sync"
	"testing"

	"waymark/api"
	"waymark/opt"
	"waymark/tables"
)

// chance makes numbers, the same ones each time.
type chance uint32

func (c *chance) below(most int) int {
	*c = *c*1664525 + 1013904223
	return int(*c>>9) % most
}

// extremes are numbers that no graph has as a node, an edge or a number of
// points.
func extremes() []int {
	return []int{math.MinInt, math.MinInt + 1, math.MinInt32, -1 << 32, -2, -1, 1 << 32, 1<<32 + 1, math.MaxInt32, math.MaxInt - 1, math.MaxInt}
}

func node(n int) api.Seg { return api.Seg{To: n} }

func edge(n int) api.Seg { return api.Seg{Edge: true, To: n} }

// kite has three ways of length 2 from 0 to 3, a tail from there to 5, one of
// its links with a longer one beside it, a long way around the tail by 6, and
// node 7 alone.
//
//	  1
//	 / \
//	0---3---4===5   7
//	 \ / \     /
//	  2   --6--
func kite() api.Graph {
	return api.Graph{Nodes: 8, Links: []api.Link{
		{A: 0, B: 1, Metric: 1, Colour: 1},
		{A: 3, B: 1, Metric: 1, Colour: 2},
		{A: 0, B: 2, Metric: 1, Colour: 3},
		{A: 2, B: 3, Metric: 1, Colour: 62},
		{A: 0, B: 3, Metric: 2, Colour: 5},
		{A: 3, B: 4, Metric: 7, Colour: 6},
		{A: 4, B: 5, Metric: 4, Colour: 7},
		{A: 5, B: 4, Metric: 5, Colour: 8},
		{A: 3, B: 6, Metric: 8, Colour: 9},
		{A: 6, B: 5, Metric: 8, Colour: 9},
	}}
}

// frozen makes a graph's tables.
func frozen(g api.Graph) *tables.Tables {
	x, e := tables.New(g)
	if e != api.OK {
		panic("the graph of a test is wrong")
	}
	return x
}

func leads(t *testing.T, name string, x *tables.Tables, w api.Want, down []bool, at [2]int, s api.Seg, to [2]int) {
	t.Helper()
	if got, ok := Seg(x, w, down, at, s); got != to || !ok {
		t.Errorf("%s: Seg of %v, %v down, from %v by %v: %v, %v, not %v", name, w, down, at, s, got, ok, to)
	}
}

func fails(t *testing.T, name string, x *tables.Tables, w api.Want, down []bool, at [2]int, s api.Seg) {
	t.Helper()
	if got, ok := Seg(x, w, down, at, s); got != [2]int{} || ok {
		t.Errorf("%s: Seg of %v, %v down, from %v by %v: %v, %v, not none", name, w, down, at, s, got, ok)
	}
}

func lists(t *testing.T, name string, x *tables.Tables, w api.Want, down []bool, want bool, l ...api.Seg) {
	t.Helper()
	if got := List(x, w, down, l); got != want {
		t.Errorf("%s: List of %v, %v down, %v: %v", name, w, down, l, got)
	}
}

func TestP1601SegOverAnEdge(t *testing.T) {
	x, w := frozen(kite()), api.Want{To: 5}
	leads(t, "on", x, w, nil, [2]int{0, 0}, edge(0), [2]int{1, 0})
	leads(t, "on", x, w, nil, [2]int{0, 0}, edge(8), [2]int{3, 0})
	leads(t, "to the goal", x, w, nil, [2]int{4, 0}, edge(12), [2]int{5, 1})
	leads(t, "to a point", x, api.Want{To: 5, Via: []int{3}}, nil, [2]int{1, 0}, edge(3), [2]int{3, 1})
	leads(t, "to a point twice", x, api.Want{To: 5, Via: []int{3, 3}}, nil, [2]int{1, 0}, edge(3), [2]int{3, 2})
	leads(t, "one that no way of the tables has", x, w, []bool{6: true}, [2]int{4, 0}, edge(15), [2]int{5, 1})
	fails(t, "that one, where another is up", x, w, nil, [2]int{4, 0}, edge(15))
	fails(t, "one that is down", x, w, []bool{6: true}, [2]int{4, 0}, edge(12))
	fails(t, "one that is gone without", x, api.Want{To: 5, Colours: []int{7}}, nil, [2]int{4, 0}, edge(12))
	fails(t, "back", x, w, nil, [2]int{1, 0}, edge(1))
	fails(t, "one of another node", x, w, nil, [2]int{1, 0}, edge(4))
	for n := range 20 {
		fails(t, "beyond the goal", x, w, nil, [2]int{5, 1}, edge(n))
	}
}

// The same number is an edge's or a node's by what Edge says.
func TestP1601SegKinds(t *testing.T) {
	x := frozen(kite())
	w := api.Want{To: 4}
	leads(t, "edge 4", x, w, nil, [2]int{0, 0}, edge(4), [2]int{2, 0})
	leads(t, "node 4", x, w, nil, [2]int{0, 0}, node(4), [2]int{4, 1})
	leads(t, "node 3", x, w, nil, [2]int{0, 0}, node(3), [2]int{3, 0})
	fails(t, "edge 3", x, w, nil, [2]int{0, 0}, edge(3))
}

func TestP1601SegToANode(t *testing.T) {
	x, w := frozen(kite()), api.Want{To: 5}
	leads(t, "one edge", x, w, nil, [2]int{0, 0}, node(1), [2]int{1, 0})
	leads(t, "three ways", x, w, nil, [2]int{0, 0}, node(3), [2]int{3, 0})
	leads(t, "three ways and a link", x, w, nil, [2]int{0, 0}, node(4), [2]int{4, 0})
	leads(t, "to the goal", x, w, nil, [2]int{0, 0}, node(5), [2]int{5, 1})
	leads(t, "from within", x, w, nil, [2]int{3, 0}, node(5), [2]int{5, 1})
	leads(t, "there and back", x, api.Want{To: 0, Via: []int{5}}, nil, [2]int{5, 1}, node(0), [2]int{0, 2})
	fails(t, "back", x, w, nil, [2]int{3, 0}, node(0))
	fails(t, "where no best walk goes", x, w, nil, [2]int{0, 0}, node(6))
	fails(t, "beyond the goal", x, api.Want{To: 3}, nil, [2]int{0, 0}, node(4))
	fails(t, "from the goal on", x, api.Want{To: 3}, nil, [2]int{3, 1}, node(4))
	fails(t, "from the goal back", x, api.Want{To: 3}, nil, [2]int{3, 1}, node(0))
	for n := range 8 {
		fails(t, "to the node itself", x, w, nil, [2]int{n, 0}, node(n))
		fails(t, "to the node itself", x, w, nil, [2]int{n, 1}, node(n))
		fails(t, "to the node itself", x, api.Want{From: n, To: n}, nil, opt.Start(api.Want{From: n, To: n}), node(n))
		fails(t, "to a node that no way leads to", x, w, nil, [2]int{n, 0}, node(7))
		fails(t, "from a node that no way leads from", x, w, nil, [2]int{7, 0}, node(n))
	}
}

// Each of the ways has to go on as the best walks do: one that does not is
// enough.
func TestP1601SegEachWay(t *testing.T) {
	x := frozen(kite())
	for _, y := range []struct {
		w    api.Want
		down []bool
	}{
		{api.Want{To: 3, Links: []int{3}}, nil},
		{api.Want{To: 3, Nodes: []int{1}}, nil},
		{api.Want{To: 3, Colours: []int{5}}, nil},
		{api.Want{To: 3}, []bool{true}},
		{api.Want{To: 3}, []bool{false, true}},
		{api.Want{To: 3}, []bool{4: true}},
		{api.Want{To: 3, Nodes: []int{1, 2}}, nil},
		{api.Want{To: 3, Via: []int{1}}, nil},
		{api.Want{To: 3, Via: []int{2}}, nil},
		{api.Want{To: 5, Via: []int{1, 2}}, nil},
	} {
		fails(t, "one of three", x, y.w, y.down, [2]int{0, 0}, node(3))
	}
	leads(t, "what is taken elsewhere", x, api.Want{To: 3, Nodes: []int{4, 7}}, []bool{9: true}, [2]int{0, 0}, node(3), [2]int{3, 1})
	leads(t, "down behind the links", x, api.Want{To: 3}, []bool{12: true, 400: true}, [2]int{0, 0}, node(3), [2]int{3, 1})
	// A longer link beside one is no way of it, be it up or down.
	leads(t, "the longer one down", x, api.Want{To: 5}, []bool{7: true}, [2]int{0, 0}, node(5), [2]int{5, 1})
	twins := kite()
	twins.Links[7].Metric = 4
	leads(t, "two as short", frozen(twins), api.Want{To: 5}, nil, [2]int{0, 0}, node(5), [2]int{5, 1})
	fails(t, "two as short, one down", frozen(twins), api.Want{To: 5}, []bool{7: true}, [2]int{0, 0}, node(5))
	fails(t, "two as short, the other down", frozen(twins), api.Want{To: 5}, []bool{6: true}, [2]int{0, 0}, node(5))
}

// The tables are frozen: a segment's ways are not those without the links that
// are down, even if these are the only best ones.
func TestP1601SegFrozen(t *testing.T) {
	x := frozen(kite())
	w, down := api.Want{To: 5}, []bool{6: true}
	fails(t, "to 5", x, w, down, [2]int{4, 0}, node(5))
	fails(t, "to 5", x, w, down, [2]int{0, 0}, node(5))
	leads(t, "up to where it was", x, w, down, [2]int{0, 0}, node(4), [2]int{4, 0})
	lists(t, "over what is up", x, w, down, true, node(4), edge(15))
	lists(t, "over what is down", x, w, down, false, node(4), edge(12))
	down[5] = true
	lists(t, "the long way around", x, w, down, true, node(6), node(5))
	lists(t, "the long way at once", x, w, down, false, node(5))
	lists(t, "the long way, edge by edge", x, w, down, true, edge(8), edge(16), edge(18))
}

// On its ways a segment may come to points, more than one at once, too.
func TestP1601SegPassesPoints(t *testing.T) {
	x := frozen(kite())
	start := [2]int{0, 0}
	leads(t, "one", x, api.Want{To: 5, Via: []int{3}}, nil, start, node(4), [2]int{4, 1})
	leads(t, "two", x, api.Want{To: 5, Via: []int{3, 4}}, nil, start, node(5), [2]int{5, 3})
	leads(t, "two, of which one is the end", x, api.Want{To: 5, Via: []int{3, 4, 3}}, nil, start, node(4), [2]int{4, 2})
	leads(t, "one twice", x, api.Want{To: 5, Via: []int{3, 3, 4, 4}}, nil, start, node(5), [2]int{5, 5})
	leads(t, "the end as often as may be", x, api.Want{To: 5, Via: []int{5, 5, 5, 5}}, nil, start, node(5), [2]int{5, 5})
	leads(t, "the end, not To yet", x, api.Want{To: 0, Via: []int{5}}, nil, start, node(5), [2]int{5, 1})
	fails(t, "past where it turns", x, api.Want{To: 0, Via: []int{4}}, nil, start, node(5))
	fails(t, "the same points in another order", x, api.Want{To: 5, Via: []int{4, 3}}, nil, start, node(5))
	leads(t, "from a state with another number", x, api.Want{To: 5, Via: []int{3, 4}}, nil, [2]int{3, 1}, node(5), [2]int{5, 3})
	leads(t, "the same node, another number", x, api.Want{To: 0, Via: []int{5, 3}}, nil, [2]int{3, 2}, node(0), [2]int{0, 3})
	fails(t, "the same node, another number", x, api.Want{To: 0, Via: []int{5, 3}}, nil, [2]int{3, 0}, node(0))
	leads(t, "the same node, another number", x, api.Want{To: 0, Via: []int{5, 3}}, nil, [2]int{3, 0}, node(5), [2]int{5, 1})
	fails(t, "from the next point itself", x, api.Want{To: 5, Via: []int{3}}, nil, [2]int{3, 0}, node(4))
}

func TestP1601SegNoSuch(t *testing.T) {
	x := frozen(kite())
	for _, w := range []api.Want{{To: 5}, {To: 5, Via: []int{3, 1}}, {}, {From: 7, To: 7}} {
		for _, n := range append(extremes(), 8, 20, 40, 240) {
			for number := range 4 {
				fails(t, "no such node", x, w, nil, [2]int{0, number}, node(n))
				fails(t, "no such node", x, w, nil, [2]int{n, number}, node(n))
				fails(t, "from no such node", x, w, nil, [2]int{n, number}, node(5))
				fails(t, "from no such node", x, w, nil, [2]int{n, number}, edge(0))
			}
			if n < 0 || n >= 20 {
				fails(t, "no such edge", x, w, nil, [2]int{0, 0}, edge(n))
			}
		}
		for _, n := range append(extremes(), 3, 4, 5, 6, 40) {
			for s := range 8 {
				fails(t, "no such number", x, w, nil, [2]int{0, n}, node(s))
				fails(t, "no such number", x, w, nil, [2]int{3, n}, node(s))
				fails(t, "no such number", x, w, nil, [2]int{0, n}, edge(s))
			}
		}
	}
}

// refused looks whether nothing leads anywhere.
func refused(t *testing.T, name string, x *tables.Tables, w api.Want, down []bool) {
	t.Helper()
	for at := range 8 {
		for number := range 4 {
			for to := range 20 {
				fails(t, name, x, w, down, [2]int{at, number}, node(to))
				fails(t, name, x, w, down, [2]int{at, number}, edge(to))
			}
		}
	}
	lists(t, name, x, w, down, false)
	for to := range 20 {
		lists(t, name, x, w, down, false, node(to))
		lists(t, name, x, w, down, false, edge(to))
	}
}

// Where opt.Cost tells an error there is no best walk for a segment to lead on.
func TestP1601NoBestWalk(t *testing.T) {
	x := frozen(kite())
	for name, w := range map[string]api.Want{
		"no way":                       {To: 7},
		"no way behind a point":        {To: 7, Via: []int{3}},
		"no way ahead of a point":      {From: 7, Via: []int{3}, To: 5},
		"none within the Bound":        {To: 5, Bound: 12},
		"what is gone without":         {To: 5, Nodes: []int{4, 6}},
		"To is no node":                {To: 8},
		"From and To are no node":      {From: 8, To: 8},
		"From and To are below 0":      {From: -1, To: -1},
		"a Via is no node":             {Via: []int{8}},
		"one of Nodes is none":         {Nodes: []int{-1}},
		"one of Links is none":         {Links: []int{10}},
		"one of Colours is none":       {Colours: []int{63}},
		"a Bound below 0":              {Bound: -1},
		"too many points":              {Via: []int{0, 0, 0, 0, 0}},
		"far too many points":          {Via: make([]int, 100000)},
		"the greatest numbers":         {From: math.MaxInt, To: math.MinInt},
		"the greatest numbers as both": {From: math.MaxInt, To: math.MaxInt},
	} {
		refused(t, name, x, w, nil)
	}
	refused(t, "down", x, api.Want{To: 5}, []bool{8: true, 5: true})
	lists(t, "within the Bound", x, api.Want{To: 5, Bound: 13}, nil, true, node(5))
}

func TestP1601ListOfNothing(t *testing.T) {
	x := frozen(kite())
	for n := range 8 {
		lists(t, "a node to itself", x, api.Want{From: n, To: n}, nil, true)
		lists(t, "a node to itself, an empty list", x, api.Want{From: n, To: n, Bound: 1}, nil, true, []api.Seg{}...)
		lists(t, "a node to itself, over itself", x, api.Want{From: n, To: n, Via: []int{n, n, n, n}}, nil, true)
		lists(t, "a node to itself, gone without", x, api.Want{From: n, To: n, Nodes: []int{n}}, slices.Repeat([]bool{true}, 10), true)
		lists(t, "a node to itself, and a segment to it", x, api.Want{From: n, To: n}, nil, false, node(n))
		for to := range 8 {
			if to != n {
				lists(t, "a node to another one", x, api.Want{From: n, To: to}, nil, false)
				lists(t, "over another one", x, api.Want{From: n, To: n, Via: []int{to}}, nil, false)
			}
		}
	}
	lists(t, "one node, no links", frozen(api.Graph{Nodes: 1}), api.Want{}, nil, true)
}

func TestP1601List(t *testing.T) {
	x, w := frozen(kite()), api.Want{To: 5}
	for _, l := range [][]api.Seg{
		{node(5)},
		{node(3), node(5)},
		{node(1), node(5)},
		{edge(0), node(4), edge(12)},
		{node(2), node(3), node(4), node(5)},
		{edge(8), edge(10), edge(12)},
	} {
		lists(t, "to the goal", x, w, nil, true, l...)
		for n := range l {
			lists(t, "the beginning of one", x, w, nil, false, l[:n]...)
			lists(t, "one with a segment twice", x, w, nil, false, slices.Insert(slices.Clone(l), n, l[n])...)
		}
		lists(t, "one with a node behind it", x, w, nil, false, append(slices.Clone(l), node(4))...)
		lists(t, "one with an edge behind it", x, w, nil, false, append(slices.Clone(l), edge(13))...)
		lists(t, "one with a node ahead of it", x, w, nil, false, append([]api.Seg{node(0)}, l...)...)
	}
	lists(t, "in another order", x, w, nil, false, node(4), node(3), node(5))
	lists(t, "two beside each other", x, w, nil, false, node(1), node(2), node(5))
	lists(t, "past the goal and back", x, api.Want{To: 4}, nil, false, node(5), node(4))
	lists(t, "from elsewhere", x, w, nil, false, edge(12))
}

func TestP1601ListPoints(t *testing.T) {
	x := frozen(kite())
	w := api.Want{To: 0, Via: []int{5, 4}}
	lists(t, "there and back", x, w, nil, true, node(5), node(0))
	lists(t, "there and back, by way of", x, w, nil, true, node(4), node(5), node(4), node(2), node(0))
	lists(t, "there alone", x, w, nil, false, node(5))
	lists(t, "not far enough", x, w, nil, false, node(4), node(0))
	w = api.Want{To: 3, Via: []int{1}}
	lists(t, "not by the point", x, w, nil, false, node(3))
	lists(t, "by the point", x, w, nil, true, node(1), node(3))
	lists(t, "by the point's edges", x, w, nil, true, edge(0), edge(3))
	lists(t, "by another node", x, w, nil, false, node(2), node(3))
	w = api.Want{To: 5, Via: []int{0, 0, 3, 5}}
	lists(t, "points at the beginning and the end", x, w, nil, true, node(5))
	lists(t, "as often as may be", x, api.Want{To: 1, From: 1, Via: []int{0, 1, 0}}, nil, true, node(0), node(1), node(0), node(1))
	lists(t, "once too few", x, api.Want{To: 1, From: 1, Via: []int{0, 1, 0}}, nil, false, node(0), node(1))
}

// A list ends where it does not lead on, however much is behind.
func TestP1601ListLong(t *testing.T) {
	x := frozen(kite())
	many := slices.Repeat([]api.Seg{node(5), node(0)}, 1<<19)
	lists(t, "to and fro", x, api.Want{To: 0, Via: []int{5, 0, 5}}, nil, false, many...)
	lists(t, "to and fro", x, api.Want{To: 0, Via: []int{5, 0, 5}}, nil, true, many[:4]...)
	lists(t, "nowhere", x, api.Want{To: 5}, nil, false, make([]api.Seg, 1<<20)...)
}

// road is a row of nodes, each joined to the next one by three links: of ways
// from end to end it has more than could be gone one by one.
func road() api.Graph {
	g := api.Graph{Nodes: api.MaxNodes}
	for i := range api.MaxNodes - 1 {
		g.Links = append(g.Links, slices.Repeat([]api.Link{{A: i, B: i + 1, Metric: api.MaxMetric}}, 3)...)
	}
	return g
}

func TestP1601ManyWays(t *testing.T) {
	x := frozen(road())
	w := api.Want{To: 39, Via: []int{39, 0, 39, 0}}
	leads(t, "there", x, w, nil, [2]int{0, 0}, node(39), [2]int{39, 1})
	leads(t, "back", x, w, nil, [2]int{39, 1}, node(0), [2]int{0, 2})
	lists(t, "to and fro", x, w, nil, true, node(39), node(0), node(39), node(0), node(39))
	lists(t, "to and fro, one of them down", x, w, []bool{116: true}, false, node(39), node(0), node(39), node(0), node(39))
	lists(t, "all beyond down", x, api.Want{To: 38}, []bool{114: true, 115: true, 116: true}, true, node(38))
	leads(t, "over points", x, api.Want{To: 39, Via: []int{10, 20, 30}}, nil, [2]int{0, 0}, node(39), [2]int{39, 4})
	// Five ranks of eight nodes, each joined to three of the next rank.
	mesh := api.Graph{Nodes: api.MaxNodes}
	for i := range 32 {
		for _, to := range []int{i, i + 1, i + 3} {
			mesh.Links = append(mesh.Links, api.Link{A: i, B: i/8*8 + 8 + to%8, Metric: 1})
		}
	}
	lists(t, "ranks", frozen(mesh), api.Want{From: 2, To: 38}, nil, true, node(38))
}

// The rest holds the calls against the document's words, told another way.

func endsOf(g api.Graph, edge int) (int, int) {
	l := g.Links[edge/2]
	if edge%2 == 0 {
		return l.A, l.B
	}
	return l.B, l.A
}

// ways lists all shortest ways by the tables.
func ways(x *tables.Tables, g api.Graph, from, to int) [][]int {
	if from == to {
		return [][]int{nil}
	}
	var out [][]int
	for _, first := range x.Next(from, to) {
		_, at := endsOf(g, first)
		for _, rest := range ways(x, g, at, to) {
			out = append(out, append([]int{first}, rest...))
		}
	}
	return out
}

// segWays lists the ways that a segment can be from a node: none to the node
// itself, nor over an edge that begins elsewhere.
func segWays(x *tables.Tables, g api.Graph, at int, s api.Seg) [][]int {
	if s.Edge {
		if s.To < 0 || s.To >= 2*len(g.Links) {
			return nil
		}
		if from, _ := endsOf(g, s.To); from != at {
			return nil
		}
		return [][]int{{s.To}}
	}
	if at == s.To || at < 0 || at >= g.Nodes {
		return nil
	}
	return ways(x, g, at, s.To)
}

// segOf tells what Seg would, way by way.
func segOf(x *tables.Tables, g api.Graph, w api.Want, down []bool, at [2]int, s api.Seg) ([2]int, bool) {
	l := segWays(x, g, at[0], s)
	var came [2]int
	for i, way := range l {
		state, ok := at, true
		for _, e := range way {
			if state, ok = opt.Step(g, w, down, state, e); !ok {
				return [2]int{}, false
			}
		}
		if i > 0 && state != came {
			return [2]int{}, false
		}
		came = state
	}
	return came, len(l) > 0
}

// walksOf lists the walks that segments can be from a node; false: one of the
// segments can't be any.
func walksOf(x *tables.Tables, g api.Graph, at int, l []api.Seg) ([][]int, bool) {
	if len(l) == 0 {
		return [][]int{nil}, true
	}
	first := segWays(x, g, at, l[0])
	if len(first) == 0 {
		return nil, false
	}
	_, end := endsOf(g, first[0][len(first[0])-1])
	rest, ok := walksOf(x, g, end, l[1:])
	var out [][]int
	for _, a := range first {
		for _, b := range rest {
			out = append(out, slices.Concat(a, b))
		}
	}
	return out, ok
}

func (c *chance) graph(nodes, links int) api.Graph {
	g := api.Graph{Nodes: 2 + c.below(nodes-1)}
	for range c.below(links + 1) {
		a := c.below(g.Nodes)
		b := (a + 1 + c.below(g.Nodes-1)) % g.Nodes
		g.Links = append(g.Links, api.Link{A: a, B: b, Metric: 1 + c.below(3), Colour: c.below(4)})
	}
	return g
}

func (c *chance) want(g api.Graph) api.Want {
	w := api.Want{From: c.below(g.Nodes), To: c.below(g.Nodes)}
	for range c.below(5) {
		w.Via = append(w.Via, c.below(g.Nodes))
	}
	switch c.below(9) {
	case 0:
		w.Nodes = []int{c.below(g.Nodes)}
	case 1:
		w.Colours = []int{c.below(4)}
	case 2:
		if len(g.Links) > 0 {
			w.Links = []int{c.below(len(g.Links))}
		}
	case 3:
		w.Bound = 1 + c.below(15)
	}
	return w
}

func (c *chance) down(links int) []bool {
	l := make([]bool, c.below(links+3))
	for i := range l {
		l[i] = c.below(8) == 0
	}
	return l
}

func TestP1601SegOfAny(t *testing.T) {
	c := chance(1601)
	led, not := 0, 0
	for range 150 {
		g := c.graph(7, 12)
		x := frozen(g)
		w, down := c.want(g), c.down(len(g.Links))
		for from := -1; from <= g.Nodes; from++ {
			for number := -1; number < len(w.Via)+3; number++ {
				at := [2]int{from, number}
				l := []api.Seg{edge(-1), edge(2 * len(g.Links)), node(-1), node(g.Nodes), edge(c.below(2*len(g.Links) + 1))}
				for to := range g.Nodes {
					l = append(l, node(to))
				}
				for _, s := range l {
					if to, ok := segOf(x, g, w, down, at, s); ok {
						led++
						leads(t, "some graph", x, w, down, at, s, to)
					} else {
						not++
						fails(t, "some graph", x, w, down, at, s)
					}
				}
			}
		}
	}
	if led < 500 || not < 500 {
		t.Errorf("%d led on, %d did not", led, not)
	}
}

// list makes segments that lead to the goal, or to where none was found.
func (c *chance) list(x *tables.Tables, g api.Graph, w api.Want, down []bool) []api.Seg {
	var l []api.Seg
	at := opt.Start(w)
	for range 12 {
		s := node(c.below(g.Nodes))
		if c.below(3) == 0 {
			s = edge(c.below(2*len(g.Links) + 1))
		}
		if to, ok := segOf(x, g, w, down, at, s); ok {
			l, at = append(l, s), to
		}
	}
	return l
}

// A Guide answers as Seg does, whatever it was asked ahead, and however often.
func TestP1601Guide(t *testing.T) {
	c := chance(61)
	for range 60 {
		g := c.graph(7, 12)
		x := frozen(g)
		w, down := c.want(g), c.down(len(g.Links))
		guide, e := Find(x, w, down)
		if _, want := opt.Cost(g, w, down); e != want {
			t.Errorf("Find of %v, %v down: %v, not %v", w, down, e, want)
		}
		for range 300 {
			at := [2]int{c.below(g.Nodes+2) - 1, c.below(len(w.Via)+3) - 1}
			s := api.Seg{Edge: c.below(2) == 0, To: c.below(2*len(g.Links)+3) - 1}
			got, ok := guide.Seg(at, s)
			if want, leads := segOf(x, g, w, down, at, s); got != want || ok != leads {
				t.Errorf("a Guide of %v, %v down, from %v by %v: %v, %v, not %v, %v", w, down, at, s, got, ok, want, leads)
			}
		}
	}
	if got, ok := (Guide{}).Seg([2]int{}, edge(0)); got != [2]int{} || ok {
		t.Errorf("the zero one: %v, %v", got, ok)
	}
}

// List says of segments that they lead to the goal just if each walk that they
// can be is Opt.
func TestP1602ListIsOpt(t *testing.T) {
	c := chance(1602)
	best, not := 0, 0
	for range 900 {
		g := c.graph(6, 10)
		x := frozen(g)
		w, down := c.want(g), c.down(len(g.Links))
		l := c.list(x, g, w, down)
		for range 6 {
			walks, ok := walksOf(x, g, w.From, l)
			for _, walk := range walks {
				ok = ok && opt.Has(g, w, down, walk)
			}
			if ok {
				best++
			} else {
				not++
			}
			lists(t, "some graph", x, w, down, ok, l...)
			l = c.turned(g, l)
		}
	}
	if best < 300 || not < 1000 {
		t.Errorf("%d led to the goal, %d did not", best, not)
	}
}

// turned makes another list, much like l.
func (c *chance) turned(g api.Graph, l []api.Seg) []api.Seg {
	l = slices.Clone(l)
	n := c.below(len(l) + 1)
	switch c.below(4) {
	case 0:
		return slices.Insert(l, n, node(c.below(g.Nodes)))
	case 1:
		return slices.Insert(l, n, edge(c.below(2*len(g.Links)+1)))
	case 2:
		return slices.Delete(l, min(n, max(len(l)-1, 0)), len(l))
	}
	if n < len(l) {
		return slices.Delete(l, n, n+1)
	}
	return l
}

func TestP1602Nil(t *testing.T) {
	for _, w := range []api.Want{{}, {To: 1}, {From: -1, To: -1}} {
		refused(t, "a nil one", nil, w, nil)
		refused(t, "the zero one", &tables.Tables{}, w, []bool{true})
	}
}

// What is handed in stays as it is, the spare room behind it too, and so do the
// tables.
func TestP1602Kept(t *testing.T) {
	g := kite()
	x := frozen(g)
	segs := []api.Seg{node(3), node(5), node(5), edge(8), edge(9), node(0)}
	down := []bool{false, true, false, false, false, false, false, false, true, false, true}
	room := [4][]int{{1, 3, 4, 3, 9, 9}, {6, 6, 2, 1, 8, 8}, {0, 7, 3, 1, 7, 7}, {3, 62, 0, 9, 6, 6}}
	wasSegs, wasDown := slices.Clone(segs), slices.Clone(down)
	var was [4][]int
	for i, l := range room {
		was[i] = slices.Clone(l)
	}
	for k := range 5 {
		w := api.Want{To: 5, Via: room[0][:k], Nodes: room[1][:k], Links: room[2][:min(k, 1)], Colours: room[3][:k/2]}
		for d := range 9 {
			List(x, w, down[:d], segs[:k])
			Seg(x, w, down[:d], [2]int{0, 0}, segs[k])
			Seg(x, w, down[:d], [2]int{3, 0}, segs[k])
		}
	}
	if !slices.Equal(segs, wasSegs) || !slices.Equal(down, wasDown) {
		t.Errorf("segments %v, not %v; down %v, not %v", segs, wasSegs, down, wasDown)
	}
	for i, l := range room {
		if !slices.Equal(l, was[i]) {
			t.Errorf("list %d: %v, not %v", i, l, was[i])
		}
	}
	for from := range g.Nodes {
		for to := range g.Nodes {
			if y := frozen(g); !slices.Equal(x.Next(from, to), y.Next(from, to)) || x.Dist(from, to) != y.Dist(from, to) {
				t.Errorf("the tables from %d to %d: %v, %d", from, to, x.Next(from, to), x.Dist(from, to))
			}
		}
	}
	if y := x.Graph(); y.Nodes != g.Nodes || !slices.Equal(y.Links, g.Links) {
		t.Errorf("the graph: %v", y)
	}
}

// Nothing is kept from call to call: what was asked ahead does not tell.
func TestP1602NothingKept(t *testing.T) {
	x, down, l := frozen(kite()), make([]bool, 10), []api.Seg{node(3), node(5)}
	w := api.Want{To: 5, Via: []int{3}}
	for range 3 {
		lists(t, "as it was", x, w, down, true, l...)
		leads(t, "as it was", x, w, down, [2]int{0, 0}, node(4), [2]int{4, 1})
		down[6], w.Via[0], l[1] = true, 1, edge(15)
		lists(t, "turned", x, w, down, false, l...)
		lists(t, "turned", x, w, down, true, node(1), node(4), edge(15))
		fails(t, "turned", x, w, down, [2]int{0, 0}, node(4))
		lists(t, "other tables", frozen(road()), w, nil, true, node(5))
		refused(t, "none", nil, w, down)
		down[6], w.Via[0], l[1] = false, 3, node(5)
	}
}

// Answers are the same, whoever else asks the same tables.
func TestP1602ManyAsk(t *testing.T) {
	x := frozen(kite())
	var all sync.WaitGroup
	for range 8 {
		all.Go(func() {
			for range 50 {
				lists(t, "asked at once", x, api.Want{To: 0, Via: []int{5}}, nil, true, node(4), node(5), node(0))
				leads(t, "asked at once", x, api.Want{To: 5, Via: []int{3}}, nil, [2]int{0, 0}, node(4), [2]int{4, 1})
			}
		})
	}
	all.Wait()
}
