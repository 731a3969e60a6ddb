package tables

import (
	"math"
	"slices"
	"sync"
	"testing"

	"waymark/api"
	"waymark/graph"
	"waymark/spf"
)

// extremes are numbers that no graph has as a node.
func extremes() []int {
	return []int{math.MinInt, math.MinInt + 1, math.MinInt32, -1 << 32, -2, -1, 40, 41, 1 << 32, 1<<32 + 1, math.MaxInt32, math.MaxInt - 1, math.MaxInt}
}

// of makes a graph of links that are from, to, metric.
func of(nodes int, links ...[3]int) api.Graph {
	g := api.Graph{Nodes: nodes}
	for i, l := range links {
		g.Links = append(g.Links, api.Link{A: l[0], B: l[1], Metric: l[2], Colour: i % 63})
	}
	return g
}

// town is a graph in which the way of the fewest links is not the shortest one,
// several ways are as short, two links are beside each other (4 and 5, and 0 as
// 6 turned round), and the nodes 5 and 6 are apart from the others.
func town() api.Graph {
	return of(7,
		[3]int{0, 1, 2},
		[3]int{1, 2, 2},
		[3]int{0, 2, 9},
		[3]int{2, 3, 1},
		[3]int{3, 4, 5},
		[3]int{4, 3, 5},
		[3]int{1, 0, 2},
		[3]int{0, 3, 5},
		[3]int{6, 5, 3},
	)
}

// townDists are the lengths of the town's shortest ways, from where by to where.
func townDists() [][]int {
	return [][]int{
		{0, 2, 4, 5, 10, -1, -1},
		{2, 0, 2, 3, 8, -1, -1},
		{4, 2, 0, 1, 6, -1, -1},
		{5, 3, 1, 0, 5, -1, -1},
		{10, 8, 6, 5, 0, -1, -1},
		{-1, -1, -1, -1, -1, 0, 3},
		{-1, -1, -1, -1, -1, 3, 0},
	}
}

// townNexts are the edges with which they begin.
func townNexts() [][][]int {
	return [][][]int{
		{{}, {0, 13}, {0, 13}, {0, 13, 14}, {0, 13, 14}, {}, {}},
		{{1, 12}, {}, {2}, {2}, {2}, {}, {}},
		{{3}, {3}, {}, {6}, {6}, {}, {}},
		{{7, 15}, {7}, {7}, {}, {8, 11}, {}, {}},
		{{9, 10}, {9, 10}, {9, 10}, {9, 10}, {}, {}, {}},
		{{}, {}, {}, {}, {}, {}, {17}},
		{{}, {}, {}, {}, {}, {16}, {}},
	}
}

// made answers the tables of a graph that is right.
func made(t *testing.T, name string, g api.Graph) *Tables {
	t.Helper()
	x, e := New(g)
	if x == nil || e != api.OK {
		t.Fatalf("%s: New of %v: %v, %v", name, g, x, e)
	}
	return x
}

func hasGraph(t *testing.T, name string, x *Tables, want api.Graph) {
	t.Helper()
	if g := x.Graph(); g.Nodes != want.Nodes || !slices.Equal(g.Links, want.Links) {
		t.Errorf("%s: Graph: %v, not %v", name, g, want)
	}
}

func leads(t *testing.T, name string, x *Tables, from, to, dist int, next ...int) {
	t.Helper()
	if got := x.Dist(from, to); got != dist {
		t.Errorf("%s: Dist from %d to %d: %d, not %d", name, from, to, got, dist)
	}
	if got := x.Next(from, to); !slices.Equal(got, next) {
		t.Errorf("%s: Next from %d to %d: %v, not %v", name, from, to, got, next)
	}
}

// isTown looks at all that the tables of the town tell.
func isTown(t *testing.T, name string, x *Tables) {
	t.Helper()
	hasGraph(t, name, x, town())
	for from, dists := range townDists() {
		for to, dist := range dists {
			leads(t, name, x, from, to, dist, townNexts()[from][to]...)
		}
	}
}

// isNone looks whether there is nothing in the tables at all.
func isNone(t *testing.T, name string, x *Tables) {
	t.Helper()
	hasGraph(t, name, x, api.Graph{})
	for _, from := range append(extremes(), 0, 1, 39) {
		for _, to := range append(extremes(), 0, 1, 39) {
			leads(t, name, x, from, to, -1)
		}
	}
}

func TestP901Town(t *testing.T) {
	isTown(t, "town", made(t, "town", town()))
}

func TestP901NoLinks(t *testing.T) {
	leads(t, "one node", made(t, "one node", of(1)), 0, 0, 0)
	for _, g := range []api.Graph{of(4), {Nodes: 4, Links: []api.Link{}}, of(api.MaxNodes)} {
		x := made(t, "no links", g)
		hasGraph(t, "no links", x, g)
		for from := range g.Nodes {
			for to := range g.Nodes {
				dist := -1
				if from == to {
					dist = 0
				}
				leads(t, "no links", x, from, to, dist)
			}
		}
	}
}

// The greatest graphs there may be.
func TestP901Limits(t *testing.T) {
	line := of(api.MaxNodes)
	for i := range api.MaxNodes - 1 {
		line.Links = append(line.Links, api.Link{A: i, B: i + 1, Metric: api.MaxMetric, Colour: 62})
	}
	x := made(t, "a line", line)
	hasGraph(t, "a line", x, line)
	for from := range api.MaxNodes {
		for to := range api.MaxNodes {
			switch {
			case from == to:
				leads(t, "a line", x, from, to, 0)
			case from < to:
				leads(t, "a line, ahead", x, from, to, (to-from)<<24, 2*from)
			default:
				leads(t, "a line, back", x, from, to, (from-to)<<24, 2*from-1)
			}
		}
	}
	many := api.Graph{Nodes: 2, Links: slices.Repeat([]api.Link{{A: 1, B: 0, Metric: 3}}, api.MaxLinks)}
	var odd, even []int
	for link := range api.MaxLinks {
		even, odd = append(even, 2*link), append(odd, 2*link+1)
	}
	x = made(t, "many links", many)
	leads(t, "many links", x, 0, 1, 3, odd...)
	leads(t, "many links", x, 1, 0, 3, even...)
	many.Links[119].Metric = 2
	x = made(t, "many links, the last one shorter", many)
	leads(t, "many links, the last one shorter", x, 0, 1, 2, 239)
	leads(t, "many links, the last one shorter", x, 1, 0, 2, 238)
}

// A graph that is not graph.Check has no tables, and its error is told.
func TestP901WrongGraph(t *testing.T) {
	good := api.Link{A: 0, B: 1, Metric: 1}
	with := func(l api.Link) api.Graph { return api.Graph{Nodes: 3, Links: []api.Link{good, l}} }
	for _, x := range []struct {
		name string
		g    api.Graph
		e    api.Errno
	}{
		{"nothing", api.Graph{}, api.ErrArg},
		{"no nodes", api.Graph{Links: []api.Link{good}}, api.ErrArg},
		{"nodes below 0", api.Graph{Nodes: -1}, api.ErrArg},
		{"least nodes", api.Graph{Nodes: math.MinInt}, api.ErrArg},
		{"too many nodes", api.Graph{Nodes: api.MaxNodes + 1}, api.ErrArg},
		{"most nodes", api.Graph{Nodes: math.MaxInt}, api.ErrArg},
		{"too many links", api.Graph{Nodes: 3, Links: slices.Repeat([]api.Link{good}, api.MaxLinks+1)}, api.ErrLong},
		{"too many links, no nodes", api.Graph{Links: make([]api.Link, api.MaxLinks+1)}, api.ErrLong},
		{"A is no node", with(api.Link{A: 3, B: 1, Metric: 1}), api.ErrNode},
		{"A is below 0", with(api.Link{A: -1, B: 1, Metric: 1}), api.ErrNode},
		{"B is no node", with(api.Link{A: 0, B: 3, Metric: 1}), api.ErrNode},
		{"B is below 0", with(api.Link{A: 0, B: math.MinInt, Metric: 1}), api.ErrNode},
		{"both are one", with(api.Link{A: 1, B: 1, Metric: 1}), api.ErrNode},
		{"no Metric", with(api.Link{A: 0, B: 1}), api.ErrArg},
		{"Metric below 0", with(api.Link{A: 0, B: 1, Metric: -1}), api.ErrArg},
		{"a great Metric", with(api.Link{A: 0, B: 1, Metric: api.MaxMetric + 1}), api.ErrArg},
		{"Colour below 0", with(api.Link{A: 0, B: 1, Metric: 1, Colour: -1}), api.ErrArg},
		{"a great Colour", with(api.Link{A: 0, B: 1, Metric: 1, Colour: 63}), api.ErrArg},
		{"the zero link", with(api.Link{}), api.ErrNode},
		{"two wrong links", api.Graph{Nodes: 3, Links: []api.Link{good, {A: 0, B: 1}, {}}}, api.ErrArg},
	} {
		got, e := New(x.g)
		if got != nil || e != x.e {
			t.Errorf("%s: New: %v, %v, not %v", x.name, got, e, x.e)
		}
		isNone(t, x.name, got)
	}
}

func TestP901WrongNode(t *testing.T) {
	x := made(t, "town", town())
	for _, wrong := range append(extremes(), 7, 8, 14) {
		leads(t, "from and to no node", x, wrong, wrong, -1)
		for node := range town().Nodes {
			leads(t, "from no node", x, wrong, node, -1)
			leads(t, "to no node", x, node, wrong, -1)
		}
	}
	for nodes := 1; nodes <= api.MaxNodes; nodes++ {
		x := made(t, "some nodes", of(nodes))
		leads(t, "the last node", x, nodes-1, nodes-1, 0)
		leads(t, "behind the last node", x, nodes, nodes, -1)
		leads(t, "from behind the last node", x, nodes, nodes-1, -1)
		leads(t, "to behind the last node", x, nodes-1, nodes, -1)
	}
}

// chance makes numbers in no order.
type chance uint32

func (c *chance) below(most int) int {
	*c = *c*1664525 + 1013904223
	return int(*c>>8) % most
}

// net makes some graph.
func (c *chance) net(nodes, links, metrics int) api.Graph {
	g := api.Graph{Nodes: nodes}
	for range links {
		a := c.below(nodes)
		b := (a + 1 + c.below(nodes-1)) % nodes
		g.Links = append(g.Links, api.Link{A: a, B: b, Metric: 1 + c.below(metrics), Colour: c.below(63)})
	}
	return g
}

// All that is told is as the promise has it of package spf, both ways round.
func TestP901AsSpf(t *testing.T) {
	c := chance(1)
	for n := range 60 {
		g := c.net(2+c.below(8), c.below(16), 1+c.below(4))
		if n%10 == 0 {
			g = c.net(api.MaxNodes, api.MaxLinks-c.below(80), []int{1, 3, 1000, api.MaxMetric}[c.below(4)])
		}
		x := made(t, "some graph", g)
		hasGraph(t, "some graph", x, g)
		for from := range g.Nodes {
			far := spf.From(g, nil, from)
			for to := range g.Nodes {
				leads(t, "some graph", x, from, to, far[to], spf.Next(g, nil, spf.To(g, nil, to), from)...)
			}
		}
	}
}

// Whichever edges of Next are gone over, the way is as long as Dist says, and
// no edge out of where it goes, but those of Next, leads on as short a way.
func TestP901Ways(t *testing.T) {
	c := chance(2)
	for range 30 {
		g := c.net(2+c.below(39), c.below(api.MaxLinks+1), 1+c.below(5))
		x := made(t, "some graph", g)
		for from := range g.Nodes {
			for to := range g.Nodes {
				follow(t, &c, g, x, from, to)
			}
		}
	}
}

func follow(t *testing.T, c *chance, g api.Graph, x *Tables, from, to int) {
	t.Helper()
	left := x.Dist(from, to)
	for at := from; at != to && left > 0; {
		var want []int
		for _, edge := range graph.Out(g, at) {
			_, end, _ := graph.Ends(g, edge)
			if rest := x.Dist(end, to); rest >= 0 && rest+g.Links[edge/2].Metric == left {
				want = append(want, edge)
			}
		}
		leads(t, "on the way", x, at, to, left, want...)
		if len(want) == 0 {
			t.Fatalf("%v: no Next from %d to %d", g, at, to)
		}
		edge := want[c.below(len(want))]
		_, at, _ = graph.Ends(g, edge)
		left -= g.Links[edge/2].Metric
	}
	if left > 0 || (left < 0 && len(x.Next(from, to)) > 0) {
		t.Fatalf("%v: from %d to %d: %d are left", g, from, to, left)
	}
}

// What the caller turns in the graph that was handed in, or in what is
// answered, does not tell: the tables are frozen.
func TestP901Frozen(t *testing.T) {
	g := town()
	x := made(t, "town", g)
	for i := range g.Links {
		g.Links[i] = api.Link{A: 5, B: 6, Metric: 1}
	}
	g.Nodes = 2
	isTown(t, "the graph handed in turned", x)
	for range 3 {
		answered := x.Graph()
		for i := range answered.Links[:cap(answered.Links)] {
			answered.Links[:cap(answered.Links)][i] = api.Link{A: 6, B: 5, Metric: 9}
		}
		isTown(t, "the graph answered turned", x)
		for from := range 7 {
			for to := range 7 {
				spoil(x.Next(from, to))
			}
		}
		isTown(t, "the edges answered turned", x)
	}
}

// spoil writes over all of l, its spare room too.
func spoil(l []int) {
	for i := range l[:cap(l)] {
		l[:cap(l)][i] = -99
	}
}

func TestP902Nil(t *testing.T) {
	isNone(t, "a nil one", nil)
	isNone(t, "the zero one", &Tables{})
}

// Tables of two graphs have nothing in common, nor have two of one graph, nor
// has one with its copy.
func TestP902Two(t *testing.T) {
	g := town()
	first := made(t, "town", g)
	g.Links[7].Metric = 1
	second := made(t, "town, turned", g)
	made(t, "another", of(2, [3]int{0, 1, 4}))
	New(api.Graph{})
	isTown(t, "the first", first)
	leads(t, "the second", second, 0, 4, 6, 14)
	hasGraph(t, "the second", second, g)
	twin, other := made(t, "town", town()), *first
	for from := range 7 {
		for to := range 7 {
			spoil(first.Next(from, to))
			spoil(other.Next(from, to))
		}
	}
	isTown(t, "a copy", &other)
	*first = Tables{}
	isTown(t, "a copy of one that is none now", &other)
	isTown(t, "another one of the same graph", twin)
	isNone(t, "one that is none now", first)
}

// What is handed in stays as it is, the spare room behind it too.
func TestP902Kept(t *testing.T) {
	room := slices.Repeat(town().Links, 2)
	was := slices.Clone(room)
	for n := range 10 {
		g := api.Graph{Nodes: 7, Links: room[:n]}
		x := made(t, "some links", g)
		for from := range 7 {
			for to := range 7 {
				x.Dist(from, to)
				x.Next(from, to)
			}
		}
		answered := x.Graph().Links
		_ = append(answered, api.Link{A: 3, B: 3})
		if !slices.Equal(room, was) {
			t.Fatalf("the links of %d: %v, not %v", n, room, was)
		}
	}
}

// Answers are the same whatever was asked ahead, and by how many at once.
func TestP902ManyAsk(t *testing.T) {
	x := made(t, "town", town())
	var all sync.WaitGroup
	for range 8 {
		all.Go(func() { isTown(t, "asked at once", x) })
	}
	all.Wait()
}
