package spf

import (
	"math"
	"slices"
	"testing"

	"waymark/api"
	"waymark/graph"
)

// extremes are numbers that no graph has as a node.
func extremes() []int {
	return []int{math.MinInt, math.MinInt + 1, math.MinInt32, -1 << 32, -2, -1, 40, 41, 1 << 32, 1<<32 + 1, math.MaxInt32, math.MaxInt - 1, math.MaxInt}
}

// of makes a graph of links that are from, to, metric.
func of(nodes int, links ...[3]int) api.Graph {
	g := api.Graph{Nodes: nodes}
	for i, l := range links {
		g.Links = append(g.Links, api.Link{A: l[0], B: l[1], Metric: l[2], Colour: i % 63})
	}
	return g
}

// town is a graph in which the way of the fewest links is not the shortest one,
// several ways are as short, two links are beside each other (4 and 5, and 0 as
// 6 turned round), and the nodes 5 and 6 are apart from the others.
func town() api.Graph {
	return of(7,
		[3]int{0, 1, 2},
		[3]int{1, 2, 2},
		[3]int{0, 2, 9},
		[3]int{2, 3, 1},
		[3]int{3, 4, 5},
		[3]int{4, 3, 5},
		[3]int{1, 0, 2},
		[3]int{0, 3, 5},
		[3]int{6, 5, 3},
	)
}

// without says of n links that those of l are down.
func without(n int, l ...int) []bool {
	down := make([]bool, n)
	for _, link := range l {
		down[link] = true
	}
	return down
}

// wrong are graphs that are not graph.Check, with the nodes 0 and 1 in most.
func wrong() map[string]api.Graph {
	good := api.Link{A: 0, B: 1, Metric: 1}
	with := func(l api.Link) api.Graph { return api.Graph{Nodes: 3, Links: []api.Link{good, l}} }
	return map[string]api.Graph{
		"nothing":         {},
		"no nodes":        {Nodes: 0, Links: []api.Link{good}},
		"nodes below 0":   {Nodes: -1},
		"least nodes":     {Nodes: math.MinInt},
		"too many nodes":  {Nodes: api.MaxNodes + 1},
		"most nodes":      {Nodes: math.MaxInt},
		"too many links":  {Nodes: 3, Links: slices.Repeat([]api.Link{good}, api.MaxLinks+1)},
		"A is no node":    with(api.Link{A: 3, B: 1, Metric: 1}),
		"A is below 0":    with(api.Link{A: -1, B: 1, Metric: 1}),
		"B is no node":    with(api.Link{A: 0, B: 3, Metric: 1}),
		"B is below 0":    with(api.Link{A: 0, B: math.MinInt, Metric: 1}),
		"both are one":    with(api.Link{A: 1, B: 1, Metric: 1}),
		"no Metric":       with(api.Link{A: 0, B: 1}),
		"Metric below 0":  with(api.Link{A: 0, B: 1, Metric: -1}),
		"a great Metric":  with(api.Link{A: 0, B: 1, Metric: api.MaxMetric + 1}),
		"Colour below 0":  with(api.Link{A: 0, B: 1, Metric: 1, Colour: -1}),
		"a great Colour":  with(api.Link{A: 0, B: 1, Metric: 1, Colour: 63}),
		"the first wrong": {Nodes: 3, Links: []api.Link{{}, good}},
	}
}

// lengths looks at From and To: they are the same, as links go both ways.
func lengths(t *testing.T, name string, g api.Graph, down []bool, node int, want []int) {
	t.Helper()
	if got := From(g, down, node); !slices.Equal(got, want) {
		t.Errorf("%s: From %d: %v, not %v", name, node, got, want)
	}
	if got := To(g, down, node); !slices.Equal(got, want) {
		t.Errorf("%s: To %d: %v, not %v", name, node, got, want)
	}
}

func nexts(t *testing.T, name string, g api.Graph, down []bool, to []int, node int, want []int) {
	t.Helper()
	if got := Next(g, down, to, node); !slices.Equal(got, want) {
		t.Errorf("%s: Next of %d by %v: %v, not %v", name, node, to, got, want)
	}
}

func TestP701Lengths(t *testing.T) {
	for node, want := range [][]int{
		{0, 2, 4, 5, 10, -1, -1},
		{2, 0, 2, 3, 8, -1, -1},
		{4, 2, 0, 1, 6, -1, -1},
		{5, 3, 1, 0, 5, -1, -1},
		{10, 8, 6, 5, 0, -1, -1},
		{-1, -1, -1, -1, -1, 0, 3},
		{-1, -1, -1, -1, -1, 3, 0},
	} {
		lengths(t, "town", town(), nil, node, want)
		lengths(t, "town, no links down", town(), without(9), node, want)
	}
}

func TestP701NoLinks(t *testing.T) {
	lengths(t, "one node", of(1), nil, 0, []int{0})
	lengths(t, "one node, links down", of(1), without(3, 0, 1, 2), 0, []int{0})
	lengths(t, "an empty list", api.Graph{Nodes: 1, Links: []api.Link{}}, []bool{}, 0, []int{0})
	for node := range 4 {
		want := []int{-1, -1, -1, -1}
		want[node] = 0
		lengths(t, "no links", of(4), nil, node, want)
	}
	nexts(t, "one node", of(1), nil, []int{0}, 0, nil)
	nexts(t, "one node with a number", of(1), nil, []int{7}, 0, nil)
	nexts(t, "no links", of(3), nil, []int{0, 5, 9}, 1, nil)
}

func TestP701Down(t *testing.T) {
	const n = 9
	for _, x := range []struct {
		name string
		down []bool
		want []int
	}{
		{"one of two beside each other", without(n, 4), []int{0, 2, 4, 5, 10, -1, -1}},
		{"both", without(n, 4, 5), []int{0, 2, 4, 5, -1, -1, -1}},
		{"one turned round", without(n, 0), []int{0, 2, 4, 5, 10, -1, -1}},
		{"both ways to 1", without(n, 0, 6), []int{0, 8, 6, 5, 10, -1, -1}},
		{"the ways over 2", without(n, 1), []int{0, 2, 6, 5, 10, -1, -1}},
		{"all but the long one", without(n, 0, 1, 3, 6, 7), []int{0, -1, 9, -1, -1, -1, -1}},
		{"all", without(n, 0, 1, 2, 3, 4, 5, 6, 7, 8), []int{0, -1, -1, -1, -1, -1, -1}},
		{"those that there are", []bool{true}, []int{0, 2, 4, 5, 10, -1, -1}},
		{"up to the last that is", without(8, 0, 6, 7), []int{0, 11, 9, 10, 15, -1, -1}},
		{"more than there are", without(n+5, 4, 5, 9, 10, 13), []int{0, 2, 4, 5, -1, -1, -1}},
		{"those that are not there alone", without(300, 9, 10, 256, 299), []int{0, 2, 4, 5, 10, -1, -1}},
	} {
		lengths(t, x.name, town(), x.down, 0, x.want)
	}
}

// The greatest graphs there may be.
func TestP701Limits(t *testing.T) {
	line := of(api.MaxNodes)
	want := []int{0}
	for i := range api.MaxNodes - 1 {
		line.Links = append(line.Links, api.Link{A: i + 1, B: i, Metric: api.MaxMetric, Colour: 62})
		want = append(want, (i+1)<<24)
	}
	lengths(t, "a line", line, nil, 0, want)
	slices.Reverse(want)
	lengths(t, "a line from its end", line, nil, api.MaxNodes-1, want)
	for node := range api.MaxNodes - 1 {
		nexts(t, "a line", line, nil, want, node, []int{2*node + 1})
	}
	many := api.Graph{Nodes: 2, Links: slices.Repeat([]api.Link{{A: 0, B: 1, Metric: 3}}, api.MaxLinks)}
	many.Links[119].Metric = 2
	lengths(t, "many links", many, nil, 1, []int{2, 0})
	nexts(t, "many links", many, nil, []int{0, 2}, 1, []int{239})
	lengths(t, "many links, the last one down", many, without(api.MaxLinks, 119), 1, []int{3, 0})
	if got := Next(many, without(api.MaxLinks, 119), []int{0, 3}, 1); len(got) != 119 || got[0] != 1 || got[118] != 237 {
		t.Errorf("Next over many links: %v", got)
	}
}

func TestP701WrongNode(t *testing.T) {
	to := []int{0, 2, 4, 5, 10, -1, -1}
	for _, node := range append(extremes(), 7, 8, 14) {
		lengths(t, "town", town(), nil, node, nil)
		nexts(t, "town", town(), nil, to, node, nil)
	}
	for nodes := 1; nodes <= api.MaxNodes; nodes++ {
		if got := From(of(nodes), nil, nodes-1); len(got) != nodes || got[nodes-1] != 0 {
			t.Errorf("From the last of %d: %v", nodes, got)
		}
		for _, node := range []int{nodes, nodes + 1, -nodes} {
			lengths(t, "no such node", of(nodes), nil, node, nil)
			nexts(t, "no such node", of(nodes), nil, make([]int, nodes), node, nil)
		}
	}
}

func TestP701WrongGraph(t *testing.T) {
	for name, g := range wrong() {
		for _, node := range append(extremes(), 0, 1, 2, 3) {
			for _, down := range [][]bool{nil, without(2), {true, true}} {
				lengths(t, name, g, down, node, nil)
				nexts(t, name, g, down, []int{1, 0, 2}, node, nil)
				nexts(t, name, g, down, nil, node, nil)
			}
		}
	}
	g := wrong()["too many nodes"]
	g.Links = []api.Link{{A: 0, B: 1, Metric: 1}}
	nexts(t, "too many nodes", g, nil, append([]int{1}, make([]int, api.MaxNodes)...), 0, nil)
	long := wrong()["too many links"]
	nexts(t, "too many links", long, nil, []int{1, 0, 0}, 0, nil)
	long.Links = long.Links[:api.MaxLinks]
	lengths(t, "as many links as may be", long, nil, 0, []int{0, 1, -1})
}

func TestP701Next(t *testing.T) {
	for node, want := range [][][]int{
		{{}, {0, 13}, {0, 13}, {0, 13, 14}, {0, 13, 14}, {}, {}},
		{{1, 12}, {}, {2}, {2}, {2}, {}, {}},
		{{3}, {3}, {}, {6}, {6}, {}, {}},
		{{7, 15}, {7}, {7}, {}, {8, 11}, {}, {}},
		{{9, 10}, {9, 10}, {9, 10}, {9, 10}, {}, {}, {}},
		{{}, {}, {}, {}, {}, {}, {17}},
		{{}, {}, {}, {}, {}, {16}, {}},
	} {
		for to := range want {
			nexts(t, "town", town(), nil, To(town(), nil, to), node, want[to])
		}
	}
}

func TestP701NextDown(t *testing.T) {
	const n = 9
	to := To(town(), nil, 4)
	nexts(t, "one of two", town(), without(n, 4), to, 3, []int{11})
	nexts(t, "the other one", town(), without(n, 5), to, 3, []int{8})
	nexts(t, "both", town(), without(n, 4, 5), to, 3, nil)
	nexts(t, "those that there are", town(), []bool{true}, to, 0, []int{13, 14})
	nexts(t, "more than there are", town(), without(n+4, 7, 9, 12), to, 0, []int{0, 13})
	// Down is asked of the edges alone, the list is what it was.
	nexts(t, "down behind the first edge", town(), without(n, 3, 4, 5), to, 0, []int{0, 13, 14})
	other := To(town(), without(n, 0, 6), 1)
	nexts(t, "a list of when others were down", town(), nil, other, 0, []int{14})
	nexts(t, "a list of when others were down", town(), without(n, 7), other, 0, nil)
}

// A list of another number of nodes tells nothing.
func TestP701NextLong(t *testing.T) {
	to := To(town(), nil, 4)
	for n := range to {
		nexts(t, "too short", town(), nil, to[:n], 0, nil)
	}
	nexts(t, "nothing", town(), nil, nil, 0, nil)
	nexts(t, "too long", town(), nil, append(slices.Clone(to), 0), 0, nil)
	nexts(t, "too long, of none", town(), nil, append(slices.Clone(to), -1), 3, nil)
	nexts(t, "twice", town(), nil, append(slices.Clone(to), to...), 0, nil)
	nexts(t, "as long", town(), nil, to, 0, []int{0, 13, 14})
}

// Any list of as many numbers is read as it stands.
func TestP701NextNumbers(t *testing.T) {
	g := of(4, [3]int{0, 1, 5}, [3]int{2, 0, 7}, [3]int{0, 1, 5}, [3]int{3, 0, api.MaxMetric})
	for _, x := range []struct {
		name     string
		to, want []int
	}{
		{"both", []int{7, 2, 0, 9}, []int{0, 3, 4}},
		{"one", []int{7, 1, 0, 9}, []int{3}},
		{"the other", []int{7, 2, 1, 9}, []int{0, 4}},
		{"one too few", []int{6, 2, 0, 9}, nil},
		{"one too many", []int{8, 2, 0, 9}, nil},
		{"the way back", []int{2, 7, 9, api.MaxMetric + 2}, nil},
		{"the greatest Metric", []int{api.MaxMetric, 0, 0, 0}, []int{7}},
		{"own is 0", []int{0, 0, 0, 0}, nil},
		{"own is 0, the others below", []int{0, -5, -7, -api.MaxMetric}, nil},
		{"own is none", []int{-1, 0, 0, 0}, nil},
		{"own is below 0", []int{-3, -8, -10, -3 - api.MaxMetric}, nil},
		{"own is above, the others below", []int{4, -1, -3, 4 - api.MaxMetric}, nil},
		{"none ahead", []int{5, -1, -1, -1}, nil},
		{"none ahead but one", []int{7, -1, 0, -1}, []int{3}},
		{"the greatest", []int{math.MaxInt, math.MaxInt - 5, math.MaxInt - 7, math.MaxInt - api.MaxMetric}, []int{0, 3, 4, 7}},
		{"beyond the greatest", []int{3, math.MaxInt, math.MaxInt, math.MaxInt}, nil},
		{"round the greatest", []int{math.MinInt + 4, math.MaxInt, math.MaxInt - 2, math.MaxInt}, nil},
		{"round the least", []int{math.MaxInt, math.MinInt, math.MinInt, math.MinInt}, nil},
		{"round the least, to the number", []int{math.MaxInt - 4, math.MinInt, math.MinInt + 1, math.MinInt}, nil},
	} {
		nexts(t, x.name, g, nil, x.to, 0, x.want)
	}
	nexts(t, "out of another node", g, nil, []int{1, 6, 8, 2}, 1, []int{1, 5})
	nexts(t, "out of another node", g, nil, []int{1, 6, 8, 2}, 2, []int{2})
	nexts(t, "over links that are down", g, without(3, 0, 1), []int{7, 2, 0, 9}, 0, []int{4})
}

// chance makes numbers in no order.
type chance uint32

func (c *chance) below(most int) int {
	*c = *c*1664525 + 1013904223
	return int(*c>>8) % most
}

// net makes some graph, and says which links of it are down.
func (c *chance) net(nodes, links, metrics int) (api.Graph, []bool) {
	g := api.Graph{Nodes: nodes}
	for range links {
		a := c.below(nodes)
		b := (a + 1 + c.below(nodes-1)) % nodes
		g.Links = append(g.Links, api.Link{A: a, B: b, Metric: 1 + c.below(metrics), Colour: c.below(63)})
	}
	down := make([]bool, c.below(links+4))
	for i := range down {
		down[i] = c.below(4) == 0
	}
	return g, down
}

// simple calls f with each way out of at that comes to no node twice: the edges
// of it, where it ends and how long it is.
func simple(g api.Graph, down []bool, at int, f func(way []int, end, length int)) {
	seen := map[int]int{}
	var follow func(way []int, at, length int)
	follow = func(way []int, at, length int) {
		f(way, at, length)
		seen[at] = 1
		for _, edge := range graph.Out(g, at) {
			_, end, _ := graph.Ends(g, edge)
			link := edge / 2
			if seen[end] == 0 && (link >= len(down) || !down[link]) {
				follow(append(slices.Clone(way), edge), end, length+g.Links[link].Metric)
			}
		}
		delete(seen, at)
	}
	follow(nil, at, 0)
}

// The answers are those of all ways there are, looked at one by one.
func TestP701AllWays(t *testing.T) {
	c := chance(1)
	for range 300 {
		g, down := c.net(2+c.below(5), c.below(11), 1+c.below(4))
		for from := range g.Nodes {
			want := slices.Repeat([]int{-1}, g.Nodes)
			first := make([][]int, g.Nodes)
			simple(g, down, from, func(way []int, end, length int) {
				if want[end] < 0 || length < want[end] {
					want[end], first[end] = length, nil
				}
				if length == want[end] && len(way) > 0 {
					first[end] = append(first[end], way[0])
				}
			})
			lengths(t, "some graph", g, down, from, want)
			for to := range g.Nodes {
				slices.Sort(first[to])
				nexts(t, "some graph", g, down, To(g, down, to), from, slices.Compact(first[to]))
			}
		}
	}
}

// In greater graphs each edge that is up is no shorter than what it joins, and
// whichever edges of Next are gone over, the way is as long as From says.
func TestP701Great(t *testing.T) {
	c := chance(2)
	for range 60 {
		g, down := c.net(api.MaxNodes, api.MaxLinks-c.below(60), []int{1, 3, 1000, api.MaxMetric}[c.below(4)])
		to := c.below(g.Nodes)
		far := To(g, down, to)
		for edge := range 2 * len(g.Links) {
			a, b, _ := graph.Ends(g, edge)
			if edge/2 < len(down) && down[edge/2] {
				continue
			}
			if (far[a] < 0) != (far[b] < 0) || far[a] > far[b]+g.Links[edge/2].Metric {
				t.Fatalf("%v: To %d: %v, against edge %d", g, to, far, edge)
			}
		}
		for node := range g.Nodes {
			at, length := node, 0
			for at != to && far[node] >= 0 {
				next := Next(g, down, far, at)
				if len(next) == 0 {
					t.Fatalf("%v: no Next of %d to %d", g, at, to)
				}
				edge := next[c.below(len(next))]
				_, at, _ = graph.Ends(g, edge)
				length += g.Links[edge/2].Metric
			}
			if far[node] >= 0 && length != far[node] {
				t.Fatalf("%v: from %d to %d: %d, not %d", g, node, to, length, far[node])
			}
			if from := From(g, down, node); from[to] != far[node] {
				t.Fatalf("%v: From %d: %d, To: %d", g, node, from[to], far[node])
			}
		}
	}
}

// What is handed in stays as it is, the spare room behind it too.
func TestP702Kept(t *testing.T) {
	linkRoom := slices.Repeat(town().Links, 2)
	downRoom := []bool{false, true, false, false, true, false, false, true, true, false, true, true}
	toRoom := []int{5, 3, 1, 0, 5, -1, -1, 9, -9, 0, 2}
	links, downs, tos := slices.Clone(linkRoom), slices.Clone(downRoom), slices.Clone(toRoom)
	for n := range 10 {
		g := api.Graph{Nodes: 7, Links: linkRoom[:n]}
		for node := -2; node < 9; node++ {
			From(g, downRoom[:n], node)
			To(g, downRoom[:n], node)
			Next(g, downRoom[:n], toRoom[:7], node)
			Next(g, downRoom[:n], toRoom[:n], node)
		}
	}
	if !slices.Equal(linkRoom, links) || !slices.Equal(downRoom, downs) || !slices.Equal(toRoom, tos) {
		t.Errorf("links %v, not %v; down %v, not %v; to %v, not %v", linkRoom, links, downRoom, downs, toRoom, tos)
	}
}

// What is answered is new memory, each time.
func TestP702New(t *testing.T) {
	down := without(9)
	to := []int{5, 3, 1, 0, 5, -1, -1}
	for name, f := range map[string]func() []int{
		"From": func() []int { return From(town(), down, 3) },
		"To":   func() []int { return To(town(), down, 3) },
		"Next": func() []int { return Next(town(), down, to, 4) },
	} {
		first, second := f(), f()
		want := slices.Clone(first)
		spoil(first)
		if len(want) == 0 || !slices.Equal(second, want) || !slices.Equal(f(), want) {
			t.Errorf("%s: %v, and again %v, not %v", name, second, f(), want)
		}
	}
	if want := []int{5, 3, 1, 0, 5, -1, -1}; !slices.Equal(to, want) {
		t.Errorf("to: %v, not %v", to, want)
	}
}

// spoil writes over all of l, its spare room too.
func spoil(l []int) {
	for i := range l[:cap(l)] {
		l[:cap(l)][i] = -99
	}
}

// Nothing is kept from call to call: what was asked ahead does not tell, nor
// what the graph and the links that are down were then.
func TestP702NothingKept(t *testing.T) {
	g, down := town(), without(9)
	for range 3 {
		lengths(t, "as it was", g, down, 0, []int{0, 2, 4, 5, 10, -1, -1})
		nexts(t, "as it was", g, down, []int{0, 2, 4, 5, 10, -1, -1}, 4, []int{9, 10})
		g.Links[7].Metric, down[4] = 1, true
		lengths(t, "turned", g, down, 0, []int{0, 2, 2, 1, 6, -1, -1})
		nexts(t, "turned", g, down, []int{0, 2, 2, 1, 6, -1, -1}, 4, []int{10})
		g.Links[7].Metric, down[4] = 5, false
		lengths(t, "another graph", of(2), down, 0, []int{0, -1})
		lengths(t, "a wrong graph", api.Graph{}, down, 0, nil)
	}
}
