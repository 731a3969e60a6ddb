package dag

import (
	"math"
	"slices"
	"sync"
	"testing"

	"waymark/api"
)

// extremes are numbers that no graph has as a node.
func extremes() []int {
	return []int{math.MinInt, math.MinInt + 1, math.MinInt32, -1 << 32, -2, -1, 40, 41, 1 << 32, 1<<32 + 1, math.MaxInt32, math.MaxInt - 1, math.MaxInt}
}

// of makes a graph of links that are from, to, metric.
func of(nodes int, links ...[3]int) api.Graph {
	g := api.Graph{Nodes: nodes}
	for i, l := range links {
		g.Links = append(g.Links, api.Link{A: l[0], B: l[1], Metric: l[2], Colour: i % 63})
	}
	return g
}

// town is a graph in which the way of the fewest links is not the shortest one,
// several ways are as short, some of them of more links than others, two links
// are beside each other (4 and 5, and 0 as 6 turned round), and the nodes 5 and
// 6 are apart from the others.
func town() api.Graph {
	return of(7,
		[3]int{0, 1, 2},
		[3]int{1, 2, 2},
		[3]int{0, 2, 9},
		[3]int{2, 3, 1},
		[3]int{3, 4, 5},
		[3]int{4, 3, 5},
		[3]int{1, 0, 2},
		[3]int{0, 3, 5},
		[3]int{6, 5, 3},
	)
}

// without says of n links that those of l are down.
func without(n int, l ...int) []bool {
	down := make([]bool, n)
	for _, link := range l {
		down[link] = true
	}
	return down
}

// answer is what the three calls tell.
type answer struct {
	count, fewest, most int
	ok                  bool
	uses                []int
}

func (a answer) is(b answer) bool {
	return a.count == b.count && a.fewest == b.fewest && a.most == b.most && a.ok == b.ok && slices.Equal(a.uses, b.uses)
}

// some is the answer of some ways.
func some(count, fewest, most int, uses ...int) answer {
	return answer{count, fewest, most, true, uses}
}

func ask(g api.Graph, down []bool, from, to int) answer {
	a := answer{count: Count(g, down, from, to), uses: Uses(g, down, from, to)}
	a.fewest, a.most, a.ok = Hops(g, down, from, to)
	return a
}

func leads(t *testing.T, name string, g api.Graph, down []bool, from, to int, want answer) {
	t.Helper()
	if got := ask(g, down, from, to); !got.is(want) {
		t.Errorf("%s: from %d to %d: %v, not %v", name, from, to, got, want)
	}
}

// turned is the answer of the ways the other way round.
func (a answer) turned() answer {
	a.uses = slices.Clone(a.uses)
	for i := range a.uses {
		a.uses[i] ^= 1
	}
	slices.Sort(a.uses)
	return a
}

// both looks at the ways from node to node and back.
func both(t *testing.T, name string, g api.Graph, down []bool, from, to int, want answer) {
	t.Helper()
	leads(t, name, g, down, from, to, want)
	leads(t, name+", back", g, down, to, from, want.turned())
}

func isTown(t *testing.T, name string, down []bool) {
	t.Helper()
	for node := range 7 {
		leads(t, name, town(), down, node, node, some(1, 0, 0))
		if node < 5 {
			both(t, name, town(), down, node, 5, answer{})
			both(t, name, town(), down, node, 6, answer{})
		}
	}
	both(t, name, town(), down, 0, 1, some(2, 1, 1, 0, 13))
	both(t, name, town(), down, 0, 2, some(2, 2, 2, 0, 2, 13))
	both(t, name, town(), down, 0, 3, some(3, 1, 3, 0, 2, 6, 13, 14))
	both(t, name, town(), down, 0, 4, some(6, 2, 4, 0, 2, 6, 8, 11, 13, 14))
	both(t, name, town(), down, 1, 2, some(1, 1, 1, 2))
	both(t, name, town(), down, 1, 3, some(1, 2, 2, 2, 6))
	both(t, name, town(), down, 1, 4, some(2, 3, 3, 2, 6, 8, 11))
	both(t, name, town(), down, 2, 3, some(1, 1, 1, 6))
	both(t, name, town(), down, 2, 4, some(2, 2, 2, 6, 8, 11))
	both(t, name, town(), down, 3, 4, some(2, 1, 1, 8, 11))
	both(t, name, town(), down, 5, 6, some(1, 1, 1, 17))
}

func TestP1001Town(t *testing.T) {
	isTown(t, "town", nil)
	isTown(t, "town, an empty list", []bool{})
	isTown(t, "town, no links down", without(9))
}

func TestP1001NoLinks(t *testing.T) {
	leads(t, "one node", of(1), nil, 0, 0, some(1, 0, 0))
	leads(t, "one node, links down", of(1), without(3, 0, 1, 2), 0, 0, some(1, 0, 0))
	for _, g := range []api.Graph{of(4), {Nodes: 4, Links: []api.Link{}}, of(api.MaxNodes)} {
		for from := range g.Nodes {
			for to := range g.Nodes {
				want := answer{}
				if from == to {
					want = some(1, 0, 0)
				}
				leads(t, "no links", g, nil, from, to, want)
			}
		}
	}
}

func TestP1001Down(t *testing.T) {
	const n = 9
	for _, x := range []struct {
		name string
		down []bool
		want answer
	}{
		{"one of two beside each other", without(n, 4), some(3, 2, 4, 0, 2, 6, 11, 13, 14)},
		{"both", without(n, 4, 5), answer{}},
		{"one turned round", without(n, 0), some(4, 2, 4, 2, 6, 8, 11, 13, 14)},
		{"both ways to 1", without(n, 0, 6), some(2, 2, 2, 8, 11, 14)},
		{"the ways over 2", without(n, 1), some(2, 2, 2, 8, 11, 14)},
		{"the way of fewest links", without(n, 7), some(4, 4, 4, 0, 2, 6, 8, 11, 13)},
		{"all but the long one", without(n, 0, 1, 6, 7), some(2, 3, 3, 4, 6, 8, 11)},
		{"one that no way has", without(n, 2, 8), some(6, 2, 4, 0, 2, 6, 8, 11, 13, 14)},
		{"all", without(n, 0, 1, 2, 3, 4, 5, 6, 7, 8), answer{}},
		{"those that there are", []bool{true}, some(4, 2, 4, 2, 6, 8, 11, 13, 14)},
		{"up to the last that is", without(8, 7), some(4, 4, 4, 0, 2, 6, 8, 11, 13)},
		{"more than there are", without(n+5, 4, 5, 9, 13), answer{}},
		{"those that are not there alone", without(300, 9, 10, 256, 299), some(6, 2, 4, 0, 2, 6, 8, 11, 13, 14)},
	} {
		both(t, x.name, town(), x.down, 0, 4, x.want)
		leads(t, x.name, town(), x.down, 0, 0, some(1, 0, 0))
	}
}

// Edges that are on a shortest way to where it is asked for, but not from where,
// are none of it.
func TestP1001UsesAside(t *testing.T) {
	star := of(5, [3]int{1, 0, 1}, [3]int{2, 1, 1}, [3]int{3, 1, 1}, [3]int{4, 3, 1}, [3]int{2, 4, 2})
	leads(t, "star", star, nil, 2, 0, some(1, 2, 2, 0, 2))
	leads(t, "star", star, nil, 3, 0, some(1, 2, 2, 0, 4))
	leads(t, "star", star, nil, 4, 0, some(1, 3, 3, 0, 4, 6))
	leads(t, "star", star, nil, 2, 4, some(1, 1, 1, 8))
	leads(t, "star", star, without(5, 4), 2, 4, some(1, 3, 3, 2, 5, 7))
}

// ladder has ways[i] links beside each other from node i to the next one.
func ladder(metric int, ways ...int) api.Graph {
	g := api.Graph{Nodes: len(ways) + 1}
	for i, n := range ways {
		for range n {
			g.Links = append(g.Links, api.Link{A: i, B: i + 1, Metric: metric})
		}
	}
	return g
}

// edges are the even numbers, of which there are as many as links.
func edges(links int) []int {
	var l []int
	for link := range links {
		l = append(l, 2*link)
	}
	return l
}

func TestP1001Many(t *testing.T) {
	for _, x := range []struct {
		name  string
		ways  []int
		count int
	}{
		{"one way", slices.Repeat([]int{1}, 39), 1},
		{"one stretch", []int{120}, 120},
		{"2 to the 39", slices.Repeat([]int{2}, 39), 1 << 39},
		{"2 to the 40", append(slices.Repeat([]int{2}, 38), 4), 1 << 40},
		{"2 to the 40, the other way round", append([]int{4}, slices.Repeat([]int{2}, 38)...), 1 << 40},
		{"above 2 to the 40", append(slices.Repeat([]int{2}, 38), 5), 1 << 40},
		{"3 to the 25", slices.Repeat([]int{3}, 25), 847288609443},
		{"3 to the 25, and one", append(slices.Repeat([]int{3}, 25), 1), 847288609443},
		{"3 to the 26", slices.Repeat([]int{3}, 26), 1 << 40},
		{"2 to the 60", slices.Repeat([]int{4}, 30), 1 << 40},
		{"3 to the 39", slices.Repeat([]int{3}, 39), 1 << 40},
		{"above 2 to the 63", append(slices.Repeat([]int{3}, 36), 4, 4, 4), 1 << 40},
		{"above 2 to the 63, few ahead", append([]int{4, 4, 4}, slices.Repeat([]int{3}, 36)...), 1 << 40},
	} {
		for _, metric := range []int{1, api.MaxMetric} {
			g := ladder(metric, x.ways...)
			n := len(x.ways)
			both(t, x.name, g, nil, 0, n, some(x.count, n, n, edges(len(g.Links))...))
		}
	}
}

// In fan there are 2^40 - 1 ways, and over more, from node 0 to node 39: a link
// leads there from each node on the line, which is come to in 4, 8, 16, .. ways,
// and from node 0 there are 3 + over.
func fan(over int) api.Graph {
	g := ladder(1, append([]int{4}, slices.Repeat([]int{2}, 37)...)...)
	g.Nodes = api.MaxNodes
	for node := range 39 {
		g.Links = append(g.Links, api.Link{A: 39, B: node, Metric: 100 - node})
	}
	for range 2 + over {
		g.Links = append(g.Links, api.Link{A: 0, B: 39, Metric: 100})
	}
	return g
}

func TestP1001ManySum(t *testing.T) {
	less := fan(-2)
	if got := Count(less, nil, 0, 39); got != 1<<40-3 {
		t.Errorf("Count of 2^40 - 3: %d", got)
	}
	if got := Count(fan(0), nil, 0, 39); got != 1<<40-1 {
		t.Errorf("Count of 2^40 - 1: %d", got)
	}
	full := fan(1)
	if len(full.Links) != api.MaxLinks {
		t.Fatalf("the fan has %d links", len(full.Links))
	}
	for _, x := range [][2]int{{0, 39}, {39, 0}} {
		if got := Count(full, nil, x[0], x[1]); got != 1<<40 {
			t.Errorf("Count of 2^40: %d", got)
		}
		if got := Count(full, without(120, 119), x[0], x[1]); got != 1<<40-1 {
			t.Errorf("Count without the last one: %d", got)
		}
		if few, many, ok := Hops(full, nil, x[0], x[1]); few != 1 || many != 39 || !ok {
			t.Errorf("Hops of the fan: %d, %d, %v", few, many, ok)
		}
		if got := Uses(full, nil, x[0], x[1]); len(got) != api.MaxLinks {
			t.Errorf("Uses of the fan: %v", got)
		}
	}
}

// The fewest and the most edges, of a line of 40 nodes with a short cut that is
// as long.
func TestP1001HopsApart(t *testing.T) {
	line := ladder(7, slices.Repeat([]int{1}, 39)...)
	for to := 2; to < api.MaxNodes; to++ {
		g := api.Graph{Nodes: line.Nodes, Links: append(slices.Clone(line.Links), api.Link{A: to, B: 0, Metric: 7 * to})}
		all := append(edges(to), 79)
		both(t, "a short cut", g, nil, 0, to, some(2, 1, to, all...))
		g.Links[39].Metric++
		both(t, "one that is too long", g, nil, 0, to, some(1, to, to, edges(to)...))
		g.Links[39].Metric -= 2
		both(t, "one that is shorter", g, nil, 0, to, some(1, 1, 1, 79))
	}
}

func TestP1001WrongNode(t *testing.T) {
	for _, wrong := range append(extremes(), 7, 8, 14) {
		leads(t, "from and to no node", town(), nil, wrong, wrong, answer{})
		for node := range town().Nodes {
			both(t, "no such node", town(), nil, wrong, node, answer{})
			both(t, "no such node, links down", town(), without(9, 1), wrong, node, answer{})
		}
	}
	for nodes := 1; nodes <= api.MaxNodes; nodes++ {
		leads(t, "the last node", of(nodes), nil, nodes-1, nodes-1, some(1, 0, 0))
		leads(t, "behind the last node", of(nodes), nil, nodes, nodes, answer{})
		both(t, "behind the last node", of(nodes), nil, nodes, nodes-1, answer{})
	}
}

func TestP1001WrongGraph(t *testing.T) {
	good := api.Link{A: 0, B: 1, Metric: 1}
	with := func(l api.Link) api.Graph { return api.Graph{Nodes: 3, Links: []api.Link{good, l}} }
	for name, g := range map[string]api.Graph{
		"nothing":         {},
		"no nodes":        {Nodes: 0, Links: []api.Link{good}},
		"nodes below 0":   {Nodes: -1},
		"least nodes":     {Nodes: math.MinInt},
		"too many nodes":  {Nodes: api.MaxNodes + 1, Links: []api.Link{good}},
		"most nodes":      {Nodes: math.MaxInt},
		"too many links":  {Nodes: 3, Links: slices.Repeat([]api.Link{good}, api.MaxLinks+1)},
		"A is no node":    with(api.Link{A: 3, B: 1, Metric: 1}),
		"A is below 0":    with(api.Link{A: -1, B: 1, Metric: 1}),
		"B is no node":    with(api.Link{A: 0, B: 3, Metric: 1}),
		"B is below 0":    with(api.Link{A: 0, B: math.MinInt, Metric: 1}),
		"both are one":    with(api.Link{A: 1, B: 1, Metric: 1}),
		"no Metric":       with(api.Link{A: 0, B: 1}),
		"Metric below 0":  with(api.Link{A: 0, B: 1, Metric: -1}),
		"a great Metric":  with(api.Link{A: 0, B: 1, Metric: api.MaxMetric + 1}),
		"Colour below 0":  with(api.Link{A: 0, B: 1, Metric: 1, Colour: -1}),
		"a great Colour":  with(api.Link{A: 0, B: 1, Metric: 1, Colour: 63}),
		"the first wrong": {Nodes: 3, Links: []api.Link{{}, good}},
	} {
		for _, down := range [][]bool{nil, without(2), {true, true}, {false, true}} {
			for _, from := range append(extremes(), 0, 1, 2, 3) {
				for _, to := range append(extremes(), 0, 1, 2, 3) {
					leads(t, name, g, down, from, to, answer{})
				}
			}
		}
	}
}

// chance makes numbers in no order.
type chance uint32

func (c *chance) below(most int) int {
	*c = *c*1664525 + 1013904223
	return int(*c>>8) % most
}

// net makes some graph, and says which links of it are down.
func (c *chance) net(nodes, links, metrics int) (api.Graph, []bool) {
	g := api.Graph{Nodes: nodes}
	for range links {
		a := c.below(nodes)
		b := (a + 1 + c.below(nodes-1)) % nodes
		g.Links = append(g.Links, api.Link{A: a, B: b, Metric: 1 + c.below(metrics), Colour: c.below(63)})
	}
	down := make([]bool, c.below(links+4))
	for i := range down {
		down[i] = c.below(5) == 0
	}
	return g, down
}

// simple calls f with each way out of the node that comes to no node twice: its
// edges, where it ends and how long it is.
func simple(g api.Graph, down []bool, from int, f func(way []int, end, length int)) {
	seen := make([]bool, g.Nodes)
	var follow func(way []int, at, length int)
	follow = func(way []int, at, length int) {
		f(way, at, length)
		seen[at] = true
		for i, l := range g.Links {
			if i < len(down) && down[i] {
				continue
			}
			if l.A == at && !seen[l.B] {
				follow(append(way, 2*i), l.B, length+l.Metric)
			}
			if l.B == at && !seen[l.A] {
				follow(append(way, 2*i+1), l.A, length+l.Metric)
			}
		}
		seen[at] = false
	}
	follow(nil, from, 0)
}

// byWays makes the answers from a node to each one of all ways there are, looked
// at one by one.
func byWays(g api.Graph, down []bool, from int) []answer {
	all, best := make([]answer, g.Nodes), make([]int, g.Nodes)
	simple(g, down, from, func(way []int, end, length int) {
		a := &all[end]
		if !a.ok || length < best[end] {
			*a, best[end] = answer{fewest: len(way), most: len(way), ok: true}, length
		}
		if length == best[end] {
			a.count++
			a.fewest, a.most = min(a.fewest, len(way)), max(a.most, len(way))
			a.uses = append(a.uses, way...)
		}
	})
	for i := range all {
		slices.Sort(all[i].uses)
		all[i].uses = slices.Compact(all[i].uses)
	}
	return all
}

func TestP1001AllWays(t *testing.T) {
	c := chance(7)
	for range 300 {
		g, down := c.net(2+c.below(6), c.below(13), 1+c.below(4))
		for from := range g.Nodes {
			for to, want := range byWays(g, down, from) {
				leads(t, "some graph", g, down, from, to, want)
			}
		}
	}
}

// What is handed in stays as it is, the spare room behind it too.
func TestP1002Kept(t *testing.T) {
	links := slices.Repeat(town().Links, 2)
	down := append(without(9, 4, 6), true, false, true)
	wereLinks, wereDown := slices.Clone(links), slices.Clone(down)
	for n := range 10 {
		g := api.Graph{Nodes: 7, Links: links[:n]}
		for from := -1; from < 8; from++ {
			for to := -1; to < 8; to++ {
				ask(g, down[:n], from, to)
			}
		}
		if !slices.Equal(links, wereLinks) || !slices.Equal(down, wereDown) {
			t.Fatalf("%d links: %v without %v", n, links, down)
		}
	}
}

// What is answered is new memory, each time.
func TestP1002New(t *testing.T) {
	want := some(6, 2, 4, 0, 2, 6, 8, 11, 13, 14)
	first, second := Uses(town(), nil, 0, 4), Uses(town(), nil, 0, 4)
	for i := range first[:cap(first)] {
		first[:cap(first)][i] = -99
	}
	if !slices.Equal(second, want.uses) {
		t.Errorf("Uses, asked ahead: %v", second)
	}
	leads(t, "again", town(), nil, 0, 4, want)
}

// Nothing is kept from call to call: what was asked ahead does not tell, nor
// what the graph and the links that are down were then.
func TestP1002NothingKept(t *testing.T) {
	g, down := town(), without(9)
	for range 3 {
		leads(t, "as it was", g, down, 0, 4, some(6, 2, 4, 0, 2, 6, 8, 11, 13, 14))
		g.Links[7].Metric, down[4] = 1, true
		leads(t, "turned", g, down, 0, 4, some(1, 2, 2, 11, 14))
		g.Links[7].Metric, down[4] = 5, false
		leads(t, "another graph", of(5, [3]int{4, 0, 1}), down, 0, 4, some(1, 1, 1, 1))
		leads(t, "a wrong graph", api.Graph{}, down, 0, 4, answer{})
	}
}

// Answers are the same by how many they are asked for at once.
func TestP1002ManyAsk(t *testing.T) {
	var all sync.WaitGroup
	for range 8 {
		all.Go(func() { isTown(t, "asked at once", nil) })
	}
	all.Wait()
}
