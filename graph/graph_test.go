package graph

import (
	"math"
	"slices"
	"testing"

	"waymark/api"
)

// extremes are numbers that no graph has as a node, a link or an edge.
func extremes() []int {
	return []int{math.MinInt, math.MinInt + 1, math.MinInt32, -1 << 32, -2, -1, 1 << 32, 1<<32 + 1, math.MaxInt32, math.MaxInt - 1, math.MaxInt}
}

// square is four nodes in a ring, one link of it doubled the other way round,
// and a fifth node alone.
func square() api.Graph {
	return api.Graph{Nodes: 5, Links: []api.Link{
		{A: 0, B: 1, Metric: 1, Colour: 0},
		{A: 1, B: 2, Metric: 7, Colour: 3},
		{A: 3, B: 2, Metric: api.MaxMetric, Colour: 62},
		{A: 0, B: 3, Metric: 2, Colour: 1},
		{A: 1, B: 0, Metric: 9, Colour: 2},
	}}
}

// with answers square with its link n turned.
func with(n int, turn func(l *api.Link)) api.Graph {
	g := square()
	turn(&g.Links[n])
	return g
}

// many answers a graph of n links that are the same.
func many(nodes, n int, l api.Link) api.Graph {
	return api.Graph{Nodes: nodes, Links: slices.Repeat([]api.Link{l}, n)}
}

func good() api.Link { return api.Link{A: 0, B: 1, Metric: 1} }

func checks(t *testing.T, name string, g api.Graph, at int, e api.Errno) {
	t.Helper()
	if gotAt, got := Check(g); gotAt != at || got != e {
		t.Errorf("Check of %s: %d, %v, not %d, %v", name, gotAt, got, at, e)
	}
}

func TestP601CheckRight(t *testing.T) {
	checks(t, "one node", api.Graph{Nodes: 1}, -1, api.OK)
	checks(t, "an empty list", api.Graph{Nodes: 1, Links: []api.Link{}}, -1, api.OK)
	checks(t, "the square", square(), -1, api.OK)
	checks(t, "two nodes", many(2, 1, good()), -1, api.OK)
	checks(t, "the last two nodes", many(api.MaxNodes, 1, api.Link{A: 39, B: 38, Metric: 1}), -1, api.OK)
	checks(t, "the most links", many(2, api.MaxLinks, good()), -1, api.OK)
	for nodes := 2; nodes <= api.MaxNodes; nodes++ {
		checks(t, "a link from end to end", many(nodes, 1, api.Link{A: nodes - 1, B: 0, Metric: 1}), -1, api.OK)
	}
	for colour := range 63 {
		checks(t, "a colour", many(2, 1, api.Link{A: 1, B: 0, Metric: 1, Colour: colour}), -1, api.OK)
	}
	for _, metric := range []int{1, 2, 255, 1 << 16, 1<<24 - 1, 1 << 24} {
		checks(t, "a metric", many(2, 1, api.Link{A: 1, B: 0, Metric: metric}), -1, api.OK)
	}
}

func TestP601CheckNodes(t *testing.T) {
	for _, nodes := range append(extremes(), 0, 41, 42, 256+1, 1<<16+1) {
		checks(t, "a number of nodes", api.Graph{Nodes: nodes}, -1, api.ErrArg)
		g := square()
		g.Nodes = nodes
		checks(t, "a number of nodes, and links", g, -1, api.ErrArg)
	}
	checks(t, "nothing", api.Graph{}, -1, api.ErrArg)
}

func TestP601CheckLong(t *testing.T) {
	for _, n := range []int{121, 122, 240, 256 + 1, 1<<16 + 1} {
		checks(t, "many links", many(2, n, good()), -1, api.ErrLong)
	}
}

// isWrong looks at each link of the square in turn, with all others right.
func isWrong(t *testing.T, name string, e api.Errno, turn func(l *api.Link)) {
	t.Helper()
	for n := range square().Links {
		checks(t, name, with(n, turn), n, e)
	}
}

func TestP601CheckLinkNodes(t *testing.T) {
	for _, n := range append(extremes(), 5, 6, 39, 40) {
		isWrong(t, "A that is none", api.ErrNode, func(l *api.Link) { l.A = n })
		isWrong(t, "B that is none", api.ErrNode, func(l *api.Link) { l.B = n })
		isWrong(t, "both that are none", api.ErrNode, func(l *api.Link) { l.A, l.B = n, n })
		isWrong(t, "both that are none, apart", api.ErrNode, func(l *api.Link) { l.A, l.B = n, ^n })
	}
	for n := range 5 {
		isWrong(t, "both that are one", api.ErrNode, func(l *api.Link) { l.A, l.B = n, n })
	}
	for nodes := 1; nodes <= api.MaxNodes; nodes++ {
		checks(t, "A behind the last", many(nodes, 1, api.Link{A: nodes, B: 0, Metric: 1}), 0, api.ErrNode)
		checks(t, "B behind the last", many(nodes, 1, api.Link{A: 0, B: nodes, Metric: 1}), 0, api.ErrNode)
	}
}

func TestP601CheckLinkNumbers(t *testing.T) {
	for _, n := range []int{math.MinInt, math.MinInt32, -1 << 32, -2, -1, 0, 1<<24 + 1, 1<<24 + 2, 1<<32 + 1, math.MaxInt32, math.MaxInt} {
		isWrong(t, "a Metric", api.ErrArg, func(l *api.Link) { l.Metric = n })
	}
	for _, n := range []int{math.MinInt, math.MinInt32, -1 << 32, -2, -1, 63, 64, 256, 1 << 32, math.MaxInt32, math.MaxInt} {
		isWrong(t, "a Colour", api.ErrArg, func(l *api.Link) { l.Colour = n })
	}
	isWrong(t, "both", api.ErrArg, func(l *api.Link) { l.Metric, l.Colour = 0, 63 })
}

// Of what is wrong the first in the promise's order is told.
func TestP601CheckOrder(t *testing.T) {
	checks(t, "too many, and no nodes", many(0, 121, good()), -1, api.ErrLong)
	checks(t, "too many, and too many nodes", many(41, 121, good()), -1, api.ErrLong)
	checks(t, "too many, all wrong", many(2, 121, api.Link{}), -1, api.ErrLong)
	checks(t, "no nodes, and wrong links", many(0, 3, api.Link{A: -1, Metric: -1}), -1, api.ErrArg)
	isWrong(t, "all", api.ErrNode, func(l *api.Link) { *l = api.Link{A: -1, B: -1, Metric: -1, Colour: -1} })
	isWrong(t, "zero", api.ErrNode, func(l *api.Link) { *l = api.Link{} })
	isWrong(t, "B and Metric", api.ErrNode, func(l *api.Link) { l.B, l.Metric = 5, 0 })
	isWrong(t, "both one, and Colour", api.ErrNode, func(l *api.Link) { l.B, l.Colour = l.A, 63 })
}

// The first link that is wrong is told, whatever is wrong with one behind it.
func TestP601CheckFirst(t *testing.T) {
	turns := []struct {
		e    api.Errno
		turn func(l *api.Link)
	}{
		{api.ErrNode, func(l *api.Link) { l.A = -1 }},
		{api.ErrNode, func(l *api.Link) { l.B = l.A }},
		{api.ErrArg, func(l *api.Link) { l.Metric = 0 }},
		{api.ErrArg, func(l *api.Link) { l.Colour = 63 }},
	}
	for first := range square().Links {
		for behind := first + 1; behind < len(square().Links); behind++ {
			for _, x := range turns {
				for _, y := range turns {
					g := with(first, x.turn)
					y.turn(&g.Links[behind])
					checks(t, "two wrong links", g, first, x.e)
				}
			}
		}
	}
	last := many(2, api.MaxLinks, good())
	last.Links[119].Colour = -1
	checks(t, "the last of the most links", last, 119, api.ErrArg)
}

func TestP601Ends(t *testing.T) {
	want := [][2]int{{0, 1}, {1, 0}, {1, 2}, {2, 1}, {3, 2}, {2, 3}, {0, 3}, {3, 0}, {1, 0}, {0, 1}}
	for edge, x := range want {
		if a, b, ok := Ends(square(), edge); a != x[0] || b != x[1] || !ok {
			t.Errorf("Ends of %d: %d, %d, %v, not %v", edge, a, b, ok, x)
		}
	}
	last := many(2, api.MaxLinks, good())
	if a, b, ok := Ends(last, 239); a != 1 || b != 0 || !ok {
		t.Errorf("Ends of the last of the most: %d, %d, %v", a, b, ok)
	}
}

func TestP601EndsOfNone(t *testing.T) {
	for _, g := range []api.Graph{{}, {Nodes: 1}, {Nodes: 2, Links: []api.Link{}}, square(), many(2, api.MaxLinks, good())} {
		n := 2 * len(g.Links)
		for _, edge := range append(extremes(), n, n+1, n+2, n+3) {
			if a, b, ok := Ends(g, edge); a != 0 || b != 0 || ok {
				t.Errorf("Ends of %d of %d: %d, %d, %v", edge, n, a, b, ok)
			}
		}
	}
}

func TestP601Out(t *testing.T) {
	for node, want := range [][]int{{0, 6, 9}, {1, 2, 8}, {3, 5}, {4, 7}, nil} {
		if got := Out(square(), node); !slices.Equal(got, want) {
			t.Errorf("Out of %d: %v, not %v", node, got, want)
		}
	}
	for _, node := range append(extremes(), 5, 6, 10) {
		if got := Out(square(), node); len(got) != 0 {
			t.Errorf("Out of %d: %v", node, got)
		}
	}
	for _, g := range []api.Graph{{}, {Nodes: 3}, {Nodes: 3, Links: []api.Link{}}} {
		for node := range 4 {
			if got := Out(g, node); len(got) != 0 {
				t.Errorf("Out of %d, no links: %v", node, got)
			}
		}
	}
}

// Each edge is in one Out, that of the node from which it leads, and its Back
// leads to where it came from.
func TestP601OutOfAll(t *testing.T) {
	for _, g := range []api.Graph{square(), ring(3), ring(api.MaxNodes), many(2, api.MaxLinks, good())} {
		var all []int
		for node := range g.Nodes {
			out := Out(g, node)
			if !slices.IsSorted(out) {
				t.Errorf("Out of %d: %v", node, out)
			}
			for _, edge := range out {
				from, to, ok := Ends(g, edge)
				backFrom, backTo, backOk := Ends(g, Back(edge))
				if from != node || !ok || backFrom != to || backTo != from || !backOk {
					t.Errorf("Ends of %d: %d, %d, %v, and back: %d, %d, %v", edge, from, to, ok, backFrom, backTo, backOk)
				}
			}
			all = append(all, out...)
		}
		slices.Sort(all)
		for i, edge := range all {
			if i != edge {
				t.Fatalf("the edges in all: %v", all)
			}
		}
		if len(all) != 2*len(g.Links) {
			t.Errorf("%d edges of %d links", len(all), len(g.Links))
		}
	}
}

// ring joins n nodes, each second link the other way round, and each node with
// the one across.
func ring(n int) api.Graph {
	g := api.Graph{Nodes: n}
	for i := range n {
		l := api.Link{A: i, B: (i + 1) % n, Metric: i + 1, Colour: i}
		if i%2 == 1 {
			l.A, l.B = l.B, l.A
		}
		across := api.Link{A: (i + n/2) % n, B: i, Metric: 3}
		g.Links = append(g.Links, l, across)
	}
	return g
}

func TestP601Back(t *testing.T) {
	for link := range api.MaxLinks + 5 {
		if a, b := Back(2*link), Back(2*link+1); a != 2*link+1 || b != 2*link {
			t.Errorf("Back over link %d: %d, %d", link, a, b)
		}
	}
	for edge, want := range map[int]int{
		math.MaxInt:     math.MaxInt - 1,
		math.MaxInt - 1: math.MaxInt,
		1 << 32:         1<<32 + 1,
		1<<32 + 1:       1 << 32,
	} {
		if got := Back(edge); got != want {
			t.Errorf("Back of %d: %d, not %d", edge, got, want)
		}
	}
	for _, edge := range []int{-1, -2, -3, -4, math.MinInt32, -1 << 32, math.MinInt + 1, math.MinInt} {
		if got := Back(edge); got != -1 {
			t.Errorf("Back of %d: %d", edge, got)
		}
	}
}

// Ends and Out read the links as they stand, of a graph that is not Check too.
func TestP601WrongGraph(t *testing.T) {
	g := api.Graph{Nodes: -7, Links: []api.Link{{A: -3, B: math.MaxInt}, {A: 2, B: 2}, {A: math.MaxInt, B: math.MinInt}}}
	for edge, want := range [][2]int{{-3, math.MaxInt}, {math.MaxInt, -3}, {2, 2}, {2, 2}, {math.MaxInt, math.MinInt}, {math.MinInt, math.MaxInt}} {
		if a, b, ok := Ends(g, edge); a != want[0] || b != want[1] || !ok {
			t.Errorf("Ends of %d: %d, %d, %v, not %v", edge, a, b, ok, want)
		}
	}
	for node, want := range map[int][]int{-3: {0}, math.MaxInt: {1, 4}, 2: {2, 3}, math.MinInt: {5}, 0: nil} {
		if got := Out(g, node); !slices.Equal(got, want) {
			t.Errorf("Out of %d: %v, not %v", node, got, want)
		}
	}
	long := many(2, 1000, good())
	if a, b, ok := Ends(long, 1999); a != 1 || b != 0 || !ok {
		t.Errorf("Ends of the last of 1000 links: %d, %d, %v", a, b, ok)
	}
	if got := Out(long, 1); len(got) != 1000 || got[999] != 1999 {
		t.Errorf("Out of 1000 links: %d edges", len(got))
	}
}

// What is handed in stays as it is, the spare room behind it too.
func TestP602Kept(t *testing.T) {
	room := append(square().Links, slices.Repeat([]api.Link{{A: 4, B: 3, Metric: 5, Colour: 6}}, 7)...)
	was := slices.Clone(room)
	for n := range 6 {
		g := api.Graph{Nodes: 5, Links: room[:n]}
		for number := -2; number < 14; number++ {
			Check(g)
			Ends(g, number)
			Out(g, number)
			Back(number)
		}
		if !slices.Equal(room, was) {
			t.Fatalf("the links of %d: %v, not %v", n, room, was)
		}
	}
}

// What is answered is new memory, each time.
func TestP602New(t *testing.T) {
	g := square()
	first, second := Out(g, 1), Out(g, 1)
	for i := range first[:cap(first)] {
		first[:cap(first)][i] = -99
	}
	if want := []int{1, 2, 8}; !slices.Equal(second, want) || !slices.Equal(Out(g, 1), want) {
		t.Errorf("Out: %v, and again %v, not %v", second, Out(g, 1), want)
	}
}

// Nothing is kept from call to call: what was asked of one graph does not tell
// in the answers of another one, nor in those of one whose links were turned.
func TestP602NothingKept(t *testing.T) {
	g := square()
	for range 3 {
		checks(t, "the square", g, -1, api.OK)
		checks(t, "another", many(1, 1, good()), 0, api.ErrNode)
		if got := Out(g, 0); !slices.Equal(got, []int{0, 6, 9}) {
			t.Errorf("Out: %v", got)
		}
		was := g.Links[0]
		g.Links[0] = api.Link{A: 4, B: 0, Metric: 0}
		checks(t, "the square, turned", g, 0, api.ErrArg)
		if got := Out(g, 0); !slices.Equal(got, []int{1, 6, 9}) {
			t.Errorf("Out, turned: %v", got)
		}
		if a, b, ok := Ends(g, 0); a != 4 || b != 0 || !ok {
			t.Errorf("Ends, turned: %d, %d, %v", a, b, ok)
		}
		g.Links[0] = was
	}
}
