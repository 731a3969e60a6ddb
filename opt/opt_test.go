package opt

import (
	"math"
	"slices"
	"testing"

	"waymark/api"
)

// chance makes numbers, the same ones each time.
type chance uint32

func (c *chance) below(most int) int {
	*c = *c*1664525 + 1013904223
	return int(*c>>9) % most
}

// extremes are numbers that no graph has as a node, an edge or a number of
// points.
func extremes() []int {
	return []int{math.MinInt, math.MinInt + 1, math.MinInt32, -1 << 32, -2, -1, 1 << 32, 1<<32 + 1, math.MaxInt32, math.MaxInt - 1, math.MaxInt}
}

// kite has two ways of length 2 from 0 to 3, a link of length 2 there, too,
// a tail from 3 to 5 of which one link is doubled, and node 6 alone.
//
//	  1
//	 / \
//	0---3---4===5   6
//	 \ /
//	  2
func kite() api.Graph {
	return api.Graph{Nodes: 7, Links: []api.Link{
		{A: 0, B: 1, Metric: 1, Colour: 1},
		{A: 3, B: 1, Metric: 1, Colour: 2},
		{A: 0, B: 2, Metric: 1, Colour: 3},
		{A: 2, B: 3, Metric: 1, Colour: 62},
		{A: 0, B: 3, Metric: 2, Colour: 5},
		{A: 3, B: 4, Metric: 7, Colour: 6},
		{A: 4, B: 5, Metric: 4, Colour: 7},
		{A: 5, B: 4, Metric: 5, Colour: 8},
	}}
}

// line is a row of nodes, each joined to the next one.
func line(nodes, metric int) api.Graph {
	g := api.Graph{Nodes: nodes}
	for i := range nodes - 1 {
		g.Links = append(g.Links, api.Link{A: i, B: i + 1, Metric: metric})
	}
	return g
}

func costs(t *testing.T, name string, g api.Graph, w api.Want, down []bool, cost int, e api.Errno) {
	t.Helper()
	if got, why := Cost(g, w, down); got != cost || why != e {
		t.Errorf("%s: Cost of %v, %v down: %d, %v, not %d, %v", name, w, down, got, why, cost, e)
	}
}

func steps(t *testing.T, name string, g api.Graph, w api.Want, down []bool, at [2]int, edge int, to [2]int) {
	t.Helper()
	if got, ok := Step(g, w, down, at, edge); got != to || !ok {
		t.Errorf("%s: Step of %v from %v by %d: %v, %v, not %v", name, w, at, edge, got, ok, to)
	}
}

func stays(t *testing.T, name string, g api.Graph, w api.Want, down []bool, at [2]int, edge int) {
	t.Helper()
	if got, ok := Step(g, w, down, at, edge); got != [2]int{} || ok {
		t.Errorf("%s: Step of %v from %v by %d: %v, %v, not none", name, w, at, edge, got, ok)
	}
}

func has(t *testing.T, name string, g api.Graph, w api.Want, down []bool, want bool, edges ...int) {
	t.Helper()
	if got := Has(g, w, down, edges); got != want {
		t.Errorf("%s: Has of %v, %v: %v", name, w, edges, got)
	}
}

func TestP1501CostOfWays(t *testing.T) {
	for _, x := range []struct {
		name string
		w    api.Want
		cost int
	}{
		{"a node to itself", api.Want{}, 0},
		{"a node alone to itself", api.Want{From: 6, To: 6, Via: []int{6, 6, 6, 6}}, 0},
		{"one link", api.Want{To: 1}, 1},
		{"there", api.Want{To: 5}, 13},
		{"back", api.Want{From: 5}, 13},
		{"over points on the way", api.Want{To: 5, Via: []int{1, 3, 4}}, 13},
		{"over one beside it", api.Want{To: 1, Via: []int{2}}, 3},
		{"in another order", api.Want{To: 5, Via: []int{4, 1}}, 9 + 8 + 12},
		{"there and back", api.Want{Via: []int{5}}, 26},
		{"points twice", api.Want{From: 0, To: 5, Via: []int{0, 4, 4, 5}}, 13},
		{"to and fro", api.Want{From: 1, To: 1, Via: []int{0, 1, 0}}, 4},
	} {
		costs(t, x.name, kite(), x.w, nil, x.cost, api.OK)
	}
}

func TestP1501CostOfLinksTaken(t *testing.T) {
	down := []bool{true, false, true, false, true, false, false, false}
	costs(t, "down", kite(), api.Want{From: 4, To: 5}, []bool{6: true}, 5, api.OK)
	costs(t, "down behind the links", kite(), api.Want{To: 5}, []bool{8: true, 9: true, 200: true}, 13, api.OK)
	costs(t, "a short list", kite(), api.Want{To: 3}, []bool{true}, 2, api.OK)
	costs(t, "all down around 0", kite(), api.Want{To: 3}, down, 0, api.ErrNoWay)
	costs(t, "all down around 0, from elsewhere", kite(), api.Want{From: 1, To: 5}, down, 12, api.OK)
	costs(t, "without a link", kite(), api.Want{To: 5, Links: []int{6}}, nil, 14, api.OK)
	costs(t, "without a colour", kite(), api.Want{To: 5, Colours: []int{7}}, nil, 14, api.OK)
	costs(t, "without nodes", kite(), api.Want{To: 5, Nodes: []int{1, 2}}, nil, 13, api.OK)
	costs(t, "without all of these", kite(), api.Want{To: 3, Nodes: []int{1}, Links: []int{4}, Colours: []int{62}}, nil, 0, api.ErrNoWay)
	costs(t, "each by another one", kite(), api.Want{From: 2, To: 1, Links: []int{1}, Colours: []int{3}}, nil, 4, api.OK)
	costs(t, "an end that is gone without", kite(), api.Want{To: 3, Nodes: []int{3}}, nil, 0, api.ErrNoWay)
	costs(t, "From and To gone without", kite(), api.Want{From: 3, To: 3, Nodes: []int{3}}, nil, 0, api.OK)
	costs(t, "a point gone without", kite(), api.Want{To: 3, Via: []int{1}, Nodes: []int{1}}, nil, 0, api.ErrNoWay)
}

func TestP1501CostNoWay(t *testing.T) {
	for _, w := range []api.Want{
		{To: 6},
		{From: 6},
		{To: 5, Via: []int{6}},
		{Via: []int{6}},
		{From: 6, To: 6, Via: []int{6, 6, 0, 6}},
		{To: 6, Via: []int{1, 2, 3, 4}},
		{To: 6, Bound: math.MaxInt},
		{To: 6, Bound: 1},
	} {
		costs(t, "no way", kite(), w, nil, 0, api.ErrNoWay)
	}
	costs(t, "no links", api.Graph{Nodes: 2}, api.Want{To: 1}, nil, 0, api.ErrNoWay)
}

// What is held against the Bound is the sum.
func TestP1501CostBound(t *testing.T) {
	for _, x := range []struct {
		w   api.Want
		sum int
	}{
		{api.Want{To: 5}, 13},
		{api.Want{To: 5, Via: []int{3}}, 13},
		{api.Want{To: 0, Via: []int{5}}, 26},
		{api.Want{To: 1, Via: []int{2, 1, 2}}, 2 + 2 + 2 + 1},
	} {
		for bound, e := range map[int]api.Errno{0: api.OK, 1: api.ErrNoWay, x.sum - 1: api.ErrNoWay, x.sum: api.OK, x.sum + 1: api.OK, math.MaxInt: api.OK, -1: api.ErrArg, math.MinInt: api.ErrArg} {
			x.w.Bound = bound
			want := x.sum
			if e != api.OK {
				want = 0
			}
			costs(t, "Bound", kite(), x.w, nil, want, e)
		}
	}
	costs(t, "nothing to go", kite(), api.Want{Bound: 1}, nil, 0, api.OK)
}

func TestP1501CostOfTheMost(t *testing.T) {
	long := line(api.MaxNodes, api.MaxMetric)
	sum := 5 * 39 * api.MaxMetric
	w := api.Want{To: 39, Via: []int{39, 0, 39, 0}, Bound: sum}
	costs(t, "the longest", long, w, nil, sum, api.OK)
	w.Bound--
	costs(t, "the longest", long, w, nil, 0, api.ErrNoWay)
	many := api.Graph{Nodes: api.MaxNodes}
	for i := range api.MaxLinks {
		many.Links = append(many.Links, api.Link{A: i % 40, B: (i + 1 + i/40*5) % 40, Metric: 1 + i%9, Colour: i % 63})
	}
	w = api.Want{From: 3, To: 17, Via: []int{39, 1, 20, 1}}
	costs(t, "the most links", many, w, nil, sumOf(many, w, nil), api.OK)
}

// wrongGraphs are graphs that can't be, with what graph.Check tells of them.
func wrongGraphs() map[api.Errno][]api.Graph {
	good := api.Link{A: 0, B: 1, Metric: 1}
	return map[api.Errno][]api.Graph{
		api.ErrLong: {{Nodes: 2, Links: slices.Repeat([]api.Link{good}, 121)}, {Links: slices.Repeat([]api.Link{good}, 500)}},
		api.ErrArg: {
			{}, {Nodes: -1}, {Nodes: 41}, {Nodes: math.MaxInt}, {Nodes: math.MinInt},
			{Nodes: 2, Links: []api.Link{good, {A: 0, B: 1}}},
			{Nodes: 2, Links: []api.Link{good, {A: 0, B: 1, Metric: api.MaxMetric + 1}}},
			{Nodes: 2, Links: []api.Link{good, {A: 0, B: 1, Metric: 1, Colour: 63}}},
		},
		api.ErrNode: {
			{Nodes: 2, Links: []api.Link{good, {A: 0, B: 2, Metric: 1}}},
			{Nodes: 2, Links: []api.Link{good, {A: -1, B: 1, Metric: 1}}},
			{Nodes: 2, Links: []api.Link{good, {A: 1, B: 1, Metric: 1}}},
		},
	}
}

// wrongWants are wants that kite can't have.
func wrongWants() map[api.Errno][]api.Want {
	m := map[api.Errno][]api.Want{
		api.ErrNode: {{From: 7}, {To: 7}, {Via: []int{1, 7}}, {Nodes: []int{7}}, {Via: []int{0, 0, 0, 0, 7}}, {To: 7, Bound: -1, Links: []int{8}}},
		api.ErrLink: {{Links: []int{0, 8}}, {Links: []int{-1}}, {Links: []int{8}, Bound: -1, Colours: []int{63}, Via: make([]int, 5)}, {To: 6, Links: []int{8}}},
		api.ErrArg:  {{Colours: []int{63}}, {Colours: []int{-1}}, {Bound: -1}, {Bound: -1, Via: make([]int, 5)}, {To: 6, Bound: -1}},
		api.ErrLong: {{Via: make([]int, 5)}, {Via: make([]int, 1000)}, {To: 6, Via: make([]int, 5)}, {Bound: 1, Via: []int{1, 2, 1, 2, 1}}},
	}
	for _, n := range extremes() {
		m[api.ErrNode] = append(m[api.ErrNode], api.Want{From: n}, api.Want{To: n}, api.Want{Via: []int{n}}, api.Want{Nodes: []int{n}}, api.Want{From: n, To: n})
		m[api.ErrLink] = append(m[api.ErrLink], api.Want{Links: []int{n}})
		m[api.ErrArg] = append(m[api.ErrArg], api.Want{Colours: []int{n}})
	}
	return m
}

// refused looks at what is told where Cost tells an error: nothing leads
// anywhere.
func refused(t *testing.T, name string, g api.Graph, w api.Want, down []bool, e api.Errno) {
	t.Helper()
	costs(t, name, g, w, down, 0, e)
	has(t, name, g, w, down, false)
	for node := range 7 {
		for number := range 4 {
			for edge := range 16 {
				stays(t, name, g, w, down, [2]int{node, number}, edge)
			}
		}
	}
	for edge := range 16 {
		has(t, name, g, w, down, false, edge)
	}
}

func TestP1501WrongGraphs(t *testing.T) {
	for e, l := range wrongGraphs() {
		for _, g := range l {
			for _, w := range []api.Want{{}, {To: 1}, {From: -1}, {Links: []int{999}}, {Bound: -1}, {Via: make([]int, 5)}} {
				for _, down := range [][]bool{nil, {true, true, true}} {
					refused(t, "a wrong graph", g, w, down, e)
				}
			}
		}
	}
}

func TestP1501WrongWants(t *testing.T) {
	for e, l := range wrongWants() {
		for _, w := range l {
			refused(t, "a wrong want", kite(), w, nil, e)
			refused(t, "a wrong want, all down", kite(), w, slices.Repeat([]bool{true}, 9), e)
		}
	}
}

// Where there is no way, or none within the Bound, no edge is a Step's, those
// to points that can be come to neither.
func TestP1501StepNoWay(t *testing.T) {
	refused(t, "no way", kite(), api.Want{To: 6}, nil, api.ErrNoWay)
	refused(t, "no way behind a point", kite(), api.Want{To: 6, Via: []int{1}}, nil, api.ErrNoWay)
	refused(t, "no way ahead of a point", kite(), api.Want{From: 6, To: 1, Via: []int{0}}, nil, api.ErrNoWay)
	refused(t, "none within the Bound", kite(), api.Want{To: 3, Bound: 1}, nil, api.ErrNoWay)
	refused(t, "none within the Bound, to and fro", kite(), api.Want{Via: []int{1}, Bound: 1}, nil, api.ErrNoWay)
	refused(t, "what is gone without", kite(), api.Want{To: 5, Colours: []int{7, 8}}, nil, api.ErrNoWay)
	refused(t, "down", kite(), api.Want{To: 5}, []bool{6: true, 7: true}, api.ErrNoWay)
}

// stateAt tells a start or a goal.
type stateAt struct {
	w           api.Want
	start, goal [2]int
}

func states() []stateAt {
	return []stateAt{
		{api.Want{}, [2]int{0, 1}, [2]int{0, 1}},
		{api.Want{To: 1}, [2]int{0, 0}, [2]int{1, 1}},
		{api.Want{From: 4, To: 2}, [2]int{4, 0}, [2]int{2, 1}},
		{api.Want{Via: []int{1}}, [2]int{0, 0}, [2]int{0, 2}},
		{api.Want{To: 5, Via: []int{1, 2}}, [2]int{0, 0}, [2]int{5, 3}},
		{api.Want{To: 5, Via: []int{0, 2}}, [2]int{0, 1}, [2]int{5, 3}},
		{api.Want{To: 5, Via: []int{0, 0}}, [2]int{0, 2}, [2]int{5, 3}},
		{api.Want{To: 5, Via: []int{2, 0}}, [2]int{0, 0}, [2]int{5, 3}},
		{api.Want{Via: []int{0, 2}}, [2]int{0, 1}, [2]int{0, 3}},
		{api.Want{Via: []int{0, 0, 0, 0}}, [2]int{0, 5}, [2]int{0, 5}},
		{api.Want{From: 2, To: 1, Via: []int{2, 2, 2, 2}}, [2]int{2, 4}, [2]int{1, 5}},
		// Neither asks of a graph, nor whether the want can be.
		{api.Want{From: -1, To: 99}, [2]int{-1, 0}, [2]int{99, 1}},
		{api.Want{From: math.MinInt, To: math.MinInt, Via: []int{math.MinInt}}, [2]int{math.MinInt, 2}, [2]int{math.MinInt, 2}},
		{api.Want{From: math.MaxInt, To: math.MinInt, Via: make([]int, 99)}, [2]int{math.MaxInt, 0}, [2]int{math.MinInt, 100}},
		{api.Want{To: 3, Via: make([]int, 99999)}, [2]int{0, 99999}, [2]int{3, 100000}},
		{api.Want{To: 0, Via: make([]int, 99999)}, [2]int{0, 100000}, [2]int{0, 100000}},
		// What is gone without, and the Bound, are nothing to them.
		{api.Want{To: 1, Nodes: []int{0, 1}, Links: []int{0}, Colours: []int{1}, Bound: 1}, [2]int{0, 0}, [2]int{1, 1}},
	}
}

func TestP1501StartGoal(t *testing.T) {
	for _, x := range states() {
		if got := Start(x.w); got != x.start {
			t.Errorf("Start from %d to %d: %v, not %v", x.w.From, x.w.To, got, x.start)
		}
		if got := Goal(x.w); got != x.goal {
			t.Errorf("Goal from %d to %d: %v, not %v", x.w.From, x.w.To, got, x.goal)
		}
	}
}

func TestP1501StepOnWays(t *testing.T) {
	g := kite()
	w := api.Want{To: 5}
	for edge, node := range map[int]int{0: 1, 4: 2, 8: 3} {
		steps(t, "three ways on", g, w, nil, [2]int{0, 0}, edge, [2]int{node, 0})
	}
	steps(t, "on", g, w, nil, [2]int{1, 0}, 3, [2]int{3, 0})
	stays(t, "back", g, w, nil, [2]int{1, 0}, 1)
	steps(t, "on", g, w, nil, [2]int{3, 0}, 10, [2]int{4, 0})
	steps(t, "to the goal", g, w, nil, [2]int{4, 0}, 12, [2]int{5, 1})
	stays(t, "a link that is longer", g, w, nil, [2]int{4, 0}, 15)
	steps(t, "a link that is longer, the other one down", g, w, []bool{6: true}, [2]int{4, 0}, 15, [2]int{5, 1})
	stays(t, "a link that is down", g, w, []bool{6: true}, [2]int{4, 0}, 12)
	stays(t, "a link that is down", g, w, []bool{4: true}, [2]int{0, 0}, 8)
	steps(t, "one beside it", g, w, []bool{4: true}, [2]int{0, 0}, 4, [2]int{2, 0})
	for edge := range 16 {
		stays(t, "beyond the goal", g, w, nil, [2]int{5, 1}, edge)
		stays(t, "on To with another number", g, w, nil, [2]int{5, 0}, edge)
		stays(t, "the goal's number elsewhere", g, w, nil, [2]int{4, 1}, edge)
		stays(t, "a node that leads nowhere", g, w, nil, [2]int{6, 0}, edge)
		stays(t, "a node to itself", g, api.Want{}, nil, [2]int{0, 0}, edge)
		stays(t, "a node to itself", g, api.Want{}, nil, [2]int{0, 1}, edge)
	}
}

// An edge that begins at another node is none of the state's, even if it is on
// a shortest way of that one.
func TestP1501StepOfTheState(t *testing.T) {
	g := kite()
	w := api.Want{To: 5}
	for node := range 7 {
		for edge, from := range map[int]int{0: 0, 4: 0, 8: 0, 3: 1, 6: 2, 10: 3, 12: 4} {
			if from != node {
				stays(t, "another node's", g, w, nil, [2]int{node, 0}, edge)
			}
		}
	}
}

// What is gone without lies on no way.
func TestP1501StepAllowed(t *testing.T) {
	g := kite()
	for _, w := range []api.Want{
		{To: 3, Nodes: []int{1}},
		{To: 3, Links: []int{0}},
		{To: 3, Links: []int{1}},
		{To: 3, Colours: []int{1}},
		{To: 3, Colours: []int{2}},
	} {
		stays(t, "without node 1", g, w, nil, [2]int{0, 0}, 0)
		steps(t, "without node 1", g, w, nil, [2]int{0, 0}, 4, [2]int{2, 0})
		steps(t, "without node 1", g, w, nil, [2]int{0, 0}, 8, [2]int{3, 1})
	}
	w := api.Want{To: 3, Links: []int{4}, Nodes: []int{1}, Colours: []int{62}, Via: []int{0}}
	refused(t, "nothing is left", g, w, nil, api.ErrNoWay)
}

// A node that was come to is a point just if it is the next one.
func TestP1501StepNumbers(t *testing.T) {
	g := line(6, 3)
	w := api.Want{From: 0, To: 5, Via: []int{2, 1, 4}}
	steps(t, "past one that is not next", g, w, nil, [2]int{0, 0}, 0, [2]int{1, 0})
	steps(t, "to the first", g, w, nil, [2]int{1, 0}, 2, [2]int{2, 1})
	steps(t, "back to the second", g, w, nil, [2]int{2, 1}, 3, [2]int{1, 2})
	steps(t, "past the first again", g, w, nil, [2]int{1, 2}, 2, [2]int{2, 2})
	steps(t, "on", g, w, nil, [2]int{2, 2}, 4, [2]int{3, 2})
	steps(t, "to the third", g, w, nil, [2]int{3, 2}, 6, [2]int{4, 3})
	steps(t, "to the end", g, w, nil, [2]int{4, 3}, 8, [2]int{5, 4})
	stays(t, "on where it leads back", g, w, nil, [2]int{2, 1}, 4)
	stays(t, "back where it leads on", g, w, nil, [2]int{2, 2}, 3)
	steps(t, "past To", g, api.Want{From: 0, To: 1, Via: []int{2}}, nil, [2]int{0, 0}, 0, [2]int{1, 0})
	// A state that no best walk comes to is one, too.
	steps(t, "from elsewhere", g, w, nil, [2]int{5, 0}, 9, [2]int{4, 0})
	steps(t, "from elsewhere", g, w, nil, [2]int{3, 1}, 5, [2]int{2, 1})
	steps(t, "from elsewhere", g, w, nil, [2]int{0, 3}, 0, [2]int{1, 3})
}

// Whoever stands on the next point has come to it, and so on.
func TestP1501StepPointsTwice(t *testing.T) {
	g := line(4, 1)
	steps(t, "two at once", g, api.Want{To: 3, Via: []int{1, 1}}, nil, [2]int{0, 0}, 0, [2]int{1, 2})
	steps(t, "four at once", g, api.Want{To: 3, Via: []int{1, 1, 1, 1}}, nil, [2]int{0, 0}, 0, [2]int{1, 4})
	steps(t, "all at once", g, api.Want{To: 1, Via: []int{1, 1, 1, 1}}, nil, [2]int{0, 0}, 0, [2]int{1, 5})
	steps(t, "one, another, and one again", g, api.Want{To: 3, Via: []int{1, 2, 1}}, nil, [2]int{0, 0}, 0, [2]int{1, 1})
	steps(t, "the goal is not gone beyond", g, api.Want{To: 3, Via: []int{3}}, nil, [2]int{2, 0}, 4, [2]int{3, 2})
	for number := range 2 {
		for edge := range 6 {
			stays(t, "on the next point", g, api.Want{To: 3, Via: []int{1, 1}}, nil, [2]int{1, number}, edge)
		}
	}
	steps(t, "behind them", g, api.Want{To: 3, Via: []int{1, 1}}, nil, [2]int{1, 2}, 2, [2]int{2, 2})
}

func TestP1501StepNoSuch(t *testing.T) {
	g := kite()
	for _, w := range []api.Want{{To: 5}, {To: 5, Via: []int{3, 1}}, {}, {From: 6, To: 6}} {
		for _, n := range append(extremes(), 16, 17, 240) {
			for number := range 3 {
				stays(t, "no such edge", g, w, nil, [2]int{0, number}, n)
				stays(t, "no such edge", g, w, nil, [2]int{n, number}, n)
			}
		}
		for _, n := range append(extremes(), 7, 40) {
			for edge := range 16 {
				stays(t, "no such node", g, w, nil, [2]int{n, 0}, edge)
			}
		}
		for _, n := range append(extremes(), 3, 4, 5, 6) {
			for edge := range 16 {
				stays(t, "no such number", g, w, nil, [2]int{0, n}, edge)
			}
		}
	}
}

func TestP1501Has(t *testing.T) {
	g := kite()
	w := api.Want{To: 5}
	for _, way := range [][]int{{0, 3}, {4, 6}, {8}} {
		walk := append(way, 10, 12)
		has(t, "a best walk", g, w, nil, true, walk...)
		for n := range walk {
			has(t, "the beginning of one", g, w, nil, false, walk[:n]...)
			has(t, "the end of one", g, w, nil, false, walk[n+1:]...)
			has(t, "one without an edge", g, w, nil, false, slices.Delete(slices.Clone(walk), n, n+1)...)
			has(t, "one with an edge twice", g, w, nil, false, slices.Insert(slices.Clone(walk), n, walk[n])...)
			has(t, "one with a way back and on", g, w, nil, false, slices.Insert(slices.Clone(walk), n+1, walk[n]^1, walk[n])...)
		}
		for edge := -1; edge <= 16; edge++ {
			has(t, "one with an edge behind it", g, w, nil, false, append(slices.Clone(walk), edge)...)
			has(t, "one with an edge ahead of it", g, w, nil, false, append([]int{edge}, walk...)...)
		}
	}
	has(t, "a walk that is longer", g, w, nil, false, 8, 10, 15)
	has(t, "that walk, the other link down", g, w, []bool{6: true}, true, 8, 10, 15)
	has(t, "one over a link that is down", g, w, []bool{6: true}, false, 8, 10, 12)
	has(t, "one within the Bound", g, api.Want{To: 5, Bound: 13}, nil, true, 8, 10, 12)
	has(t, "none within the Bound", g, api.Want{To: 5, Bound: 12}, nil, false, 8, 10, 12)
	has(t, "one over a node that is gone without", g, api.Want{To: 3, Nodes: []int{1}}, nil, false, 0, 3)
	has(t, "another one", g, api.Want{To: 3, Nodes: []int{1}}, nil, true, 4, 6)
}

func TestP1501HasPoints(t *testing.T) {
	g := kite()
	w := api.Want{To: 3, Via: []int{1}}
	has(t, "over it", g, w, nil, true, 0, 3)
	has(t, "not over it", g, w, nil, false, 4, 6)
	w = api.Want{To: 0, Via: []int{3, 3}}
	for _, there := range [][]int{{0, 3}, {4, 6}, {8}} {
		for _, back := range [][]int{{2, 1}, {7, 5}, {9}} {
			has(t, "there and back", g, w, nil, true, append(slices.Clone(there), back...)...)
		}
		has(t, "there alone", g, w, nil, false, there...)
	}
	has(t, "nothing, there and back", g, w, nil, false)
	has(t, "as long, but not to the point", g, w, nil, false, 0, 1, 0, 1)
}

func TestP1501HasNothing(t *testing.T) {
	for node := range 7 {
		w := api.Want{From: node, To: node}
		has(t, "a node to itself", kite(), w, nil, true)
		for edge := range 16 {
			has(t, "a node to itself", kite(), w, nil, false, edge)
			has(t, "a node to itself", kite(), w, nil, false, edge, edge^1)
		}
		w.Via = []int{node, node}
		has(t, "over itself", kite(), w, nil, true)
		w.Via = []int{node, (node + 1) % 6}
		has(t, "over another one", kite(), w, nil, false)
	}
	if !Has(api.Graph{Nodes: 1}, api.Want{}, nil, []int{}) || !Has(api.Graph{Nodes: 1}, api.Want{}, []bool{}, nil) {
		t.Errorf("Has of one node and nothing")
	}
}

func TestP1501HasNoSuch(t *testing.T) {
	for _, n := range append(extremes(), 16, 240) {
		for _, w := range []api.Want{{}, {To: 5}} {
			has(t, "no such edge", kite(), w, nil, false, n)
			has(t, "no such edge", kite(), w, nil, false, 8, n, 12)
			has(t, "no such edge", kite(), w, nil, false, 8, 10, 12, n)
		}
	}
}

func TestP1501HasLong(t *testing.T) {
	g := line(api.MaxNodes, 1)
	w := api.Want{From: 0, To: 39, Via: []int{39, 0, 39, 0}}
	var walk []int
	for leg := range 5 {
		for i := range 39 {
			if leg%2 == 0 {
				walk = append(walk, 2*i)
			} else {
				walk = append(walk, 2*(38-i)+1)
			}
		}
	}
	has(t, "the longest", g, w, nil, true, walk...)
	has(t, "the longest less one", g, w, nil, false, walk[:len(walk)-1]...)
	has(t, "many edges", g, w, nil, false, make([]int, 1<<20)...)
	has(t, "many edges behind", g, w, nil, false, append(slices.Clone(walk), make([]int, 1<<20)...)...)
	has(t, "many edges", g, api.Want{}, nil, false, make([]int, 1<<20)...)
}

// The rest holds the calls against the document's words, told another way.

func isAllowed(g api.Graph, w api.Want, down []bool, link int) bool {
	l := g.Links[link]
	return !(link < len(down) && down[link]) && !slices.Contains(w.Links, link) && !slices.Contains(w.Colours, l.Colour) && !slices.Contains(w.Nodes, l.A) && !slices.Contains(w.Nodes, l.B)
}

// noWay is longer than any way.
const noWay = 1 << 50

// lengths tells those of the shortest allowed ways, from each node to each.
func lengths(g api.Graph, w api.Want, down []bool) [][]int {
	d := make([][]int, g.Nodes)
	for i := range d {
		d[i] = slices.Repeat([]int{noWay}, g.Nodes)
		d[i][i] = 0
	}
	for i, l := range g.Links {
		if isAllowed(g, w, down, i) {
			d[l.A][l.B] = min(d[l.A][l.B], l.Metric)
			d[l.B][l.A] = min(d[l.B][l.A], l.Metric)
		}
	}
	for k := range d {
		for i := range d {
			for j := range d {
				d[i][j] = min(d[i][j], d[i][k]+d[k][j])
			}
		}
	}
	return d
}

func pointsIn(w api.Want) []int {
	return append(append([]int{w.From}, w.Via...), w.To)
}

// sumOf tells what Cost would, -1 if there is no way within the Bound.
func sumOf(g api.Graph, w api.Want, down []bool) int {
	d, points, sum := lengths(g, w, down), pointsIn(w), 0
	for i := range points[1:] {
		sum += d[points[i]][points[i+1]]
	}
	if sum >= noWay || w.Bound > 0 && sum > w.Bound {
		return -1
	}
	return sum
}

func endsOf(g api.Graph, edge int) (int, int) {
	l := g.Links[edge/2]
	if edge%2 == 0 {
		return l.A, l.B
	}
	return l.B, l.A
}

// isWay tells whether the edges are a shortest allowed way.
func isWay(g api.Graph, w api.Want, down []bool, d [][]int, from, to int, edges []int) bool {
	at, sum := from, 0
	for _, edge := range edges {
		a, b := endsOf(g, edge)
		if a != at || !isAllowed(g, w, down, edge/2) {
			return false
		}
		at, sum = b, sum+g.Links[edge/2].Metric
	}
	return at == to && sum == d[from][to]
}

// isOpt tells whether the edges can be cut into shortest ways, point by point.
func isOpt(g api.Graph, w api.Want, down []bool, d [][]int, points, edges []int) bool {
	if len(points) == 1 {
		return len(edges) == 0
	}
	for n := range len(edges) + 1 {
		if isWay(g, w, down, d, points[0], points[1], edges[:n]) && isOpt(g, w, down, d, points[1:], edges[n:]) {
			return true
		}
	}
	return false
}

// walks lists all walks of at most that many edges from the node.
func walks(g api.Graph, node, most int) [][]int {
	l := [][]int{nil}
	if most == 0 {
		return l
	}
	for edge := range 2 * len(g.Links) {
		if a, b := endsOf(g, edge); a == node {
			for _, rest := range walks(g, b, most-1) {
				l = append(l, append([]int{edge}, rest...))
			}
		}
	}
	return l
}

func (c *chance) graph(nodes, links int) api.Graph {
	g := api.Graph{Nodes: 2 + c.below(nodes-1)}
	for range c.below(links + 1) {
		a := c.below(g.Nodes)
		b := (a + 1 + c.below(g.Nodes-1)) % g.Nodes
		g.Links = append(g.Links, api.Link{A: a, B: b, Metric: 1 + c.below(3), Colour: c.below(4)})
	}
	return g
}

func (c *chance) want(g api.Graph) api.Want {
	w := api.Want{From: c.below(g.Nodes), To: c.below(g.Nodes)}
	for range c.below(5) {
		w.Via = append(w.Via, c.below(g.Nodes))
	}
	switch c.below(9) {
	case 0:
		w.Nodes = []int{c.below(g.Nodes)}
	case 1:
		w.Colours = []int{c.below(4)}
	case 2:
		if len(g.Links) > 0 {
			w.Links = []int{c.below(len(g.Links))}
		}
	case 3:
		w.Bound = 1 + c.below(15)
	}
	return w
}

func (c *chance) down(links int) []bool {
	l := make([]bool, c.below(links+3))
	for i := range l {
		l[i] = c.below(6) == 0
	}
	return l
}

func TestP1501CostOfAny(t *testing.T) {
	c := chance(1501)
	met, not := 0, 0
	for range 3000 {
		g := c.graph(9, 20)
		w, down := c.want(g), c.down(len(g.Links))
		if sum := sumOf(g, w, down); sum >= 0 {
			met++
			costs(t, "some graph", g, w, down, sum, api.OK)
		} else {
			not++
			costs(t, "some graph", g, w, down, 0, api.ErrNoWay)
		}
	}
	if met < 500 || not < 500 {
		t.Errorf("%d had a way, %d had none", met, not)
	}
}

// stepOf tells what Step would: the state behind the edge, if there is one.
func stepOf(g api.Graph, w api.Want, down []bool, d [][]int, at [2]int, edge int) ([2]int, bool) {
	points := pointsIn(w)
	node, number := at[0], at[1]
	if number < 0 || number+1 >= len(points) {
		return [2]int{}, false
	}
	a, b := endsOf(g, edge)
	next := points[number+1]
	if a != node || node == next || !isAllowed(g, w, down, edge/2) || g.Links[edge/2].Metric+d[b][next] != d[node][next] {
		return [2]int{}, false
	}
	for number+1 < len(points) && points[number+1] == b {
		number++
	}
	return [2]int{b, number}, true
}

func TestP1501StepOfAny(t *testing.T) {
	c := chance(15010)
	led := 0
	for range 150 {
		g := c.graph(6, 12)
		w, down := c.want(g), c.down(len(g.Links))
		d, met := lengths(g, w, down), sumOf(g, w, down) >= 0
		for edge := range 2 * len(g.Links) {
			for node := range g.Nodes {
				for number := -1; number < len(w.Via)+3; number++ {
					at := [2]int{node, number}
					if to, ok := stepOf(g, w, down, d, at, edge); ok && met {
						led++
						steps(t, "some graph", g, w, down, at, edge, to)
					} else {
						stays(t, "some graph", g, w, down, at, edge)
					}
				}
			}
		}
	}
	if led < 500 {
		t.Errorf("%d edges led on", led)
	}
}

// Has says which walks are Opt, of all that are not too long.
func TestP1502HasIsOpt(t *testing.T) {
	c := chance(1502)
	best, not := 0, 0
	for range 400 {
		g := c.graph(5, 6)
		w, down := c.want(g), c.down(len(g.Links))
		d, points, met := lengths(g, w, down), pointsIn(w), sumOf(g, w, down) >= 0
		for _, walk := range walks(g, w.From, 5) {
			want := met && isOpt(g, w, down, d, points, walk)
			if want {
				best++
			} else {
				not++
			}
			has(t, "all walks", g, w, down, want, walk...)
		}
		for node := range g.Nodes {
			if node != w.From && len(g.Links) > 0 {
				l := walks(g, node, 3)
				has(t, "a walk from elsewhere", g, w, down, met && isOpt(g, w, down, d, points, l[len(l)-1]), l[len(l)-1]...)
			}
		}
	}
	if best < 200 || not < 2000 {
		t.Errorf("%d were Opt, %d were not", best, not)
	}
}

// Each walk that goes by Step from Start comes to Goal with Cost's sum.
func TestP1502StepsComeToTheGoal(t *testing.T) {
	c := chance(15020)
	came := 0
	for range 300 {
		g := c.graph(9, 20)
		w, down := c.want(g), c.down(len(g.Links))
		cost, e := Cost(g, w, down)
		if e != api.OK {
			continue
		}
		at, sum := Start(w), 0
		var walk []int
		for at != Goal(w) && len(walk) <= 5*g.Nodes {
			var on []int
			for edge := range 2 * len(g.Links) {
				if _, ok := Step(g, w, down, at, edge); ok {
					on = append(on, edge)
				}
			}
			if len(on) == 0 {
				t.Fatalf("%v of %v: no way on from %v", w, g, at)
			}
			edge := on[c.below(len(on))]
			at, _ = Step(g, w, down, at, edge)
			walk, sum = append(walk, edge), sum+g.Links[edge/2].Metric
		}
		came++
		if sum != cost {
			t.Errorf("%v of %v: %v costs %d, not %d", w, g, walk, sum, cost)
		}
		has(t, "by Step", g, w, down, true, walk...)
	}
	if came < 100 {
		t.Errorf("%d came to the goal", came)
	}
}

// What is handed in stays as it is, the spare room behind it too.
func TestP1502Kept(t *testing.T) {
	links := slices.Repeat(kite().Links, 2)
	down := []bool{false, true, false, false, false, false, false, false, true, false, true}
	edges := []int{8, 10, 12, 9, 9, 9}
	lists := [4][]int{{1, 3, 4, 3, 9, 9}, {6, 6, 2, 1, 8, 8}, {0, 7, 3, 1, 7, 7}, {3, 62, 0, 9, 6, 6}}
	wasLinks, wasDown, wasEdges := slices.Clone(links), slices.Clone(down), slices.Clone(edges)
	var was [4][]int
	for i, l := range lists {
		was[i] = slices.Clone(l)
	}
	for n := 6; n <= 8; n++ {
		g := api.Graph{Nodes: 7, Links: links[:n]}
		for k := range 5 {
			w := api.Want{To: 5, Via: lists[0][:k], Nodes: lists[1][:k], Links: lists[2][:min(k, 1)], Colours: lists[3][:k/2]}
			for d := range 9 {
				Cost(g, w, down[:d])
				Step(g, w, down[:d], [2]int{0, 0}, 8)
				Has(g, w, down[:d], edges[:3])
				Start(w)
				Goal(w)
			}
		}
	}
	if !slices.Equal(links, wasLinks) || !slices.Equal(down, wasDown) || !slices.Equal(edges, wasEdges) {
		t.Errorf("links %v, not %v; down %v, not %v; edges %v, not %v", links, wasLinks, down, wasDown, edges, wasEdges)
	}
	for i, l := range lists {
		if !slices.Equal(l, was[i]) {
			t.Errorf("list %d: %v, not %v", i, l, was[i])
		}
	}
}

// Nothing is kept from call to call: what was asked ahead does not tell.
func TestP1502NothingKept(t *testing.T) {
	g, down, edges := kite(), make([]bool, 8), []int{8, 10, 12}
	w := api.Want{To: 5, Via: []int{3}, Links: []int{7}}
	for range 3 {
		costs(t, "as it was", g, w, down, 13, api.OK)
		has(t, "as it was", g, w, down, true, edges...)
		steps(t, "as it was", g, w, down, [2]int{4, 1}, 12, [2]int{5, 2})
		g.Links[4].Metric, down[6], w.Via[0], w.Links[0], edges[2] = 3, true, 1, 2, 15
		costs(t, "turned", g, w, down, 14, api.OK)
		has(t, "turned", g, w, down, false, edges...)
		has(t, "turned", g, w, down, true, 0, 3, 10, 15)
		stays(t, "turned", g, w, down, [2]int{4, 1}, 12)
		refused(t, "another graph", api.Graph{Nodes: 1}, w, down, api.ErrNode)
		refused(t, "a wrong graph", api.Graph{}, w, down, api.ErrArg)
		g.Links[4].Metric, down[6], w.Via[0], w.Links[0], edges[2] = 2, false, 3, 7, 12
	}
}
