package repair

import (
	"math"
	"slices"
	"sync"
	"testing"

	"waymark/api"
	"waymark/compile"
	"waymark/graph"
	"waymark/tables"
)

// chance makes numbers, the same ones each time.
type chance uint32

func (c *chance) below(most int) int {
	*c = *c*1664525 + 1013904223
	return int(*c>>9) % most
}

func node(n int) api.Seg { return api.Seg{To: n} }

func edge(n int) api.Seg { return api.Seg{Edge: true, To: n} }

// extremes are numbers at which arithmetic may go wrong.
func extremes() []int {
	return []int{math.MinInt, math.MinInt + 1, math.MinInt32, -1 << 16, 1 << 16, math.MaxInt32, 1 << 32, math.MaxInt - 1, math.MaxInt}
}

// frozen makes a graph's tables.
func frozen(g api.Graph) *tables.Tables {
	x, e := tables.New(g)
	if e != api.OK {
		panic("the graph of a test is wrong")
	}
	return x
}

// kite has three ways of length 2 from 0 to 3, a tail from there to 5, one of
// its links with a longer one beside it, and node 6 on a link of its own.
//
//	  1
//	 / \
//	0---3---4===5---6   7
//	 \ /
//	  2
func kite() api.Graph {
	return api.Graph{Nodes: 8, Links: []api.Link{
		{A: 0, B: 1, Metric: 1, Colour: 1},
		{A: 3, B: 1, Metric: 1, Colour: 2},
		{A: 0, B: 2, Metric: 1, Colour: 3},
		{A: 2, B: 3, Metric: 1, Colour: 62},
		{A: 0, B: 3, Metric: 2, Colour: 1},
		{A: 3, B: 4, Metric: 7, Colour: 1},
		{A: 4, B: 5, Metric: 4, Colour: 1},
		{A: 5, B: 4, Metric: 5, Colour: 1},
		{A: 6, B: 5, Metric: 8, Colour: 1},
	}}
}

// ring has a link from each node to the next one, and from the last one to 0.
func ring(nodes int) *tables.Tables {
	g := api.Graph{Nodes: nodes}
	for i := range nodes {
		g.Links = append(g.Links, api.Link{A: i, B: (i + 1) % nodes, Metric: 1})
	}
	return frozen(g)
}

// around looks for a list, with as many segments as it has and with more.
func around(t *testing.T, name string, x *tables.Tables, over, to int, want ...api.Seg) {
	t.Helper()
	for depth := len(want); depth <= api.MaxDepth+1; depth++ {
		got, e := Around(x, over, to, depth)
		if e != api.OK || !slices.Equal(got, want) {
			t.Errorf("%s: Around %d to %d, at most %d: %v, %v, not %v", name, over, to, depth, got, e, want)
		}
	}
	if len(want) > 0 {
		refused(t, name, x, over, to, len(want)-1, api.ErrDeep)
	}
}

func refused(t *testing.T, name string, x *tables.Tables, over, to, depth int, want api.Errno) {
	t.Helper()
	if got, e := Around(x, over, to, depth); e != want || len(got) != 0 {
		t.Errorf("%s: Around %d to %d, at most %d: %v, %v, not %v", name, over, to, depth, got, e, want)
	}
}

// No edge of the graph may be named, whatever else is wrong.
func TestP1801NoEdge(t *testing.T) {
	x := frozen(kite())
	for _, over := range append(extremes(), -36, -18, -2, -1, 18, 19, 20, 36, 240) {
		for _, to := range []int{0, 5, 7, -1, 8, math.MinInt, math.MaxInt} {
			for _, depth := range []int{math.MinInt, -1, 0, 5, math.MaxInt} {
				refused(t, "no such edge", x, over, to, depth, api.ErrLink)
			}
		}
	}
	for _, over := range []int{-1, 0, 1} {
		refused(t, "no links", frozen(api.Graph{Nodes: 1}), over, 0, 5, api.ErrLink)
		refused(t, "the zero one", &tables.Tables{}, over, 0, 5, api.ErrLink)
	}
}

func TestP1801NilTables(t *testing.T) {
	for _, over := range append(extremes(), -1, 0, 1, 2) {
		for _, to := range []int{math.MinInt, -1, 0, 1, math.MaxInt} {
			for _, depth := range []int{-1, 0, 5, 10} {
				refused(t, "a nil one", nil, over, to, depth, api.ErrArg)
			}
		}
	}
}

func TestP1801NoNode(t *testing.T) {
	x := frozen(kite())
	for _, to := range append(extremes(), -1, 8, 9, api.MaxNodes) {
		for over := range 18 {
			for _, depth := range []int{-1, 0, 5, 10} {
				refused(t, "no such node", x, over, to, depth, api.ErrNode)
			}
		}
	}
}

// Without the link there may be no way, from its end as from where it begins.
func TestP1801NoWay(t *testing.T) {
	x := frozen(kite())
	for _, depth := range []int{math.MinInt, 0, 1, 10, math.MaxInt} {
		for to := range 8 {
			switch {
			case to < 4:
				refused(t, "off the tail", x, 11, to, depth, api.ErrNoWay)
			case to < 7:
				refused(t, "on the tail", x, 10, to, depth, api.ErrNoWay)
			default:
				refused(t, "alone", x, 0, to, depth, api.ErrNoWay)
			}
		}
		refused(t, "the tail's end", x, 17, 6, depth, api.ErrNoWay)
		refused(t, "to the tail's end", x, 16, 5, depth, api.ErrNoWay)
	}
}

// The way begins where the edge does: the two edges of a link are not the same.
func TestP1801Begins(t *testing.T) {
	x := frozen(kite())
	for over := range 18 {
		from, _, _ := graph.Ends(kite(), over)
		around(t, "to where it begins", x, over, from)
	}
	around(t, "over 0", x, 0, 1, edge(8), node(1))
	around(t, "back over 0", x, 1, 0, node(3), edge(9))
	around(t, "over the longest of three", x, 8, 3, node(1), node(3))
	around(t, "back over it", x, 9, 0, node(1), node(0))
	around(t, "one link beside another", x, 12, 5, edge(15))
	around(t, "back over the same", x, 13, 4, edge(14))
	around(t, "the longer one", x, 14, 4, node(4))
	around(t, "back over the longer one", x, 15, 5, node(5))
}

// The list leads to the node that is asked for, not to the edge's end.
func TestP1801To(t *testing.T) {
	x := frozen(kite())
	around(t, "not over the link at all", x, 0, 2, node(2))
	around(t, "over none of its ways", x, 10, 0, node(0))
	around(t, "beyond the link", x, 0, 5, node(2), node(5))
	around(t, "beyond the other one", x, 4, 5, node(1), node(5))
	around(t, "beyond two beside each other", x, 12, 6, edge(15), node(6))
	around(t, "back beyond them", x, 13, 1, edge(14), node(1))
	around(t, "to the edge's end", x, 2, 1, edge(9), node(1))
}

func TestP1801Ring(t *testing.T) {
	x := ring(4)
	around(t, "a ring", x, 0, 1, node(3), node(2), node(1))
	around(t, "a ring, back", x, 1, 0, node(2), node(3), node(0))
	around(t, "a ring, across", x, 0, 2, node(3), node(2))
	around(t, "a ring, beside", x, 0, 3, node(3))
	around(t, "a ring of five", ring(5), 4, 3, node(0), node(3))
	around(t, "a ring of seven", ring(7), 12, 1, node(3), node(1))
	around(t, "a ring of seven, to where it leads on", ring(7), 13, 1, node(1))
	around(t, "a great ring", ring(40), 78, 0, node(20), node(1), node(0))
}

// Whatever is below 0 is as 0; what is above the most is as the most, and no
// list around a link is that long.
func TestP1801Depth(t *testing.T) {
	x := ring(4)
	want := []api.Seg{node(3), node(2), node(1)}
	for _, depth := range append(extremes(), -255, -10, -2, -1, 0, 1, 2, 3, 4, 9, 10, 11, 12, 255, 256) {
		if depth < len(want) {
			refused(t, "a ring", x, 0, 1, depth, api.ErrDeep)
		} else if got, e := Around(x, 0, 1, depth); e != api.OK || !slices.Equal(got, want) {
			t.Errorf("at most %d: %v, %v", depth, got, e)
		}
		if got, e := Around(x, 0, 0, depth); e != api.OK || len(got) != 0 {
			t.Errorf("to itself, at most %d: %v, %v", depth, got, e)
		}
	}
}

// The rest holds Around against the document's words, told another way.

func (c *chance) graph(nodes, links, metric int) api.Graph {
	g := api.Graph{Nodes: 2 + c.below(nodes-1)}
	for range 1 + c.below(links) {
		a := c.below(g.Nodes)
		b := (a + 1 + c.below(g.Nodes-1)) % g.Nodes
		g.Links = append(g.Links, api.Link{A: a, B: b, Metric: 1 + c.below(metric), Colour: c.below(3)})
	}
	return g
}

// lengths tells how far each node is from each, without that link, by going
// from node to node again and again.
func lengths(g api.Graph, without int) [][]int {
	far := make([][]int, g.Nodes)
	for from := range far {
		far[from] = slices.Repeat([]int{math.MaxInt}, g.Nodes)
		far[from][from] = 0
		for range g.Nodes {
			for i, l := range g.Links {
				for _, ends := range [][2]int{{l.A, l.B}, {l.B, l.A}} {
					if d := far[from][ends[0]]; i != without && d < math.MaxInt {
						far[from][ends[1]] = min(far[from][ends[1]], d+l.Metric)
					}
				}
			}
		}
	}
	return far
}

// walks follows each way that a segment may go by the tables, and tells the
// edges of each behind those that were crossed ahead; none of no segment that
// leads anywhere.
func walks(x *tables.Tables, g api.Graph, at int, crossed []int, s api.Seg) [][]int {
	next := x.Next(at, s.To)
	if s.Edge {
		next = []int{s.To}
	}
	var l [][]int
	for _, hop := range next {
		from, end, ok := graph.Ends(g, hop)
		behind := append(slices.Clone(crossed), hop)
		switch {
		case !ok || from != at:
		case s.Edge || end == s.To:
			l = append(l, behind)
		default:
			l = append(l, walks(x, g, end, behind, s)...)
		}
	}
	return l
}

// allWalks tells all walks of a list from the node on.
func allWalks(x *tables.Tables, g api.Graph, from int, list []api.Seg) [][]int {
	l := [][]int{nil}
	for _, s := range list {
		var longer [][]int
		for _, crossed := range l {
			at := from
			if len(crossed) > 0 {
				_, at, _ = graph.Ends(g, crossed[len(crossed)-1])
			}
			longer = append(longer, walks(x, g, at, crossed, s)...)
		}
		l = longer
	}
	return l
}

// isAround tells whether the walk leads to the node, as long as it is told to
// be, and never over the link.
func isAround(g api.Graph, walk []int, from, to, without, length int) bool {
	at, sum := from, 0
	for _, hop := range walk {
		if hop/2 == without {
			return false
		}
		_, at, _ = graph.Ends(g, hop)
		sum += g.Links[hop/2].Metric
	}
	return at == to && sum == length
}

// fits tells whether each walk of the list leads around, and whether there is
// one.
func fits(x *tables.Tables, g api.Graph, list []api.Seg, from, to, without, length int) bool {
	all := allWalks(x, g, from, list)
	for _, walk := range all {
		if !isAround(g, walk, from, to, without, length) {
			return false
		}
	}
	return len(all) > 0
}

// segments are all that a graph has, in their order.
func segments(g api.Graph) []api.Seg {
	var l []api.Seg
	for n := range g.Nodes {
		l = append(l, node(n))
	}
	for n := range 2 * len(g.Links) {
		l = append(l, edge(n))
	}
	return l
}

// tryAll tries all lists of n segments behind those ones, in their order.
func tryAll(all, behind []api.Seg, n int, fits func([]api.Seg) bool) ([]api.Seg, bool) {
	if n == 0 {
		return behind, fits(behind)
	}
	for _, s := range all {
		if found, ok := tryAll(all, append(slices.Clone(behind), s), n-1, fits); ok {
			return found, true
		}
	}
	return nil, false
}

// Of all lists whose walks, each followed to its end, are as short as any
// without the link, the first one of the fewest segments is told. Three are
// enough: up to where the link is near, one link farther, and on.
func TestP1801AllLists(t *testing.T) {
	c := chance(1801)
	const most = 3
	told := [most + 1]int{}
	for range 60 {
		g := c.graph(5, 6, 3)
		x := frozen(g)
		for over := range 2 * len(g.Links) {
			from, _, _ := graph.Ends(g, over)
			far := lengths(g, over/2)[from]
			for to := range g.Nodes {
				if far[to] == math.MaxInt {
					refused(t, "some graph", x, over, to, c.below(12), api.ErrNoWay)
					continue
				}
				n, found, ok := 0, []api.Seg(nil), false
				for ; n <= most && !ok; n++ {
					found, ok = tryAll(segments(g), nil, n, func(l []api.Seg) bool {
						return fits(x, g, l, from, to, over/2, far[to])
					})
				}
				if !ok {
					t.Fatalf("none around %d to %d in %v", over, to, g)
				}
				around(t, "some graph", x, over, to, found...)
				told[len(found)]++
			}
		}
	}
	for n, times := range told {
		if times == 0 {
			t.Errorf("none of %d segments was told: %v", n, told)
		}
	}
}

// It is compile.List of a want without the link, and as well of one with the
// link down.
func TestP1801AsList(t *testing.T) {
	c := chance(18)
	for range 60 {
		g := c.graph(12, 30, 4)
		x := frozen(g)
		for over := range 2 * len(g.Links) {
			from, _, _ := graph.Ends(g, over)
			down := make([]bool, len(g.Links))
			down[over/2] = true
			to, depth := c.below(g.Nodes+2)-1, c.below(14)-2
			got, e := Around(x, over, to, depth)
			want, f := compile.List(x, api.Want{From: from, To: to}, down, depth)
			if e != f || !slices.Equal(got, want) {
				t.Errorf("Around %d to %d, at most %d, of %v: %v, %v, not %v, %v", over, to, depth, g, got, e, want, f)
			}
			want, f = compile.List(x, api.Want{From: from, To: to, Links: []int{over / 2}}, nil, depth)
			if e != f || !slices.Equal(got, want) {
				t.Errorf("Around %d to %d, at most %d, of %v: %v, %v, not %v, %v", over, to, depth, g, got, e, want, f)
			}
		}
	}
}

// Each walk of a list is a shortest one of the graph without the link.
func TestP1802Walks(t *testing.T) {
	c := chance(82)
	most := 0
	for range 60 {
		g := c.graph(10, 22, 3)
		x := frozen(g)
		for over := range 2 * len(g.Links) {
			from, _, _ := graph.Ends(g, over)
			far := lengths(g, over/2)[from]
			for to := range g.Nodes {
				l, e := Around(x, over, to, 10)
				if e != api.OK {
					continue
				}
				most = max(most, len(allWalks(x, g, from, l)))
				if !fits(x, g, l, from, to, over/2, far[to]) {
					t.Errorf("%v around %d to %d in %v", l, over, to, g)
				}
			}
		}
	}
	if most < 4 {
		t.Errorf("no list had more than %d walks", most)
	}
}

// The greatest graphs there may be are soon done.
func TestP1802Most(t *testing.T) {
	row := api.Graph{Nodes: api.MaxNodes}
	for i := range api.MaxNodes - 1 {
		row.Links = append(row.Links, slices.Repeat([]api.Link{{A: i, B: i + 1, Metric: api.MaxMetric}}, 3)...)
	}
	x := frozen(row)
	around(t, "a row", x, 0, 39, edge(2), node(39))
	around(t, "a row, back", x, 233, 0, edge(229), node(0))
	if x.Dist(0, 39) != 39*api.MaxMetric {
		t.Errorf("the row is %d", x.Dist(0, 39))
	}
}

// Nothing that is handed in but the tables could be turned; they are as they
// were.
func TestP1802Kept(t *testing.T) {
	g := kite()
	x, y := frozen(g), frozen(g)
	for over := -1; over < 19; over++ {
		for to := -1; to < 9; to++ {
			Around(x, over, to, 10)
		}
	}
	for from := range g.Nodes {
		for to := range g.Nodes {
			if !slices.Equal(x.Next(from, to), y.Next(from, to)) || x.Dist(from, to) != y.Dist(from, to) {
				t.Errorf("the tables from %d to %d: %v, %d", from, to, x.Next(from, to), x.Dist(from, to))
			}
		}
	}
	if h := x.Graph(); h.Nodes != g.Nodes || !slices.Equal(h.Links, g.Links) {
		t.Errorf("the graph: %v", h)
	}
}

// What is answered is new memory: writing over it, and its spare room, tells
// nowhere.
func TestP1802NewMemory(t *testing.T) {
	x := ring(4)
	first, _ := Around(x, 0, 1, 10)
	second, _ := Around(x, 0, 1, 10)
	for range 3 {
		for i := range first[:cap(first)] {
			first[:cap(first)][i] = edge(-9)
		}
		if want := []api.Seg{node(3), node(2), node(1)}; !slices.Equal(second, want) {
			t.Errorf("the second one turned into %v", second)
		}
		around(t, "a later one", x, 0, 1, node(3), node(2), node(1))
		first, _ = Around(x, 0, 1, 10)
	}
}

// Nothing is kept from call to call: what was asked ahead does not tell.
func TestP1802NothingKept(t *testing.T) {
	x, other := ring(4), frozen(kite())
	for range 3 {
		around(t, "a ring", x, 0, 1, node(3), node(2), node(1))
		around(t, "other tables", other, 0, 1, edge(8), node(1))
		around(t, "another link", x, 6, 0, node(2), node(1), node(0))
		refused(t, "no such edge", x, 8, 1, 10, api.ErrLink)
		refused(t, "none", nil, 0, 1, 10, api.ErrArg)
	}
}

// Answers are the same, whoever else asks the same tables.
func TestP1802ManyAsk(t *testing.T) {
	x := frozen(kite())
	var all sync.WaitGroup
	for range 8 {
		all.Go(func() {
			for range 20 {
				around(t, "asked at once", x, 12, 6, edge(15), node(6))
				around(t, "asked at once", x, 1, 0, node(3), edge(9))
			}
		})
	}
	all.Wait()
}
