package prune

import (
	"math"
	"slices"
	"testing"

	"waymark/api"
)

// extremes are numbers that no graph has as a node, a link or a colour.
func extremes() []int {
	return []int{math.MinInt, math.MinInt + 1, math.MinInt32, -1 << 32, -64, -2, -1, 120, 256, 1 << 32, 1<<32 + 1, math.MaxInt32, math.MaxInt - 1, math.MaxInt}
}

// town is a graph of seven links, two of them beside each other (1 and 5, one
// turned round), with the least and the greatest colour, and a node alone.
func town() api.Graph {
	return api.Graph{Nodes: 6, Links: []api.Link{
		{A: 0, B: 1, Metric: 1, Colour: 0},
		{A: 1, B: 2, Metric: 7, Colour: 3},
		{A: 3, B: 2, Metric: api.MaxMetric, Colour: 62},
		{A: 0, B: 3, Metric: 2, Colour: 3},
		{A: 4, B: 0, Metric: 9, Colour: 31},
		{A: 2, B: 1, Metric: 7, Colour: 32},
		{A: 3, B: 4, Metric: 4, Colour: 0},
	}}
}

// most is the greatest graph there may be.
func most() api.Graph {
	g := api.Graph{Nodes: api.MaxNodes}
	for i := range api.MaxLinks {
		g.Links = append(g.Links, api.Link{A: i % 40, B: (i + 1 + i/40) % 40, Metric: 1, Colour: i % 63})
	}
	return g
}

// wrong are graphs that are not graph.Check, with what it says of them.
func wrong() map[string]struct {
	g api.Graph
	e api.Errno
} {
	good := api.Link{A: 0, B: 1, Metric: 1}
	type told = struct {
		g api.Graph
		e api.Errno
	}
	with := func(l api.Link, e api.Errno) told {
		return told{api.Graph{Nodes: 3, Links: []api.Link{good, l}}, e}
	}
	return map[string]told{
		"nothing":        {api.Graph{}, api.ErrArg},
		"nodes below 0":  {api.Graph{Nodes: -1}, api.ErrArg},
		"too many nodes": {api.Graph{Nodes: api.MaxNodes + 1, Links: []api.Link{good}}, api.ErrArg},
		"most nodes":     {api.Graph{Nodes: math.MaxInt}, api.ErrArg},
		"too many links": {api.Graph{Nodes: 3, Links: slices.Repeat([]api.Link{good}, api.MaxLinks+1)}, api.ErrLong},
		"A is no node":   with(api.Link{A: 3, B: 1, Metric: 1}, api.ErrNode),
		"B is below 0":   with(api.Link{A: 0, B: -1, Metric: 1}, api.ErrNode),
		"both are one":   with(api.Link{A: 1, B: 1, Metric: 1}, api.ErrNode),
		"no Metric":      with(api.Link{A: 0, B: 1}, api.ErrArg),
		"a great Metric": with(api.Link{A: 0, B: 1, Metric: api.MaxMetric + 1}, api.ErrArg),
		"Colour below 0": with(api.Link{A: 0, B: 1, Metric: 1, Colour: -1}, api.ErrArg),
		"a great Colour": with(api.Link{A: 0, B: 1, Metric: 1, Colour: 63}, api.ErrArg),
	}
}

func says(t *testing.T, name string, g api.Graph, w api.Want, e api.Errno) {
	t.Helper()
	if got := Right(g, w); got != e {
		t.Errorf("%s: Right of %v: %v, not %v", name, w, got, e)
	}
	if e == api.OK {
		return
	}
	for _, down := range [][]bool{nil, {true}, slices.Repeat([]bool{true}, 200)} {
		if got := Down(g, w, down); len(got) != 0 {
			t.Errorf("%s: Down of %v, which is not Right: %v", name, w, got)
		}
	}
}

// takes looks at which links Down takes away of all that there are.
func takes(t *testing.T, name string, g api.Graph, w api.Want, down []bool, links ...int) {
	t.Helper()
	says(t, name, g, w, api.OK)
	want := make([]bool, len(g.Links))
	for _, link := range links {
		want[link] = true
	}
	if got := Down(g, w, down); !slices.Equal(got, want) {
		t.Errorf("%s: Down of %v, %v: %v, not %v", name, w, down, got, want)
	}
}

func TestP801Right(t *testing.T) {
	says(t, "one node", api.Graph{Nodes: 1}, api.Want{}, api.OK)
	says(t, "one node, all lists", api.Graph{Nodes: 1}, api.Want{Via: []int{0, 0, 0, 0}, Nodes: []int{0}, Colours: []int{0, 62}, Bound: math.MaxInt}, api.OK)
	says(t, "town", town(), api.Want{From: 5, To: 5, Via: []int{0, 5}, Nodes: []int{0, 1, 2, 3, 4, 5}, Links: []int{0, 6}, Colours: []int{62}, Bound: 1}, api.OK)
	says(t, "from a node that is avoided", town(), api.Want{From: 1, To: 2, Via: []int{3}, Nodes: []int{1, 2, 3}}, api.OK)
	for node := range town().Nodes {
		says(t, "each node", town(), api.Want{From: node, To: 5 - node, Via: []int{node}, Nodes: []int{node}}, api.OK)
	}
	for link := range most().Links {
		says(t, "each link", most(), api.Want{Links: []int{link}}, api.OK)
	}
	for colour := range 63 {
		says(t, "each colour", town(), api.Want{Colours: []int{colour}}, api.OK)
	}
	for n := range api.MaxVia + 1 {
		says(t, "many Via", town(), api.Want{Via: make([]int, n)}, api.OK)
	}
	for _, bound := range []int{0, 1, 2, 1 << 32, math.MaxInt} {
		says(t, "a Bound", town(), api.Want{Bound: bound}, api.OK)
	}
	says(t, "lists that are long", town(), api.Want{Nodes: make([]int, 500), Links: make([]int, 500), Colours: make([]int, 500)}, api.OK)
}

// Each way a node, a link or a colour can be wrong, at each place of a list.
func TestP801RightNumbers(t *testing.T) {
	wrongAt := func(name string, e api.Errno, n int, set func(w *api.Want, l []int)) {
		t.Helper()
		for at := range 3 {
			l := []int{0, 0, 0}
			l[at] = n
			var w api.Want
			set(&w, l)
			says(t, name, town(), w, e)
		}
	}
	for _, n := range append(extremes(), 6, 7, 39, 40) {
		says(t, "From", town(), api.Want{From: n}, api.ErrNode)
		says(t, "To", town(), api.Want{To: n}, api.ErrNode)
		says(t, "From and To", town(), api.Want{From: n, To: n}, api.ErrNode)
		wrongAt("Via", api.ErrNode, n, func(w *api.Want, l []int) { w.Via = l })
		wrongAt("Nodes", api.ErrNode, n, func(w *api.Want, l []int) { w.Nodes = l })
	}
	for _, n := range append(extremes(), 7, 8, 14, 119) {
		wrongAt("Links", api.ErrLink, n, func(w *api.Want, l []int) { w.Links = l })
	}
	for _, n := range append(extremes(), 63, 64, 65, 128) {
		wrongAt("Colours", api.ErrArg, n, func(w *api.Want, l []int) { w.Colours = l })
	}
	for _, n := range []int{math.MinInt, math.MinInt32, -1 << 32, -2, -1} {
		says(t, "Bound", town(), api.Want{Bound: n}, api.ErrArg)
	}
	for _, n := range []int{5, 6, 256, 1 << 16} {
		says(t, "too many Via", town(), api.Want{Via: make([]int, n)}, api.ErrLong)
	}
	says(t, "a link of none", api.Graph{Nodes: 2}, api.Want{Links: []int{0}}, api.ErrLink)
	says(t, "a link behind the most", most(), api.Want{Links: []int{120}}, api.ErrLink)
	says(t, "a node behind the most", most(), api.Want{Nodes: []int{40}}, api.ErrNode)
	for nodes := 1; nodes <= api.MaxNodes; nodes++ {
		says(t, "the last node", api.Graph{Nodes: nodes}, api.Want{From: nodes - 1, To: nodes - 1}, api.OK)
		says(t, "From behind the last node", api.Graph{Nodes: nodes}, api.Want{From: nodes}, api.ErrNode)
	}
}

// Of what is wrong the first in the promise's order is told.
func TestP801RightOrder(t *testing.T) {
	wrongs := []struct {
		e    api.Errno
		turn func(w *api.Want)
	}{
		{api.ErrNode, func(w *api.Want) { w.From = 6 }},
		{api.ErrNode, func(w *api.Want) { w.To = -1 }},
		{api.ErrNode, func(w *api.Want) { w.Via = append([]int{6}, w.Via...) }},
		{api.ErrNode, func(w *api.Want) { w.Via = append(w.Via, 0, 0, 0, 0, -1) }},
		{api.ErrNode, func(w *api.Want) { w.Nodes = []int{0, 6} }},
		{api.ErrLink, func(w *api.Want) { w.Links = []int{0, 7} }},
		{api.ErrArg, func(w *api.Want) { w.Colours = []int{0, 63} }},
		{api.ErrArg, func(w *api.Want) { w.Bound = -1 }},
		{api.ErrLong, func(w *api.Want) { w.Via = append(w.Via, 0, 0, 0, 0, 0) }},
	}
	for i, x := range wrongs {
		for _, y := range wrongs[i:] {
			var one, other api.Want
			x.turn(&one)
			y.turn(&one)
			y.turn(&other)
			x.turn(&other)
			says(t, "two that are wrong", town(), one, x.e)
			says(t, "two that are wrong, the other way round", town(), other, x.e)
		}
	}
	for name, x := range wrong() {
		says(t, name, x.g, api.Want{}, x.e)
		for _, y := range wrongs {
			var w api.Want
			y.turn(&w)
			says(t, name, x.g, w, x.e)
		}
	}
}

func TestP801DownByDown(t *testing.T) {
	takes(t, "nothing", town(), api.Want{}, nil)
	takes(t, "an empty list", town(), api.Want{Via: []int{}, Nodes: []int{}, Links: []int{}, Colours: []int{}}, []bool{})
	takes(t, "one", town(), api.Want{}, []bool{false, true}, 1)
	takes(t, "all", town(), api.Want{}, slices.Repeat([]bool{true}, 7), 0, 1, 2, 3, 4, 5, 6)
	takes(t, "none of as many", town(), api.Want{}, make([]bool, 7))
	takes(t, "more than there are", town(), api.Want{}, []bool{7: true, 8: true})
	takes(t, "the last one, and more", town(), api.Want{}, []bool{6: true, 7: true, 300: true}, 6)
	for n := range town().Links {
		down := make([]bool, n+1)
		down[n] = true
		takes(t, "each alone", town(), api.Want{From: 1, To: 2, Via: []int{3, 4}, Bound: 1}, down, n)
	}
}

// From, To, Via and Bound take nothing away.
func TestP801DownPoints(t *testing.T) {
	takes(t, "points", town(), api.Want{From: 0, To: 3, Via: []int{1, 2, 4, 5}, Bound: 1}, nil)
	takes(t, "points that can't be come to", town(), api.Want{From: 0, To: 5, Bound: 1}, nil)
}

func TestP801DownLinks(t *testing.T) {
	for n := range town().Links {
		takes(t, "each link alone", town(), api.Want{Links: []int{n}}, nil, n)
	}
	takes(t, "in no order, twice", town(), api.Want{Links: []int{6, 0, 6, 6, 2}}, nil, 0, 2, 6)
	takes(t, "all of the most", most(), api.Want{Links: seq(120)}, nil, seq(120)...)
	takes(t, "the last of the most", most(), api.Want{Links: []int{119, 64}}, nil, 64, 119)
}

func TestP801DownColours(t *testing.T) {
	for colour, links := range map[int][]int{0: {0, 6}, 3: {1, 3}, 31: {4}, 32: {5}, 62: {2}, 1: nil, 30: nil, 33: nil, 61: nil} {
		takes(t, "each colour alone", town(), api.Want{Colours: []int{colour}}, nil, links...)
	}
	takes(t, "in no order, twice", town(), api.Want{Colours: []int{62, 3, 62, 5, 3}}, nil, 1, 2, 3)
	takes(t, "all", town(), api.Want{Colours: seq(63)}, nil, seq(7)...)
	for colour := range 63 {
		var want []int
		for i := range 120 {
			if i%63 == colour {
				want = append(want, i)
			}
		}
		takes(t, "each colour of the most", most(), api.Want{Colours: []int{colour}}, nil, want...)
	}
}

func TestP801DownNodes(t *testing.T) {
	for node, links := range [][]int{{0, 3, 4}, {0, 1, 5}, {1, 2, 5}, {2, 3, 6}, {4, 6}, nil} {
		takes(t, "each node alone", town(), api.Want{Nodes: []int{node}}, nil, links...)
		takes(t, "each node, from it to it", town(), api.Want{From: node, To: node, Via: []int{node}, Nodes: []int{node}}, nil, links...)
	}
	takes(t, "in no order, twice", town(), api.Want{Nodes: []int{4, 1, 5, 4}}, nil, 0, 1, 4, 5, 6)
	takes(t, "all", town(), api.Want{Nodes: seq(6)}, nil, seq(7)...)
	for node := range api.MaxNodes {
		var want []int
		for i, l := range most().Links {
			if l.A == node || l.B == node {
				want = append(want, i)
			}
		}
		takes(t, "each node of the most", most(), api.Want{Nodes: []int{node}}, nil, want...)
	}
}

// A number in one list says nothing of what the others are of.
func TestP801DownListsApart(t *testing.T) {
	takes(t, "3 of all", town(), api.Want{Nodes: []int{3}, Links: []int{3}, Colours: []int{3}}, nil, 1, 2, 3, 6)
	takes(t, "one of each", town(), api.Want{Nodes: []int{4}, Links: []int{5}, Colours: []int{62}}, []bool{true}, 0, 2, 4, 5, 6)
	takes(t, "what is taken by all", town(), api.Want{Nodes: []int{3}, Links: []int{2}, Colours: []int{62}}, []bool{2: true}, 2, 3, 6)
}

func TestP801NoLinks(t *testing.T) {
	g := api.Graph{Nodes: 2}
	for _, down := range [][]bool{nil, {true}, {true, true, true}} {
		takes(t, "no links", g, api.Want{To: 1, Nodes: []int{0, 1}, Colours: []int{0}}, down)
	}
}

// seq is the first n numbers from 0 on.
func seq(n int) []int {
	l := make([]int, n)
	for i := range l {
		l[i] = i
	}
	return l
}

// chance makes numbers in no order.
type chance uint32

func (c *chance) below(most int) int {
	*c = *c*1664525 + 1013904223
	return int(*c>>8) % most
}

func (c *chance) list(most int) []int {
	l := make([]int, c.below(4))
	for i := range l {
		l[i] = c.below(most)
	}
	return l
}

// Each link is held against the promise's words, one by one.
func TestP801DownOfAny(t *testing.T) {
	c := chance(8)
	for range 2000 {
		g := api.Graph{Nodes: 2 + c.below(39)}
		for range 1 + c.below(120) {
			a := c.below(g.Nodes)
			b := (a + 1 + c.below(g.Nodes-1)) % g.Nodes
			g.Links = append(g.Links, api.Link{A: a, B: b, Metric: 1 + c.below(9), Colour: c.below(63)})
		}
		w := api.Want{From: c.below(g.Nodes), To: c.below(g.Nodes), Bound: c.below(5), Via: c.list(g.Nodes), Nodes: c.list(g.Nodes), Links: c.list(len(g.Links)), Colours: c.list(63)}
		down := make([]bool, c.below(len(g.Links)+9))
		for i := range down {
			down[i] = c.below(5) == 0
		}
		var want []int
		for i, l := range g.Links {
			byDown := i < len(down) && down[i]
			byNode := slices.Contains(w.Nodes, l.A) || slices.Contains(w.Nodes, l.B)
			if byDown || byNode || slices.Contains(w.Links, i) || slices.Contains(w.Colours, l.Colour) {
				want = append(want, i)
			}
		}
		takes(t, "some graph", g, w, down, want...)
	}
}

// What is handed in stays as it is, the spare room behind it too.
func TestP802Kept(t *testing.T) {
	links := slices.Repeat(town().Links, 2)
	down := []bool{false, true, false, false, false, false, false, true, false, true, false, false}
	lists := [4][]int{{1, 2, 3, 4, 9, 9}, {5, 2, 0, 1, 8, 8}, {0, 5, 3, 1, 7, 7}, {3, 62, 0, 9, 6, 6}}
	wasLinks, wasDown := slices.Clone(links), slices.Clone(down)
	var was [4][]int
	for i, l := range lists {
		was[i] = slices.Clone(l)
	}
	for n := range 8 {
		g := api.Graph{Nodes: 6, Links: links[:n]}
		for k := range 7 {
			long := min(k, 6)
			w := api.Want{Via: lists[0][:min(long, 4)], Nodes: lists[1][:long], Links: lists[2][:long], Colours: lists[3][:long]}
			for d := range 12 {
				Down(g, w, down[:d])
			}
			Right(g, w)
		}
	}
	if !slices.Equal(links, wasLinks) || !slices.Equal(down, wasDown) {
		t.Errorf("links %v, not %v; down %v, not %v", links, wasLinks, down, wasDown)
	}
	for i, l := range lists {
		if !slices.Equal(l, was[i]) {
			t.Errorf("list %d: %v, not %v", i, l, was[i])
		}
	}
}

// What is answered is new memory, each time, and none of what was handed in.
func TestP802New(t *testing.T) {
	down := make([]bool, 7, 30)
	down[1] = true
	for _, w := range []api.Want{{}, {Links: []int{2}, Nodes: []int{4}}} {
		first, second := Down(town(), w, down), Down(town(), w, down)
		want := slices.Clone(first)
		for i := range first[:cap(first)] {
			first[:cap(first)][i] = !first[:cap(first)][i]
		}
		if len(want) != 7 || !slices.Equal(second, want) || !slices.Equal(Down(town(), w, down), want) {
			t.Errorf("Down of %v: %v, and again %v, not %v", w, second, Down(town(), w, down), want)
		}
	}
	if !slices.Equal(down[:30], slices.Concat([]bool{false, true}, make([]bool, 28))) {
		t.Errorf("down: %v", down[:30])
	}
}

// Nothing is kept from call to call: what was asked ahead does not tell.
func TestP802NothingKept(t *testing.T) {
	g, down := town(), make([]bool, 7)
	w := api.Want{Nodes: []int{4}, Links: []int{1}, Colours: []int{62}}
	for range 3 {
		takes(t, "as it was", g, w, down, 1, 2, 4, 6)
		g.Links[2].Colour, down[0], w.Nodes[0], w.Links[0] = 5, true, 5, 3
		takes(t, "turned", g, w, down, 0, 3)
		says(t, "another graph", api.Graph{Nodes: 1}, w, api.ErrNode)
		says(t, "a wrong graph", api.Graph{}, w, api.ErrArg)
		takes(t, "without anything", g, api.Want{}, nil)
		g.Links[2].Colour, down[0], w.Nodes[0], w.Links[0] = 62, false, 4, 1
	}
}
