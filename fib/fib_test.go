package fib

import (
	"math"
	"slices"
	"sync"
	"testing"

	"waymark/api"
	"waymark/entry"
)

func node(n int) api.Seg { return api.Seg{To: n} }

func edge(n int) api.Seg { return api.Seg{Edge: true, To: n} }

// extremes are numbers at which arithmetic may go wrong, among them those that
// wrap round when a base is added or taken away.
func extremes() []int {
	l := []int{math.MinInt, math.MinInt + 1, math.MinInt32, -1 << 32, -1 << 16, -256, -2, -1, 1 << 20, 1 << 32, 1<<32 + 1, math.MaxInt32, math.MaxInt - 1, math.MaxInt}
	for _, base := range []int{api.NodeBase, api.EdgeBase} {
		for near := -3; near <= 3; near++ {
			l = append(l, -base+near, math.MinInt+base+near, math.MaxInt-base+near, 1<<16+base+near, 1<<32+base+near, -1<<32+base+near)
		}
	}
	return l
}

// ring has that many nodes and links, which go round and round.
func ring(nodes, links int) api.Graph {
	g := api.Graph{Nodes: nodes}
	for i := range links {
		g.Links = append(g.Links, api.Link{A: i % nodes, B: (i + 1) % nodes, Metric: 1 + i, Colour: i % 63})
	}
	return g
}

// wrong are graphs that graph.Check refuses, each of which has node 0 or edge 0
// for those that do not ask it.
func wrong() map[string]api.Graph {
	good := api.Link{A: 0, B: 1, Metric: 1}
	return map[string]api.Graph{
		"no nodes":          {},
		"no nodes, a link":  {Links: []api.Link{good}},
		"nodes below 0":     {Nodes: -1, Links: []api.Link{good}},
		"the least nodes":   {Nodes: math.MinInt},
		"too many nodes":    {Nodes: api.MaxNodes + 1, Links: []api.Link{good}},
		"the most nodes":    {Nodes: math.MaxInt, Links: []api.Link{good}},
		"too many links":    {Nodes: 2, Links: slices.Repeat([]api.Link{good}, api.MaxLinks+1)},
		"a link to no node": {Nodes: 2, Links: []api.Link{good, {A: 0, B: 2, Metric: 1}}},
		"a link below 0":    {Nodes: 2, Links: []api.Link{good, {A: -1, B: 1, Metric: 1}}},
		"a link to itself":  {Nodes: 2, Links: []api.Link{good, {A: 1, B: 1, Metric: 1}}},
		"no Metric":         {Nodes: 2, Links: []api.Link{good, {A: 0, B: 1}}},
		"a great Metric":    {Nodes: 2, Links: []api.Link{good, {A: 0, B: 1, Metric: api.MaxMetric + 1}}},
		"a great Colour":    {Nodes: 2, Links: []api.Link{good, {A: 0, B: 1, Metric: 1, Colour: 63}}},
		"a Colour below 0":  {Nodes: 2, Links: []api.Link{good, {A: 0, B: 1, Metric: 1, Colour: -1}}},
	}
}

func TestP1901LabelExamples(t *testing.T) {
	for s, want := range map[api.Seg]int{
		node(3):   16003,
		node(0):   16000,
		node(39):  16039,
		node(40):  16040,
		node(240): 16240,
		edge(0):   24000,
		edge(3):   24003,
		edge(239): 24239,
		edge(240): 24240,
		node(241): -1,
		edge(241): -1,
		node(-1):  -1,
		edge(-1):  -1,
	} {
		if got := Label(s); got != want {
			t.Errorf("Label of %v: %d, not %d", s, got, want)
		}
	}
}

// Every number from 0 to 2 * MaxLinks has a label, no other one has.
func TestP1901LabelOfAll(t *testing.T) {
	for to := -1000; to <= 1000; to++ {
		nodes, edges := -1, -1
		if 0 <= to && to <= 2*api.MaxLinks {
			nodes, edges = api.NodeBase+to, api.EdgeBase+to
		}
		if got := Label(node(to)); got != nodes {
			t.Errorf("Label of node %d: %d", to, got)
		}
		if got := Label(edge(to)); got != edges {
			t.Errorf("Label of edge %d: %d", to, got)
		}
	}
	for _, to := range extremes() {
		if a, b := Label(node(to)), Label(edge(to)); a != -1 || b != -1 {
			t.Errorf("Label of %d: %d, %d", to, a, b)
		}
	}
}

func refusedLabel(t *testing.T, name string, g api.Graph, label int) {
	t.Helper()
	if s, ok := Seg(g, label); ok || s != (api.Seg{}) {
		t.Errorf("%s: Seg of %d: %v, %v", name, label, s, ok)
	}
	for _, l := range [][]api.Entry{
		{{Label: label, Last: true}},
		{{Label: api.NodeBase}, {Label: label, Last: true}},
		{{Label: label}, {Label: api.NodeBase, Last: true}},
		{{Label: api.NodeBase}, {Label: label}, {Label: api.NodeBase, Last: true}},
	} {
		if s, ok := Segs(g, l); ok || len(s) != 0 {
			t.Errorf("%s: Segs of %v: %v, %v", name, l, s, ok)
		}
	}
}

// Each label at which a graph could have something is looked at, and what
// stands around it.
func TestP1901SegOfAll(t *testing.T) {
	for name, g := range map[string]api.Graph{
		"one node":     {Nodes: 1},
		"no links":     {Nodes: 7},
		"one link":     ring(2, 1),
		"three":        ring(3, 2),
		"a ring":       ring(5, 5),
		"fewer nodes":  ring(2, 60),
		"the most":     ring(api.MaxNodes, api.MaxLinks),
		"most links":   ring(2, api.MaxLinks),
		"most nodes":   {Nodes: api.MaxNodes},
		"an edge less": ring(api.MaxNodes, api.MaxLinks-1),
	} {
		for label := api.NodeBase - 300; label < api.EdgeBase+600; label++ {
			var want api.Seg
			switch {
			case label >= api.NodeBase && label < api.NodeBase+g.Nodes:
				want = node(label - api.NodeBase)
			case label >= api.EdgeBase && label < api.EdgeBase+2*len(g.Links):
				want = edge(label - api.EdgeBase)
			default:
				refusedLabel(t, name, g, label)
				continue
			}
			if got, ok := Seg(g, label); !ok || got != want {
				t.Errorf("%s: Seg of %d: %v, %v, not %v", name, label, got, ok, want)
			}
		}
		for label := -300; label < 300; label++ {
			refusedLabel(t, name, g, label)
		}
		for _, label := range extremes() {
			refusedLabel(t, name, g, label)
		}
	}
}

// Seg is Label back, for what the graph has.
func TestP1901ThereAndBack(t *testing.T) {
	for nodes := 2; nodes <= api.MaxNodes; nodes++ {
		g := ring(nodes, 3*nodes)
		for n := range 2*api.MaxLinks + 1 {
			for _, s := range []api.Seg{node(n), edge(n)} {
				there := !s.Edge && n < g.Nodes || s.Edge && n < 2*len(g.Links)
				got, ok := Seg(g, Label(s))
				if ok != there || there && got != s || !there && got != (api.Seg{}) {
					t.Errorf("%d nodes: Seg of Label of %v: %v, %v", g.Nodes, s, got, ok)
				}
			}
		}
	}
}

func TestP1901SegOfWrongGraph(t *testing.T) {
	for name, g := range wrong() {
		for _, label := range []int{16000, 16001, 16039, 16040, 24000, 24001, 24002, 24239, 24240, 15999, 23999, -1, 0, math.MinInt, math.MaxInt} {
			refusedLabel(t, name, g, label)
		}
	}
}

func TestP1901Stack(t *testing.T) {
	for _, x := range []struct {
		name string
		l    []api.Seg
		want []api.Entry
	}{
		{"nil", nil, nil},
		{"empty", []api.Seg{}, nil},
		{"the zero segment", []api.Seg{{}}, []api.Entry{{Label: 16000, TTL: 64, Last: true}}},
		{"an edge", []api.Seg{edge(7)}, []api.Entry{{Label: 24007, TTL: 64, Last: true}}},
		{"the greatest", []api.Seg{edge(240), node(240)}, []api.Entry{{Label: 24240, TTL: 64}, {Label: 16240, TTL: 64, Last: true}}},
		{"one twice", []api.Seg{node(5), node(5)}, []api.Entry{{Label: 16005, TTL: 64}, {Label: 16005, TTL: 64, Last: true}}},
		{"three", []api.Seg{node(2), edge(1), node(0)}, []api.Entry{{Label: 16002, TTL: 64}, {Label: 24001, TTL: 64}, {Label: 16000, TTL: 64, Last: true}}},
	} {
		if got := Stack(x.l, 64); !slices.Equal(got, x.want) {
			t.Errorf("%s: Stack: %v, not %v", x.name, got, x.want)
		}
	}
}

func TestP1901StackTTL(t *testing.T) {
	ttls := []int{math.MinInt, math.MinInt32, -1 << 32, -256, -255, -1, 256, 257, 511, 512, 1 << 16, 1 << 32, 1<<32 + 64, math.MaxInt32, math.MaxInt}
	for ttl := range 256 {
		ttls = append(ttls, ttl)
	}
	for _, ttl := range ttls {
		want := ttl
		if ttl < 0 {
			want = 0
		} else if ttl > 255 {
			want = 255
		}
		got := Stack([]api.Seg{node(1), edge(2)}, ttl)
		if !slices.Equal(got, []api.Entry{{Label: 16001, TTL: want}, {Label: 24002, TTL: want, Last: true}}) {
			t.Errorf("Stack, TTL %d: %v", ttl, got)
		}
	}
}

// One segment without a label, at whichever place, and there is no stack.
func TestP1901StackRefuses(t *testing.T) {
	for _, to := range append(extremes(), 241, 242, 1000, api.NodeBase, api.EdgeBase) {
		for _, s := range []api.Seg{node(to), edge(to)} {
			for place := range 4 {
				l := []api.Seg{node(0), edge(240), node(240), edge(0)}
				l[place] = s
				if got := Stack(l, 64); len(got) != 0 {
					t.Errorf("Stack of %v at %d: %v", s, place, got)
				}
			}
			if got := Stack([]api.Seg{s}, 64); len(got) != 0 {
				t.Errorf("Stack of %v: %v", s, got)
			}
		}
	}
}

// A list may have more segments than a policy's, and more than package entry
// writes: the chapter names no most.
func TestP1901StackLong(t *testing.T) {
	for _, n := range []int{1, 2, 10, 11, 255, 256, 1000, 1001, 1 << 16} {
		l := make([]api.Seg, n)
		for i := range l {
			l[i] = api.Seg{Edge: i%3 == 0, To: i % 241}
		}
		got := Stack(l, 9)
		if len(got) != n {
			t.Fatalf("Stack of %d: %d", n, len(got))
		}
		for i, e := range got {
			if e != (api.Entry{Label: Label(l[i]), TTL: 9, Last: i == n-1}) {
				t.Fatalf("Stack of %d at %d: %v", n, i, e)
			}
		}
	}
}

// Of a stack the labels alone are looked at.
func TestP1901Segs(t *testing.T) {
	g := ring(3, 2)
	want := []api.Seg{node(2), edge(3), node(0), edge(0), node(0)}
	for name, l := range map[string][]api.Entry{
		"as Stack makes it": {{Label: 16002}, {Label: 24003}, {Label: 16000}, {Label: 24000}, {Label: 16000, Last: true}},
		"no Last":           {{Label: 16002}, {Label: 24003}, {Label: 16000}, {Label: 24000}, {Label: 16000}},
		"Last first":        {{Label: 16002, Last: true}, {Label: 24003, Last: true}, {Label: 16000}, {Label: 24000}, {Label: 16000}},
		"Class and TTL":     {{Label: 16002, Class: 7, TTL: 255}, {Label: 24003, Class: -1, TTL: -1}, {Label: 16000, Class: 8, TTL: 256}, {Label: 24000, Class: math.MinInt}, {Label: 16000, TTL: math.MaxInt}},
	} {
		if got, ok := Segs(g, l); !ok || !slices.Equal(got, want) {
			t.Errorf("%s: Segs: %v, %v", name, got, ok)
		}
	}
	for _, l := range [][]api.Entry{nil, {}} {
		if got, ok := Segs(g, l); !ok || len(got) != 0 {
			t.Errorf("Segs of nothing: %v, %v", got, ok)
		}
	}
}

// Where there is no label, none of them is none: of a wrong graph, too.
func TestP1901SegsOfNothing(t *testing.T) {
	for name, g := range wrong() {
		for _, l := range [][]api.Entry{nil, {}} {
			if got, ok := Segs(g, l); !ok || len(got) != 0 {
				t.Errorf("%s: Segs of nothing: %v, %v", name, got, ok)
			}
		}
	}
}

// Segs is Stack back, by way of the bytes that package entry writes, too.
func TestP1901StackAndBack(t *testing.T) {
	g := ring(api.MaxNodes, api.MaxLinks)
	for n := 1; n <= 1000; n += 37 {
		var l []api.Seg
		for i := range n {
			if i%3 == 0 {
				l = append(l, node(i*7%api.MaxNodes))
			} else {
				l = append(l, edge(i*11%(2*api.MaxLinks)))
			}
		}
		stack := Stack(l, n)
		if got, ok := Segs(g, stack); !ok || !slices.Equal(got, l) {
			t.Fatalf("Segs of Stack of %d: %v, %v", n, got, ok)
		}
		b, e := entry.Put(stack)
		if e != api.OK {
			t.Fatalf("%d: no bytes: %v", n, e)
		}
		back, _ := entry.Get(b)
		if got, ok := Segs(g, back); !ok || !slices.Equal(got, l) {
			t.Fatalf("Segs of the bytes of %d: %v, %v", n, got, ok)
		}
	}
}

// A long stack is read whole, and its last label is looked at like the first.
func TestP1901SegsLong(t *testing.T) {
	g := ring(api.MaxNodes, api.MaxLinks)
	l := slices.Repeat([]api.Entry{{Label: 16039}, {Label: 24239}}, 1<<19)
	got, ok := Segs(g, l)
	if !ok || len(got) != len(l) || got[0] != node(39) || got[len(got)-1] != edge(239) {
		t.Errorf("Segs of %d: %d, %v", len(l), len(got), ok)
	}
	l[len(l)-1].Label++
	if got, ok := Segs(g, l); ok || len(got) != 0 {
		t.Errorf("Segs, the last one none: %d, %v", len(got), ok)
	}
}

// What is handed in stays as it is, its spare room too.
func TestP1902HandedIn(t *testing.T) {
	seg := api.Seg{Edge: true, To: -7}
	label := api.Entry{Label: -7, Class: -7, TTL: -7, Last: true}
	link := api.Link{A: -7, B: -7, Metric: -7, Colour: -7}
	for _, l := range [][]api.Seg{{}, {node(2), edge(1)}, {node(1), node(-1), edge(1)}} {
		room := append(slices.Clone(l), seg, seg, seg)
		was := slices.Clone(room)
		Stack(room[:len(l)], 300)
		if !slices.Equal(room, was) {
			t.Errorf("Stack turned %v to %v", was, room)
		}
	}
	for _, l := range [][]api.Entry{{}, {{Label: 16001, Class: 9, TTL: -1}, {Label: 24001}}, {{Label: 16000}, {Label: 1}, {Label: 16000}}} {
		room := append(slices.Clone(l), label, label, label)
		was := slices.Clone(room)
		links := append(ring(3, 2).Links, link, link)
		lay := slices.Clone(links)
		Segs(api.Graph{Nodes: 3, Links: links[:2]}, room[:len(l)])
		for _, e := range l {
			Seg(api.Graph{Nodes: 3, Links: links[:2]}, e.Label)
		}
		if !slices.Equal(room, was) || !slices.Equal(links, lay) {
			t.Errorf("Segs turned %v, %v to %v, %v", was, lay, room, links)
		}
	}
}

// What is answered stays as it is, whatever is done with what was handed in
// and with other answers.
func TestP1902NewMemory(t *testing.T) {
	in := []api.Seg{node(2), edge(1), node(0)}
	first := Stack(in, 7)
	want := []api.Entry{{Label: 16002, TTL: 7}, {Label: 24001, TTL: 7}, {Label: 16000, TTL: 7, Last: true}}
	second := Stack(in, 7)
	clear(in)
	clear(second[:cap(second)])
	if !slices.Equal(first, want) {
		t.Errorf("Stack's answer became %v", first)
	}

	g := ring(3, 2)
	l := slices.Clone(want)
	segs, _ := Segs(g, l)
	other, _ := Segs(g, l)
	clear(l)
	clear(g.Links)
	clear(other[:cap(other)])
	if !slices.Equal(segs, []api.Seg{node(2), edge(1), node(0)}) {
		t.Errorf("Segs's answer became %v", segs)
	}
}

// same tells whether what all calls answer is what the document asks.
func same() bool {
	g := ring(3, 2)
	l := []api.Seg{node(2), edge(3), node(0)}
	stack := Stack(l, 8)
	segs, all := Segs(g, stack)
	s, ok := Seg(g, 24001)
	_, none := Seg(g, 16003)
	return slices.Equal(stack, []api.Entry{{Label: 16002, TTL: 8}, {Label: 24003, TTL: 8}, {Label: 16000, TTL: 8, Last: true}}) &&
		slices.Equal(segs, l) && all && s == edge(1) && ok && !none && Label(node(3)) == 16003
}

// The same arguments get the same answers, whatever was asked between.
func TestP1902SameAgain(t *testing.T) {
	for i, between := range []func(){
		func() {},
		func() { Label(node(-1)) },
		func() { Seg(ring(40, 120), 16003) },
		func() { Seg(api.Graph{}, 16000) },
		func() { Stack([]api.Seg{edge(241)}, 9) },
		func() { Stack([]api.Seg{edge(9), node(9)}, 255) },
		func() { Segs(ring(2, 1), []api.Entry{{Label: 16002}}) },
		func() { Segs(ring(40, 120), []api.Entry{{Label: 16039}}) },
		func() { Segs(api.Graph{}, nil) },
	} {
		between()
		if !same() {
			t.Errorf("%d: another answer", i)
		}
	}
	var all sync.WaitGroup
	for range 8 {
		all.Go(func() {
			for range 200 {
				if !same() {
					t.Error("another answer beside others")
				}
			}
		})
	}
	all.Wait()
}
