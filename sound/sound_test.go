package sound

import (
	"fmt"
	"math"
	"regexp"
	"slices"
	"strconv"
	"strings"
	"testing"
	"unsafe"

	"waymark/api"
	"waymark/policy"
	"waymark/prune"
)

// chance makes numbers, the same ones each time.
type chance uint32

func (c *chance) next(most int) int {
	*c = *c*1664525 + 1013904223
	return int(*c>>9) % most
}

func sameWant(a, b api.Want) bool {
	return a.From == b.From && a.To == b.To && a.Bound == b.Bound && slices.Equal(a.Via, b.Via) && slices.Equal(a.Nodes, b.Nodes) && slices.Equal(a.Links, b.Links) && slices.Equal(a.Colours, b.Colours)
}

func sameRule(a, b api.Rule) bool {
	return a.Name == b.Name && a.Priority == b.Priority && a.Match == b.Match && a.Strict == b.Strict && sameWant(a.Want, b.Want)
}

func same(a, b []api.Rule) bool { return slices.EqualFunc(a, b, sameRule) }

// brief tells rules in a line that is not too long.
func brief(l []api.Rule) string { return fmt.Sprintf("%.400s", fmt.Sprint(l)) }

func checks(t *testing.T, g api.Graph, l []api.Rule, number int, e api.Errno) {
	t.Helper()
	if got, why := Check(g, l); got != number || why != e {
		t.Errorf("Check of %s: %d, %v, not %d, %v", brief(l), got, why, number, e)
	}
}

// town is a graph of six nodes and seven links.
func town() api.Graph {
	return api.Graph{Nodes: 6, Links: []api.Link{
		{A: 0, B: 1, Metric: 1, Colour: 0},
		{A: 1, B: 2, Metric: 7, Colour: 3},
		{A: 3, B: 2, Metric: api.MaxMetric, Colour: 62},
		{A: 0, B: 3, Metric: 2, Colour: 3},
		{A: 4, B: 0, Metric: 9, Colour: 31},
		{A: 2, B: 1, Metric: 7, Colour: 32},
		{A: 3, B: 4, Metric: 4, Colour: 0},
	}}
}

func plain(name string) api.Rule {
	return api.Rule{Name: name, Want: api.Want{From: 0, To: 1}}
}

// whole is a rule with something in each field that is right in town.
func whole(name string) api.Rule {
	return api.Rule{
		Name:     name,
		Priority: 7,
		Match:    api.Match{Src: api.Prefix{Addr: 0x0a000000, Len: 8}, Dst: api.Prefix{Addr: 0x14010000, Len: 16}, Proto: 6, Sport: 1000, Dport: 80},
		Want:     api.Want{From: 1, To: 2, Bound: 99, Via: []int{3, 4}, Nodes: []int{5}, Links: []int{0, 6}, Colours: []int{1, 2, 3}},
		Strict:   true,
	}
}

// lies looks at what is told of a rule at each place of a list.
func lies(t *testing.T, r api.Rule, e api.Errno) {
	t.Helper()
	for place := range 4 {
		l := []api.Rule{plain("p-0"), whole("p-1"), plain("p-2")}
		l = slices.Insert(l, place, r)
		if e == api.OK {
			checks(t, town(), l, -1, api.OK)
		} else {
			checks(t, town(), l, place, e)
		}
	}
}

func TestP1401CheckNothing(t *testing.T) {
	checks(t, api.Graph{Nodes: 1}, nil, -1, api.OK)
	checks(t, api.Graph{Nodes: 1}, []api.Rule{}, -1, api.OK)
	checks(t, town(), nil, -1, api.OK)
	checks(t, api.Graph{Nodes: 1}, []api.Rule{{Name: "a"}}, -1, api.OK)
	checks(t, api.Graph{Nodes: 1}, []api.Rule{{}}, 0, api.ErrSyntax)
	checks(t, town(), []api.Rule{whole("a"), plain("b")}, -1, api.OK)
}

// A graph that is wrong is told ahead of rules that are.
func TestP1401CheckGraph(t *testing.T) {
	good := api.Link{A: 0, B: 1, Metric: 1}
	for _, x := range []struct {
		g api.Graph
		e api.Errno
	}{
		{api.Graph{}, api.ErrArg},
		{api.Graph{Nodes: -1}, api.ErrArg},
		{api.Graph{Nodes: 41}, api.ErrArg},
		{api.Graph{Nodes: math.MaxInt}, api.ErrArg},
		{api.Graph{Links: slices.Repeat([]api.Link{good}, 121)}, api.ErrLong},
		{api.Graph{Nodes: 3, Links: []api.Link{good, {A: 3, B: 0, Metric: 1}}}, api.ErrNode},
		{api.Graph{Nodes: 3, Links: []api.Link{good, {A: 0, B: -1, Metric: 1}}}, api.ErrNode},
		{api.Graph{Nodes: 3, Links: []api.Link{good, {A: 2, B: 2, Metric: 1}}}, api.ErrNode},
		{api.Graph{Nodes: 3, Links: []api.Link{good, {A: 0, B: 1}}}, api.ErrArg},
		{api.Graph{Nodes: 3, Links: []api.Link{good, {A: 0, B: 1, Metric: 1, Colour: 63}}}, api.ErrArg},
	} {
		far := plain("a")
		far.Want.To = 99
		for _, l := range [][]api.Rule{nil, {plain("a")}, {whole("a")}, {{}}, {plain("a"), plain("a")}, {far}, {{Name: "a", Priority: -1}}} {
			checks(t, x.g, l, -1, x.e)
		}
	}
}

func TestP1401CheckNames(t *testing.T) {
	form := regexp.MustCompile(`\A[a-z][a-z0-9-]*\z`)
	names := []string{"", "a", "z", "a-", "b9-x", "q0", "from", "rule", "strict", "avoid-nodes", "-", "-a", "9", "9a", "1.2.3.4/8", ";", "a;", ";a", "a b", " a", "a ", "a\n", "\na", "a\n\n", "#", "a#", "a#b", "A", "aB", "a_b", "a.b", "a/b", "é", "aé", "à", "a\x00", "\x00", "a\xff", "a\u00a0", "ａ", "a1１", strings.Repeat("a", 9999) + " ", strings.Repeat("w", 10000)}
	for b := range 256 {
		one := string([]byte{byte(b)})
		names = append(names, one, "k"+one, "k-7"+one, one+"k", "k"+one+"k")
	}
	for _, name := range names {
		want := api.ErrSyntax
		if form.MatchString(name) {
			want = api.OK
		}
		lies(t, plain(name), want)
		lies(t, whole(name), want)
	}
	// How long a word may be is nowhere said.
	lies(t, plain(strings.Repeat("w", 10001)), api.OK)
	lies(t, plain(strings.Repeat("w", 1<<20)), api.OK)
	lies(t, plain(strings.Repeat("w", 1<<20)+"."), api.ErrSyntax)
}

// No rule may have an earlier one's name, whatever else it has.
func TestP1401CheckNamesTwice(t *testing.T) {
	checks(t, town(), []api.Rule{plain("a"), plain("a")}, 1, api.ErrSyntax)
	checks(t, town(), []api.Rule{plain("a"), whole("a")}, 1, api.ErrSyntax)
	checks(t, town(), []api.Rule{plain("a"), plain("b"), plain("b"), plain("a")}, 2, api.ErrSyntax)
	checks(t, town(), []api.Rule{plain("a"), plain("b"), plain("a"), plain("b")}, 2, api.ErrSyntax)
	checks(t, town(), []api.Rule{plain("a"), plain("aa"), plain("a-"), plain("a0"), plain("b")}, -1, api.OK)
	for n := range 30 {
		l := []api.Rule{}
		for i := range n {
			l = append(l, plain("r"+strconv.Itoa(i)))
		}
		checks(t, town(), l, -1, api.OK)
		for i := range n {
			checks(t, town(), append(l[:n:n], plain("r"+strconv.Itoa(i))), n, api.ErrSyntax)
		}
	}
}

func TestP1401CheckWants(t *testing.T) {
	for _, x := range []struct {
		e    api.Errno
		turn func(w *api.Want)
	}{
		{api.OK, func(w *api.Want) { w.From, w.To = 5, 5 }},
		{api.OK, func(w *api.Want) { *w = api.Want{Nodes: []int{0, 1, 2, 3, 4, 5}} }},
		{api.ErrNode, func(w *api.Want) { w.From = 6 }},
		{api.ErrNode, func(w *api.Want) { w.From = -1 }},
		{api.ErrNode, func(w *api.Want) { w.To = 6 }},
		{api.ErrNode, func(w *api.Want) { w.To = math.MinInt }},
		{api.OK, func(w *api.Want) { w.Via = []int{0, 5, 0, 5} }},
		{api.ErrNode, func(w *api.Want) { w.Via = []int{0, 6} }},
		{api.ErrNode, func(w *api.Want) { w.Via = []int{-1} }},
		{api.ErrNode, func(w *api.Want) { w.Via = []int{0, 0, 0, 0, 6} }},
		{api.ErrLong, func(w *api.Want) { w.Via = []int{0, 0, 0, 0, 0} }},
		{api.ErrNode, func(w *api.Want) { w.Nodes = []int{0, 5, 6} }},
		{api.ErrNode, func(w *api.Want) { w.Nodes = []int{math.MaxInt} }},
		{api.OK, func(w *api.Want) { w.Links = []int{0, 1, 2, 3, 4, 5, 6, 6} }},
		{api.ErrLink, func(w *api.Want) { w.Links = []int{0, 7} }},
		{api.ErrLink, func(w *api.Want) { w.Links = []int{-1} }},
		{api.OK, func(w *api.Want) { w.Colours = []int{0, 62} }},
		{api.ErrArg, func(w *api.Want) { w.Colours = []int{63} }},
		{api.ErrArg, func(w *api.Want) { w.Colours = []int{-1} }},
		{api.OK, func(w *api.Want) { w.Bound = math.MaxInt }},
		{api.ErrArg, func(w *api.Want) { w.Bound = -1 }},
		{api.ErrArg, func(w *api.Want) { w.Bound = math.MinInt }},
	} {
		for _, r := range []api.Rule{plain("x"), whole("x")} {
			x.turn(&r.Want)
			lies(t, r, x.e)
		}
	}
}

// number is one that a rule has: the most it may be, and where it stands.
type number struct {
	name string
	most int
	of   func(r *api.Rule) *int
}

func numbers() []number {
	return []number{
		{"Priority", math.MaxInt, func(r *api.Rule) *int { return &r.Priority }},
		{"Proto", 255, func(r *api.Rule) *int { return &r.Match.Proto }},
		{"Sport", 65535, func(r *api.Rule) *int { return &r.Match.Sport }},
		{"Dport", 65535, func(r *api.Rule) *int { return &r.Match.Dport }},
		{"Src.Len", 32, func(r *api.Rule) *int { return &r.Match.Src.Len }},
		{"Dst.Len", 32, func(r *api.Rule) *int { return &r.Match.Dst.Len }},
	}
}

func TestP1401CheckNumbers(t *testing.T) {
	values := []int{math.MinInt, math.MinInt32, -1 << 32, -256, -1, 0, 1, 31, 32, 33, 63, 64, 254, 255, 256, 257, 65534, 65535, 65536, 65537, 1 << 20, math.MaxInt32, 1 << 32, 1<<32 + 1, math.MaxInt - 1, math.MaxInt}
	for _, x := range numbers() {
		for _, n := range values {
			want := api.OK
			if n < 0 || n > x.most {
				want = api.ErrArg
			}
			for _, r := range []api.Rule{plain("x"), whole("x")} {
				*x.of(&r) = n
				lies(t, r, want)
			}
		}
	}
	// Bits of an address behind the prefix's Len are none of what is asked for.
	r := plain("x")
	r.Match.Src, r.Match.Dst = api.Prefix{Addr: math.MaxUint32}, api.Prefix{Addr: math.MaxUint32, Len: 1}
	lies(t, r, api.OK)
}

// What is wrong with one rule is looked for in the document's order: its name,
// its want, its numbers.
func TestP1401CheckOrderInARule(t *testing.T) {
	wants := map[api.Errno]api.Want{
		api.ErrNode: {From: 6, Links: []int{7}, Bound: -1},
		api.ErrLink: {Links: []int{7}, Bound: -1},
		api.ErrLong: {Via: []int{0, 0, 0, 0, 0}},
	}
	for _, x := range numbers() {
		for e, w := range wants {
			r := plain("x")
			r.Want = w
			*x.of(&r) = -1
			lies(t, r, e)
			for _, name := range []string{"", "X", "p-0"} {
				r.Name = name
				checks(t, town(), []api.Rule{plain("p-0"), r}, 1, api.ErrSyntax)
			}
		}
		r := plain("-")
		*x.of(&r) = -1
		lies(t, r, api.ErrSyntax)
	}
}

// The first rule that is wrong is told, whatever the ones behind it are.
func TestP1401CheckOrderOfRules(t *testing.T) {
	late, lost, bad := plain("a"), plain("b"), plain("C")
	late.Priority = -1
	lost.Want.From = 6
	checks(t, town(), []api.Rule{late, lost, bad}, 0, api.ErrArg)
	checks(t, town(), []api.Rule{lost, bad, late}, 0, api.ErrNode)
	checks(t, town(), []api.Rule{bad, late, lost}, 0, api.ErrSyntax)
	checks(t, town(), []api.Rule{plain("x"), late, bad, plain("x")}, 1, api.ErrArg)
	checks(t, town(), []api.Rule{plain("x"), plain("x"), late}, 1, api.ErrSyntax)
}

// How many rules there may be is not asked here.
func TestP1401CheckMany(t *testing.T) {
	var l []api.Rule
	for i := range 50000 {
		l = append(l, plain("r"+strconv.Itoa(i)))
	}
	checks(t, town(), l[:20], -1, api.OK)
	checks(t, town(), l[:21], -1, api.OK)
	checks(t, town(), l, -1, api.OK)
	checks(t, town(), append(l, l[0]), 50000, api.ErrSyntax)
}

// Rules that policy.Parse reads may still be wrong for a graph.
func TestP1401CheckParsed(t *testing.T) {
	for s, want := range map[string]struct {
		number int
		e      api.Errno
	}{
		"":                      {-1, api.OK},
		"rule a 1 from 0 to 5;": {-1, api.OK},
		"rule a 1 from 0 to 6;": {0, api.ErrNode},
		"rule a 1 from 0 to 1; rule a 1 from 1 to 0;":                        {1, api.ErrSyntax},
		"rule a 1 from 0 to 1; rule b 1 from 1 to 0 proto 256;":              {1, api.ErrArg},
		"rule a 1 from 0 to 1 via 1 2 3 4 5;":                                {0, api.ErrLong},
		"rule a 1 from 0 to 1 avoid-links 7;":                                {0, api.ErrLink},
		"rule a 1 from 0 to 1 avoid-colours 63;":                             {0, api.ErrArg},
		"rule a 1 from 0 to 1 src 1.2.3.4/32 dst 0.0.0.0/0 sport 1 dport 2;": {-1, api.OK},
	} {
		l, _, e := policy.Parse(s)
		if e != api.OK {
			t.Errorf("%q is no text of rules: %v", s, e)
		}
		checks(t, town(), l, want.number, want.e)
	}
}

// rule makes one that is right as often as not.
func (c *chance) rule() api.Rule {
	r := plain(string([]byte{byte('a' + c.next(26))}) + strconv.Itoa(c.next(40)))
	if c.next(2) == 0 {
		r = whole(r.Name)
	}
	r.Priority = c.next(5)
	r.Want.From = c.next(6)
	r.Strict = c.next(2) == 0
	switch c.next(16) {
	case 0:
		r.Name = []string{"", "A", "9", "a b", "a;", "-"}[c.next(6)]
	case 1:
		r.Want.To = 6 - c.next(2)*7
	case 2:
		r.Want.Via = make([]int, c.next(7))
	case 3:
		r.Want.Links = []int{c.next(9)}
	case 4:
		l := numbers()
		x := l[c.next(len(l))]
		*x.of(&r) = c.next(3) - 1
	case 5:
		l := numbers()[1:]
		x := l[c.next(len(l))]
		*x.of(&r) = x.most + c.next(2)
	}
	return r
}

// wrong tells what is wrong with a rule behind earlier ones, told another way:
// all that is, the first of it ahead.
func wrong(g api.Graph, earlier []api.Rule, r api.Rule) []api.Errno {
	var l []api.Errno
	if !regexp.MustCompile(`\A[a-z][a-z0-9-]*\z`).MatchString(r.Name) {
		l = append(l, api.ErrSyntax)
	}
	for _, x := range earlier {
		if x.Name == r.Name {
			l = append(l, api.ErrSyntax)
		}
	}
	if e := prune.Right(g, r.Want); e != api.OK {
		l = append(l, e)
	}
	for _, x := range numbers() {
		if n := *x.of(&r); n < 0 || n > x.most {
			l = append(l, api.ErrArg)
		}
	}
	return l
}

func TestP1401CheckAnyRules(t *testing.T) {
	c := chance(1401)
	times := map[api.Errno]int{}
	for range 20000 {
		var l []api.Rule
		for range c.next(8) {
			l = append(l, c.rule())
		}
		number, e := -1, api.OK
		for i, r := range l {
			if all := wrong(town(), l[:i], r); len(all) > 0 {
				number, e = i, all[0]
				break
			}
		}
		times[e]++
		checks(t, town(), l, number, e)
	}
	for _, e := range []api.Errno{api.OK, api.ErrArg, api.ErrSyntax, api.ErrNode, api.ErrLink, api.ErrLong} {
		if times[e] < 300 {
			t.Errorf("%v came %d times", e, times[e])
		}
	}
}

// at tells the rules at a node, told another way: again and again the first of
// those of the greatest Priority that are left.
func at(l []api.Rule, node int) []api.Rule {
	var out []api.Rule
	done := make([]bool, len(l))
	for {
		best := -1
		for i, r := range l {
			if !done[i] && r.Want.From == node && (best < 0 || r.Priority > l[best].Priority) {
				best = i
			}
		}
		if best < 0 {
			return out
		}
		done[best] = true
		out = append(out, l[best])
	}
}

func lists(t *testing.T, l []api.Rule, node int) {
	t.Helper()
	if got, want := At(l, node), at(l, node); !same(got, want) {
		t.Errorf("At(%s, %d): %s, not %s", brief(l), node, brief(got), brief(want))
	}
}

func TestP1401At(t *testing.T) {
	l := []api.Rule{plain("a"), whole("b"), plain("c"), whole("d"), plain("e")}
	l[0].Priority, l[1].Priority, l[2].Priority, l[3].Priority, l[4].Priority = 3, 3, 5, 3, 0
	for node, want := range map[int][]api.Rule{
		0:           {l[2], l[0], l[4]},
		1:           {l[1], l[3]},
		2:           nil, // where one leads to, not from
		3:           nil, // what one is via
		-1:          nil,
		math.MinInt: nil,
		math.MaxInt: nil,
	} {
		if got := At(l, node); !same(got, want) {
			t.Errorf("At %d: %s, not %s", node, brief(got), brief(want))
		}
	}
	for _, l := range [][]api.Rule{nil, {}} {
		for _, node := range []int{-1, 0, 1} {
			if got := At(l, node); len(got) != 0 {
				t.Errorf("At(nothing, %d): %s", node, brief(got))
			}
		}
	}
}

// Rules need not be right, nor nodes be some graph's.
func TestP1401AtWrongRules(t *testing.T) {
	n := []int{math.MinInt, -1, 0, 41, math.MaxInt}
	var l []api.Rule
	for _, from := range n {
		for _, priority := range n {
			l = append(l, api.Rule{Name: "-", Priority: priority, Match: api.Match{Proto: -1, Src: api.Prefix{Addr: 7, Len: 99}}, Want: api.Want{From: from, To: -5, Bound: -1, Via: n, Nodes: n, Links: n, Colours: n}, Strict: from == 0})
		}
	}
	l = append(l, api.Rule{}, api.Rule{})
	for _, node := range n {
		lists(t, l, node)
	}
}

// Priorities that lie farther apart than a number can tell.
func TestP1401AtFarApart(t *testing.T) {
	n := []int{0, math.MaxInt, math.MinInt, -1, 1, math.MaxInt - 1, math.MinInt + 1, math.MaxInt, math.MinInt, 0}
	var l []api.Rule
	for i, priority := range n {
		r := plain("r" + strconv.Itoa(i))
		r.Priority = priority
		l = append(l, r)
	}
	want := []int{1, 7, 5, 4, 0, 9, 3, 6, 2, 8}
	got := At(l, 0)
	if len(got) != len(want) {
		t.Fatalf("At: %s", brief(got))
	}
	for i, j := range want {
		if !sameRule(got[i], l[j]) {
			t.Errorf("At: rule %d is %s, not %s", i, got[i].Name, l[j].Name)
		}
	}
}

// Those of one Priority stay as they stand, however many there are.
func TestP1401AtMany(t *testing.T) {
	c := chance(14010)
	for _, n := range []int{1, 2, 3, 11, 12, 13, 20, 21, 64, 500} {
		for _, most := range []int{1, 2, 3, 100} {
			var l []api.Rule
			for i := range n {
				r := plain("r" + strconv.Itoa(i))
				r.Priority, r.Want.From = c.next(most), c.next(2)
				l = append(l, r)
			}
			lists(t, l, 0)
			lists(t, l, 1)
		}
	}
}

func TestP1401AtAnyRules(t *testing.T) {
	c := chance(14011)
	for range 3000 {
		var l []api.Rule
		for range c.next(21) {
			l = append(l, c.rule())
		}
		for node := range 7 {
			lists(t, l, node-1)
		}
	}
}

// listsOf are the lists of a rule.
func listsOf(r api.Rule) [][]int {
	return [][]int{r.Want.Via, r.Want.Nodes, r.Want.Links, r.Want.Colours}
}

// spoil turns all that a list of rules has, its spare room, too.
func spoil(l []api.Rule) {
	for _, r := range l {
		for _, x := range listsOf(r) {
			x = x[:cap(x)]
			for i := range x {
				x[i] = -7
			}
		}
	}
	clear(l[:cap(l)])
}

// What is answered is new memory: each list is one of its own.
func TestP1402NewMemory(t *testing.T) {
	// The lists that are handed in are one and the same.
	room := []int{3, 4, 5, 6}
	shared := whole("a")
	shared.Want.Via, shared.Want.Nodes, shared.Want.Links, shared.Want.Colours = room[:2], room[:2], room[:2], room[:2]
	l := []api.Rule{shared, shared, shared}
	was := []int{3, 4}
	first, second := At(l, 1), At(l, 1)
	spoil(second)
	if !same(first, l) || !slices.Equal(room, []int{3, 4, 5, 6}) {
		t.Errorf("the first answer became %s", brief(first))
	}
	for i, r := range first {
		for j, x := range listsOf(r) {
			if !slices.Equal(x, was) {
				t.Errorf("list %d of rule %d became %v", j, i, x)
			}
			x = x[:cap(x)]
			for k := range x {
				x[k] = -1
			}
		}
	}
	spoil(first)
	if !slices.Equal(room, []int{3, 4, 5, 6}) || !sameRule(l[0], l[2]) || l[0].Name != "a" {
		t.Errorf("what was handed in became %s, %v", brief(l), room)
	}
}

// Neither the rules, nor the graph, nor their spare room are turned or kept.
func TestP1402HandedIn(t *testing.T) {
	made := func() []api.Rule {
		l := []api.Rule{plain("a"), whole("b"), plain("c"), whole("d"), plain("e"), whole("f")}
		for i := range l {
			l[i].Priority = i
			l[i].Want.Links = append(make([]int, 0, 9), l[i].Want.Links...)
		}
		return l
	}
	want := at(made()[:4], 1)
	for node := range 3 {
		l := made()
		At(l[:4], node)
		if !same(l, made()) {
			t.Errorf("At %d turned what was handed in: %s", node, brief(l))
		}
	}
	l := made()
	got := At(l[:4], 1)
	spoil(l)
	if !same(got, want) {
		t.Errorf("what was answered became %s", brief(got))
	}
	l, g := made(), town()
	checks(t, g, l, -1, api.OK)
	if !same(l, made()) || !slices.Equal(g.Links, town().Links) {
		t.Errorf("Check turned what was handed in: %s, %v", brief(l), g)
	}
	spoil(l)
	checks(t, g, made(), -1, api.OK)
}

// The names of an answer stay as they are when the bytes that they were made
// of are turned.
func TestP1402HandedInNames(t *testing.T) {
	b := []byte("gold")
	l := []api.Rule{plain(unsafe.String(unsafe.SliceData(b), len(b)))}
	got := At(l, 0)
	clear(b)
	if len(got) != 1 || got[0].Name != "gold" {
		t.Errorf("what was answered became %s", brief(got))
	}
}

// The same arguments get the same answer, whatever was asked between.
func TestP1402SameAgain(t *testing.T) {
	twice := []api.Rule{plain("a"), plain("a")}
	for _, between := range [][]api.Rule{nil, {plain("a")}, {plain("b"), whole("c")}, {{}}, twice, slices.Repeat(twice, 300)} {
		Check(town(), between)
		Check(api.Graph{}, between)
		At(between, 0)
		checks(t, town(), []api.Rule{plain("b"), whole("a")}, -1, api.OK)
		checks(t, town(), twice, 1, api.ErrSyntax)
		lists(t, []api.Rule{whole("d"), plain("a"), whole("c")}, 1)
	}
}
