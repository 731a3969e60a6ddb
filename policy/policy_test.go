package policy

import (
	"fmt"
	"math"
	"regexp"
	"slices"
	"strconv"
	"strings"
	"testing"
	"unsafe"

	"waymark/api"
	"waymark/words"
)

// chance makes numbers, the same ones each time.
type chance uint32

func (c *chance) next(most int) int {
	*c = *c*1664525 + 1013904223
	return int(*c>>9) % most
}

func sameWant(a, b api.Want) bool {
	return a.From == b.From && a.To == b.To && a.Bound == b.Bound && slices.Equal(a.Via, b.Via) && slices.Equal(a.Nodes, b.Nodes) && slices.Equal(a.Links, b.Links) && slices.Equal(a.Colours, b.Colours)
}

func sameRule(a, b api.Rule) bool {
	return a.Name == b.Name && a.Priority == b.Priority && a.Match == b.Match && a.Strict == b.Strict && sameWant(a.Want, b.Want)
}

func same(a, b []api.Rule) bool { return slices.EqualFunc(a, b, sameRule) }

// brief tells rules in a line that is not too long.
func brief(l []api.Rule) string { return fmt.Sprintf("%.400s", fmt.Sprint(l)) }

func parses(t *testing.T, s string, want ...api.Rule) {
	t.Helper()
	if got, at, e := Parse(s); e != api.OK || at != -1 || !same(got, want) {
		t.Errorf("Parse(%.200q): %s, %d, %v, not %s", s, brief(got), at, e, brief(want))
	}
}

func refused(t *testing.T, s string, where int, why api.Errno) {
	t.Helper()
	if got, at, e := Parse(s); e != why || at != where || len(got) != 0 {
		t.Errorf("Parse(%.200q): %s, %d, %v, not %d, %v", s, brief(got), at, e, where, why)
	}
}

func shows(t *testing.T, want string, l ...api.Rule) {
	t.Helper()
	if got := Show(l); got != want {
		t.Errorf("Show(%s): %.400q, not %.400q", brief(l), got, want)
	}
}

const (
	short = "rule a 1 from 0 to 1;"
	whole = "rule gold 7 from 1 to 2 via 3 4 avoid-nodes 5 avoid-links 0 6 avoid-colours 1 2 3 cost 99 src 10.0.0.0/8 dst 20.1.0.0/16 proto 6 sport 1000 dport 80 strict;"
)

func shortRule() api.Rule {
	return api.Rule{Name: "a", Priority: 1, Want: api.Want{To: 1}}
}

func wholeRule() api.Rule {
	return api.Rule{
		Name:     "gold",
		Priority: 7,
		Match:    api.Match{Src: api.Prefix{Addr: 0x0a000000, Len: 8}, Dst: api.Prefix{Addr: 0x14010000, Len: 16}, Proto: 6, Sport: 1000, Dport: 80},
		Want:     api.Want{From: 1, To: 2, Bound: 99, Via: []int{3, 4}, Nodes: []int{5}, Links: []int{0, 6}, Colours: []int{1, 2, 3}},
		Strict:   true,
	}
}

// clauseWords are all that a clause can begin with, in the document's order.
func clauseWords() []string {
	return strings.Fields("from to via avoid-nodes avoid-links avoid-colours cost src dst proto sport dport strict")
}

// wholeClauses are the clauses of whole, each as a text.
func wholeClauses() []string {
	return []string{"from 1", "to 2", "via 3 4", "avoid-nodes 5", "avoid-links 0 6", "avoid-colours 1 2 3", "cost 99", "src 10.0.0.0/8", "dst 20.1.0.0/16", "proto 6", "sport 1000", "dport 80", "strict"}
}

func TestP1301Nothing(t *testing.T) {
	for _, s := range []string{"", " ", "\n", " \n\n ", "#", "# rule a 1 from 0 to 1;", "#;\n#\n ", strings.Repeat(" ", 10000), "#" + strings.Repeat("!", 9999)} {
		parses(t, s)
	}
}

// Each clause alone fills its own field and no other one.
func TestP1301EachClause(t *testing.T) {
	for clause, turn := range map[string]func(*api.Rule){
		"via 3":               func(r *api.Rule) { r.Want.Via = []int{3} },
		"via 3 2 3 0":         func(r *api.Rule) { r.Want.Via = []int{3, 2, 3, 0} },
		"via 5 4 3 2 1 0":     func(r *api.Rule) { r.Want.Via = []int{5, 4, 3, 2, 1, 0} },
		"avoid-nodes 9 8":     func(r *api.Rule) { r.Want.Nodes = []int{9, 8} },
		"avoid-nodes 0":       func(r *api.Rule) { r.Want.Nodes = []int{0} },
		"avoid-links 9 9":     func(r *api.Rule) { r.Want.Links = []int{9, 9} },
		"avoid-links 119":     func(r *api.Rule) { r.Want.Links = []int{119} },
		"avoid-colours 62 63": func(r *api.Rule) { r.Want.Colours = []int{62, 63} },
		"avoid-colours 0 0":   func(r *api.Rule) { r.Want.Colours = []int{0, 0} },
		"cost 12":             func(r *api.Rule) { r.Want.Bound = 12 },
		"cost 0":              func(*api.Rule) {},
		"src 1.2.3.4/32":      func(r *api.Rule) { r.Match.Src = api.Prefix{Addr: 0x01020304, Len: 32} },
		"src 1.2.3.4/24":      func(r *api.Rule) { r.Match.Src = api.Prefix{Addr: 0x01020300, Len: 24} },
		"src 0.0.0.0/0":       func(*api.Rule) {},
		"src 9.9.9.9/0":       func(*api.Rule) {},
		"dst 255.0.0.0/1":     func(r *api.Rule) { r.Match.Dst = api.Prefix{Addr: 1 << 31, Len: 1} },
		"dst 0.0.0.0/9":       func(r *api.Rule) { r.Match.Dst = api.Prefix{Len: 9} },
		"dst 0.0.0.0/0":       func(*api.Rule) {},
		"proto 17":            func(r *api.Rule) { r.Match.Proto = 17 },
		"proto 256":           func(r *api.Rule) { r.Match.Proto = 256 },
		"proto 0":             func(*api.Rule) {},
		"sport 1":             func(r *api.Rule) { r.Match.Sport = 1 },
		"sport 65536":         func(r *api.Rule) { r.Match.Sport = 65536 },
		"sport 0":             func(*api.Rule) {},
		"dport 2":             func(r *api.Rule) { r.Match.Dport = 2 },
		"dport 65536":         func(r *api.Rule) { r.Match.Dport = 65536 },
		"dport 0":             func(*api.Rule) {},
		"strict":              func(r *api.Rule) { r.Strict = true },
	} {
		want := api.Rule{Name: "x", Priority: 5, Want: api.Want{From: 8, To: 9}}
		turn(&want)
		parses(t, "rule x 5 from 8 to 9 "+clause+";", want)
		parses(t, "rule x 5 from 8 "+clause+" to 9;", want)
		parses(t, "rule x 5 "+clause+" to 9 from 8;", want)
	}
	parses(t, whole, wholeRule())
}

// The order of the clauses tells nothing, nor what of them is there.
func TestP1301AnyOrder(t *testing.T) {
	c := chance(1301)
	for range 3000 {
		clauses := wholeClauses()
		for i := range clauses {
			j := i + c.next(len(clauses)-i)
			clauses[i], clauses[j] = clauses[j], clauses[i]
		}
		parses(t, "rule gold 7 "+strings.Join(clauses, " ")+";", wholeRule())
	}
}

// A name is any word: one that begins a clause, a rule, and one that is there
// already.
func TestP1301Names(t *testing.T) {
	for _, name := range append(clauseWords(), "rule", "a", "z", "a-", "b9-x", "avoid", "strictly", strings.Repeat("q", 9000)) {
		want := api.Rule{Name: name, Priority: 3, Want: api.Want{From: 1, To: 2}}
		text := "rule " + name + " 3 from 1 to 2;"
		parses(t, text, want)
		if len(name) < 20 {
			parses(t, text+text, want, want)
		}
	}
	for _, name := range []string{"7", "7a", ";", "1.2.3.4/8"} {
		refused(t, "rule "+name+" 3 from 1 to 2;", 5, api.ErrSyntax)
	}
}

// Blanks, comments and their absence tell nothing.
func TestP1301Between(t *testing.T) {
	parses(t, "\n#all\n rule\na\n#x\n1 from 0#y\nto\n\n1 ; # end", shortRule())
	parses(t, "rule a 1from 0to 1;", shortRule())
	parses(t, short+short, shortRule(), shortRule())
	parses(t, short+"\n"+whole+"# more\n"+short, shortRule(), wholeRule(), shortRule())
	parses(t, "rule a 1from 0to 1via 2 3strict;", api.Rule{Name: "a", Priority: 1, Want: api.Want{To: 1, Via: []int{2, 3}}, Strict: true})
}

// Each number may be from 0 to 2^31 - 1, wherever it stands.
func TestP1301EveryPlaceOfANumber(t *testing.T) {
	places := []string{
		"rule a @ from 0 to 1;",
		"rule a 1 from @ to 1;",
		"rule a 1 from 0 to @;",
		"rule a 1 from 0 to 1 via @;",
		"rule a 1 from 0 to 1 via 4 @;",
		"rule a 1 from 0 to 1 avoid-nodes @ 4;",
		"rule a 1 from 0 to 1 avoid-links @;",
		"rule a 1 from 0 to 1 avoid-colours 1 @ 2;",
		"rule a 1 from 0 to 1 cost @;",
		"rule a 1 from 0 to 1 proto @;",
		"rule a 1 from 0 to 1 sport @;",
		"rule a 1 from 0 to 1 dport @;",
	}
	fields := []func(api.Rule) int{
		func(r api.Rule) int { return r.Priority },
		func(r api.Rule) int { return r.Want.From },
		func(r api.Rule) int { return r.Want.To },
		func(r api.Rule) int { return r.Want.Via[0] },
		func(r api.Rule) int { return r.Want.Via[1] },
		func(r api.Rule) int { return r.Want.Nodes[0] },
		func(r api.Rule) int { return r.Want.Links[0] },
		func(r api.Rule) int { return r.Want.Colours[1] },
		func(r api.Rule) int { return r.Want.Bound },
		func(r api.Rule) int { return r.Match.Proto },
		func(r api.Rule) int { return r.Match.Sport },
		func(r api.Rule) int { return r.Match.Dport },
	}
	for i, place := range places {
		for _, n := range []int{0, 1, 9, 10, 100, 65535, 1 << 24, 1<<31 - 2, 1<<31 - 1} {
			s := strings.Replace(place, "@", strconv.Itoa(n), 1)
			got, at, e := Parse(s)
			if e != api.OK || at != -1 || len(got) != 1 || fields[i](got[0]) != n {
				t.Errorf("Parse(%q): %v, %d, %v", s, got, at, e)
			}
		}
		where := strings.Index(place, "@")
		for _, n := range []string{"00", "01", "007", "2147483648", "2147483650", "3000000000", "4294967296", "4294967297", "10000000000", "9223372036854775807", "9223372036854775808", "18446744073709551616", "18446744073709551617", "1.", "1.0", "1/2", "1/", "0.", "10.0.0.0/8", "1.2.3.4", strings.Repeat("9", 9000), strings.Repeat("0", 9000)} {
			refused(t, strings.Replace(place, "@", n, 1), where, api.ErrSyntax)
		}
	}
}

func TestP1301EveryPlaceOfAPrefix(t *testing.T) {
	for _, word := range []string{"src", "dst"} {
		begin := "rule a 1 from 0 to 1 " + word + " "
		for _, p := range []string{"0", "8", "10.0.0.0", "10.0.0/8", "10.0.0.0.0/8", "10.0.0.0/33", "10.0.0.256/8", "10.0.0.01/8", "10.0.0.0/08", "10.0.0.0/", "10.0.0.0/8/8", "10.0.0.0/8.", "10/8", "strict", "src", "dst", ";", "rule"} {
			refused(t, begin+p+";", len(begin), api.ErrSyntax)
		}
		refused(t, begin+"10.0.0.0/8 11.0.0.0/8;", len(begin)+11, api.ErrSyntax)
		refused(t, begin+"10.0.0.0 /8;", len(begin)+9, api.ErrSyntax)
		refused(t, begin+"10.0.0.0/8 "+word+" 10.0.0.0/8;", len(begin)+11, api.ErrSyntax)
		refused(t, begin+"0.0.0.0/0 "+word+" 10.0.0.0/8;", len(begin)+10, api.ErrSyntax)
	}
}

// No clause may be there twice, not even where it told nothing.
func TestP1301Twice(t *testing.T) {
	for i, first := range wholeClauses() {
		word, _, _ := strings.Cut(first, " ")
		for _, between := range []string{"", "avoid-links 7 ", "strict ", "from 3 to 4 "} {
			if strings.Contains(between, word) {
				continue
			}
			begin := "rule a 1 " + first + " " + between
			refused(t, begin+first+" from 0 to 1;", len(begin), api.ErrSyntax)
			refused(t, begin+first, len(begin), api.ErrSyntax)
			refused(t, begin+word, len(begin), api.ErrSyntax)
		}
		// Another rule begins anew.
		if i > 1 {
			s := "rule a 1 from 0 to 1 " + first + ";"
			if got, at, e := Parse(s + s); e != api.OK || at != -1 || len(got) != 2 || !sameRule(got[0], got[1]) {
				t.Errorf("Parse(%q) twice: %v, %d, %v", s, got, at, e)
			}
		}
	}
	for _, word := range []string{"from", "to", "cost", "proto", "sport", "dport"} {
		begin := "rule a 1 " + word + " 0 "
		refused(t, begin+word+" 0;", len(begin), api.ErrSyntax)
	}
}

func TestP1301FromAndToMustBeThere(t *testing.T) {
	refused(t, "rule a 1;", 8, api.ErrSyntax)
	refused(t, "rule a 1 from 0;", 15, api.ErrSyntax)
	refused(t, "rule a 1 to 0 ;", 14, api.ErrSyntax)
	refused(t, "rule from 1 to 0;", 16, api.ErrSyntax)
	refused(t, "rule to 1 from 0;", 16, api.ErrSyntax)
	refused(t, "rule a 1 from 0 via 1 cost 3 strict;rule", 35, api.ErrSyntax)
	refused(t, "rule a 1 from 0", 15, api.ErrSyntax)
	refused(t, "rule a 1 from 0  # to 1;", 24, api.ErrSyntax)
	refused(t, short+" rule b 1 strict;", 37, api.ErrSyntax)
}

// A text that ends too early is wrong at its end, blanks and comments behind
// the last token, too.
func TestP1301TooEarly(t *testing.T) {
	tokens, _, _ := words.Split(whole)
	for _, token := range tokens[1:] {
		for _, behind := range []string{"", " ", "\n\n", " # all;"} {
			s := whole[:token.At] + behind
			refused(t, s, len(s), api.ErrSyntax)
			refused(t, short+s, len(short+s), api.ErrSyntax)
		}
	}
}

// Of several faults the first one is told.
func TestP1301FirstFault(t *testing.T) {
	for _, behind := range []string{"", " ", ";", "rule;", " x 7 9", short, strings.Repeat(short, 30)} {
		refused(t, "rule a 1 from 0 to 1 x"+behind, 21, api.ErrSyntax)
		refused(t, "rule a 1; "+behind, 8, api.ErrSyntax)
		refused(t, short+short+"; "+behind, 2*len(short), api.ErrSyntax)
		refused(t, short+"rule a b "+behind, len(short)+7, api.ErrSyntax)
	}
}

func TestP1301SplitsErrors(t *testing.T) {
	refused(t, "!", 0, api.ErrSyntax)
	refused(t, "rule a 1 from -1 to 0;", 14, api.ErrSyntax)
	refused(t, short+"Rule", len(short), api.ErrSyntax)
	// They are told ahead of tokens that do not fit.
	refused(t, "; ; !", 4, api.ErrSyntax)
	refused(t, "7 rule a\t", 8, api.ErrSyntax)
	refused(t, strings.Repeat(short, 30)+"\r", 30*len(short), api.ErrSyntax)
	for _, part := range []string{" ", ";", "!", short, "rule ", "#"} {
		refused(t, strings.Repeat(part, 10001)[:10001], 0, api.ErrLong)
	}
	parses(t, short+strings.Repeat(" ", 10000-len(short)), shortRule())
	refused(t, short+strings.Repeat(" ", 10001-len(short)), 0, api.ErrLong)
	refused(t, strings.Repeat(";", 10000), 0, api.ErrSyntax)
}

func TestP1301TooMany(t *testing.T) {
	for n := range 60 {
		s := strings.Repeat(short, n)
		if n <= 20 {
			parses(t, s, slices.Repeat([]api.Rule{shortRule()}, n)...)
		} else {
			refused(t, s, 20*len(short), api.ErrLong)
		}
	}
	s := strings.Repeat(short+"\n", 20)
	parses(t, s, slices.Repeat([]api.Rule{shortRule()}, 20)...)
	parses(t, s+"# "+short, slices.Repeat([]api.Rule{shortRule()}, 20)...)
	refused(t, s+"  #;\n"+short, len(s)+5, api.ErrLong)
	refused(t, s+"  "+whole+short, len(s)+2, api.ErrLong)
	refused(t, strings.Repeat(short, 476), 20*len(short), api.ErrLong)
	// A wrong one is told even behind too many.
	refused(t, s+short+";", len(s+short), api.ErrSyntax)
	refused(t, s+short+"rule", len(s+short)+4, api.ErrSyntax)
	refused(t, s+"rule a 1;", len(s)+8, api.ErrSyntax)
	refused(t, strings.Repeat(short, 400)+"a", 400*len(short), api.ErrSyntax)
}

const numberForm = `(?:0|[1-9][0-9]*)`

// ruleForm and clauseForm are those of a rule's text and of a clause, told
// another way.
var (
	clauseForm = regexp.MustCompile(`^(?: (from|to|cost|proto|sport|dport) ` + numberForm + `| (via|avoid-nodes|avoid-links|avoid-colours)(?: ` + numberForm + `)+| (src|dst) [0-9.]+/[0-9]+| (strict))`)
	headForm   = regexp.MustCompile(`^rule [a-z][a-z0-9-]* ` + numberForm)
)

// isRule tells whether tokens with one blank between are a rule, but for how
// great the numbers are.
func isRule(tokens []string) bool {
	s := strings.Join(tokens, " ")
	head := headForm.FindString(s)
	if head == "" {
		return false
	}
	s = s[len(head):]
	times := map[string]int{}
	for s != " ;" {
		m := clauseForm.FindStringSubmatch(s)
		if m == nil {
			return false
		}
		word := m[1] + m[2] + m[3] + m[4]
		if times[word]++; times[word] > 1 {
			return false
		}
		s = s[len(m[0]):]
	}
	return times["from"] == 1 && times["to"] == 1
}

// mayGoOn tells whether some rule begins with the tokens.
func mayGoOn(tokens []string) bool {
	for _, head := range []string{"", "rule a 1", "a 1", "1"} {
		for _, value := range []string{"", "1", "1.2.3.4/5"} {
			for _, tail := range []string{"", "from 0", "to 0", "from 0 to 0"} {
				for _, end := range []string{"", ";"} {
					more := strings.Fields(head + " " + value + " " + tail + " " + end)
					if isRule(slices.Concat(tokens, more)) {
						return true
					}
				}
			}
		}
	}
	return false
}

// firstWrong tells which token is the first with which no rules begin, how
// many if there is none, and whether they end with a rule's end.
func firstWrong(tokens []string) (int, bool) {
	begin := 0
	for i := range tokens {
		switch {
		case isRule(tokens[begin : i+1]):
			begin = i + 1
		case !mayGoOn(tokens[begin : i+1]):
			return i, false
		}
	}
	return len(tokens), begin == len(tokens)
}

// made are a rule's tokens, now and then one of them another one, missing, or
// twice.
func (c *chance) made() []string {
	clauses := wholeClauses()
	for i := range clauses {
		j := i + c.next(len(clauses)-i)
		clauses[i], clauses[j] = clauses[j], clauses[i]
	}
	l := []string{"from 1", "to 2"}
	for _, clause := range clauses[:c.next(5)] {
		if !slices.Contains(l, clause) {
			l = append(l, clause)
		}
	}
	if c.next(8) == 0 {
		l = l[1:]
	}
	l = strings.Fields("rule a 1 " + strings.Join(l, " ") + " ;")
	others := append(clauseWords(), "rule", "x", "0", "3", "03", "1.5", "1.2.3.4/5", ";")
	at := c.next(len(l))
	switch c.next(4) {
	case 0:
		l[at] = others[c.next(len(others))]
	case 1:
		l = slices.Delete(l, at, at+1)
	case 2:
		l = slices.Insert(l, at, others[c.next(len(others))])
	}
	return l
}

// The first token that does not fit is the first one with which no text of
// rules begins.
func TestP1301AnyTokens(t *testing.T) {
	c := chance(13010)
	right := 0
	for range 4000 {
		tokens := c.made()
		for range c.next(3) {
			tokens = append(tokens, c.made()...)
		}
		var s strings.Builder
		var begins []int
		for _, token := range tokens {
			s.WriteString([]string{" ", "\n", "  ", "#\n"}[c.next(4)])
			begins = append(begins, s.Len())
			s.WriteString(token)
		}
		begins = append(begins, s.Len())
		i, ended := firstWrong(tokens)
		if !ended {
			refused(t, s.String(), begins[i], api.ErrSyntax)
			continue
		}
		right++
		if got, at, e := Parse(s.String()); e != api.OK || at != -1 || len(got) == 0 {
			t.Errorf("Parse(%q): %v, %d, %v", s.String(), got, at, e)
		}
	}
	if right < 400 || right > 3000 {
		t.Errorf("%d of 4,000 were right", right)
	}
}

func TestP1302EachClause(t *testing.T) {
	shows(t, "")
	shows(t, "rule a 0 from 0 to 0;\n", api.Rule{Name: "a"})
	shows(t, short+"\n", shortRule())
	shows(t, whole+"\n", wholeRule())
	for clause, r := range map[string]api.Rule{
		"via 0":                    {Want: api.Want{Via: []int{0}}},
		"via 3 2 3 0":              {Want: api.Want{Via: []int{3, 2, 3, 0}}},
		"avoid-nodes 9 8":          {Want: api.Want{Nodes: []int{9, 8}}},
		"avoid-links 0 0 0":        {Want: api.Want{Links: []int{0, 0, 0}}},
		"avoid-colours 63":         {Want: api.Want{Colours: []int{63}}},
		"cost 1":                   {Want: api.Want{Bound: 1}},
		"cost 9223372036854775807": {Want: api.Want{Bound: math.MaxInt}},
		"src 0.0.0.0/1":            {Match: api.Match{Src: api.Prefix{Len: 1}}},
		"src 1.2.3.4/32":           {Match: api.Match{Src: api.Prefix{Addr: 0x01020304, Len: 32}}},
		"src 1.2.0.0/16":           {Match: api.Match{Src: api.Prefix{Addr: 0x01020304, Len: 16}}},
		"src 1.2.3.4/32 strict":    {Match: api.Match{Src: api.Prefix{Addr: 0x01020304, Len: 33}}, Strict: true},
		"dst 10.0.0.0/8":           {Match: api.Match{Dst: api.Prefix{Addr: 0x0a000000, Len: 8}}},
		"dst 10.0.0.0/32":          {Match: api.Match{Dst: api.Prefix{Addr: 0x0a000000, Len: math.MaxInt}}},
		"proto 1":                  {Match: api.Match{Proto: 1}},
		"sport 70000":              {Match: api.Match{Sport: 70000}},
		"dport 5":                  {Match: api.Match{Dport: 5}},
		"strict":                   {Strict: true},
	} {
		r.Name, r.Priority, r.Want.From, r.Want.To = "x", 5, 8, 9
		shows(t, "rule x 5 from 8 to 9 "+clause+";\n", r)
	}
}

// What is 0, nothing or false is left out, but for the priority, from and to.
func TestP1302LeftOut(t *testing.T) {
	for _, r := range []api.Rule{
		{Want: api.Want{Via: []int{}, Nodes: []int{}, Links: []int{}, Colours: []int{}}},
		{Want: api.Want{Via: []int{1}[:0]}},
		{Match: api.Match{Src: api.Prefix{Addr: 7}, Dst: api.Prefix{Addr: math.MaxUint32}}},
		{Match: api.Match{Src: api.Prefix{Addr: 7, Len: -1}, Dst: api.Prefix{Addr: 7, Len: math.MinInt}}},
	} {
		r.Name = "x"
		shows(t, "rule x 0 from 0 to 0;\n", r)
	}
	shows(t, "rule x 0 from 0 to 0;\n"+short+"\nrule x 0 from 0 to 0;\n", api.Rule{Name: "x"}, shortRule(), api.Rule{Name: "x"})
}

// Nothing is promised of numbers below 0 but that the call ends.
func TestP1302BelowZero(t *testing.T) {
	for _, n := range []int{-1, math.MinInt32, math.MinInt} {
		l := []int{n, n}
		Show([]api.Rule{{Priority: n, Match: api.Match{Src: api.Prefix{Len: n}, Dst: api.Prefix{Len: n}, Proto: n, Sport: n, Dport: n}, Want: api.Want{From: n, To: n, Bound: n, Via: l, Nodes: l, Links: l, Colours: l}}})
	}
}

// Show has no limit of its own.
func TestP1302Many(t *testing.T) {
	shows(t, strings.Repeat(whole+"\n", 5000), slices.Repeat([]api.Rule{wholeRule()}, 5000)...)
	r := shortRule()
	r.Want.Via = make([]int, 100000)
	shows(t, "rule a 1 from 0 to 1 via"+strings.Repeat(" 0", 100000)+";\n", r)
}

func (c *chance) list() []int {
	var l []int
	for range c.next(4) {
		l = append(l, c.next(1<<(1+c.next(20))))
	}
	return l
}

// number makes 0 as often as not.
func (c *chance) number() int {
	return c.next(2) * (math.MaxInt32 >> c.next(32))
}

func (c *chance) prefix() api.Prefix {
	n := c.next(33)
	addr := uint64(c.next(1<<16))<<16 | uint64(c.next(1<<16))
	return api.Prefix{Addr: uint32(addr >> (32 - n) << (32 - n)), Len: n}
}

func (c *chance) rule() api.Rule {
	names := append(clauseWords(), "rule", "a", "b-9")
	return api.Rule{
		Name:     names[c.next(len(names))],
		Priority: c.number(),
		Match:    api.Match{Src: c.prefix(), Dst: c.prefix(), Proto: c.number(), Sport: c.number(), Dport: c.number()},
		Want:     api.Want{From: c.number(), To: c.number(), Bound: c.number(), Via: c.list(), Nodes: c.list(), Links: c.list(), Colours: c.list()},
		Strict:   c.next(2) == 0,
	}
}

// line is a rule's text, told another way.
func line(r api.Rule) string {
	s := fmt.Sprintf("rule %s %d from %d to %d", r.Name, r.Priority, r.Want.From, r.Want.To)
	list := func(word string, l []int) {
		if len(l) > 0 {
			s += " " + word + " " + strings.Trim(fmt.Sprint(l), "[]")
		}
	}
	number := func(word string, n int) {
		if n != 0 {
			s += fmt.Sprintf(" %s %d", word, n)
		}
	}
	prefix := func(word string, p api.Prefix) {
		if p.Len != 0 {
			s += fmt.Sprintf(" %s %d.%d.%d.%d/%d", word, p.Addr>>24, p.Addr>>16&255, p.Addr>>8&255, p.Addr&255, p.Len)
		}
	}
	list("via", r.Want.Via)
	list("avoid-nodes", r.Want.Nodes)
	list("avoid-links", r.Want.Links)
	list("avoid-colours", r.Want.Colours)
	number("cost", r.Want.Bound)
	prefix("src", r.Match.Src)
	prefix("dst", r.Match.Dst)
	number("proto", r.Match.Proto)
	number("sport", r.Match.Sport)
	number("dport", r.Match.Dport)
	if r.Strict {
		s += " strict"
	}
	return s + ";\n"
}

func TestP1302AnyRules(t *testing.T) {
	c := chance(1302)
	for range 2000 {
		var l []api.Rule
		var text string
		for range c.next(21) {
			r := c.rule()
			l = append(l, r)
			text += line(r)
		}
		shows(t, text, l...)
		parses(t, text, l...)
	}
}

// What Parse told of a text of any look is told again of what Show makes of
// it.
func TestP1302ThereAndBack(t *testing.T) {
	c := chance(13020)
	back := 0
	for range 3000 {
		var s string
		for range 1 + c.next(4) {
			s += strings.Join(c.made(), []string{" ", "\n", " #;\n"}[c.next(3)])
		}
		l, _, e := Parse(s)
		if e != api.OK {
			continue
		}
		back++
		parses(t, Show(l), l...)
	}
	if back < 300 {
		t.Errorf("%d of 3,000 were right", back)
	}
}

type rules []api.Rule

func (r rules) clear() {
	for _, x := range r {
		for _, l := range [][]int{x.Want.Via, x.Want.Nodes, x.Want.Links, x.Want.Colours} {
			l = l[:cap(l)]
			for i := range l {
				l[i] = -7
			}
		}
	}
}

// What is answered is new memory: each list is one of its own.
func TestP1303NewMemory(t *testing.T) {
	text := whole + short + whole
	want := []api.Rule{wholeRule(), shortRule(), wholeRule()}
	first, _, _ := Parse(text)
	second, _, _ := Parse(text)
	rules(second).clear()
	clear(second[:cap(second)])
	if !same(first, want) {
		t.Errorf("the first answer became %v, not %v", first, want)
	}
	rules(first[:1]).clear()
	if !same(first[1:], want[1:]) {
		t.Errorf("the other rules became %v, not %v", first[1:], want[1:])
	}
	last := first[2].Want
	for i, l := range [][]int{last.Via, last.Nodes, last.Links, last.Colours} {
		l = l[:cap(l)]
		for j := range l {
			l[j] = -i
		}
	}
	if !sameWant(last, api.Want{From: 1, To: 2, Bound: 99, Via: []int{0, 0}, Nodes: []int{-1}, Links: []int{-2, -2}, Colours: []int{-3, -3, -3}}) {
		t.Errorf("lists of one rule share memory: %v", last)
	}
}

// Neither the text nor the rules are turned or kept.
func TestP1303HandedIn(t *testing.T) {
	for _, text := range []string{whole, short + whole, "rule a 1", "!", strings.Repeat(short, 21)} {
		b := []byte(text)
		s := unsafe.String(unsafe.SliceData(b), len(b))
		got, _, _ := Parse(s)
		if s != text {
			t.Errorf("Parse turned %.60q", text)
		}
		for i := range b {
			b[i] = '!'
		}
		want, _, _ := Parse(text)
		if !same(got, want) {
			t.Errorf("the answer of %.60q became %v", text, got)
		}
	}
	room := []int{3, 4, 55, 66}
	all := []api.Rule{wholeRule(), shortRule()}
	all[0].Want.Via = room[:2]
	s := Show(all[:1])
	if !same(all, []api.Rule{wholeRule(), shortRule()}) || !slices.Equal(room, []int{3, 4, 55, 66}) {
		t.Errorf("Show turned %v, %v", all, room)
	}
	rules(all).clear()
	clear(all)
	if s != whole+"\n" {
		t.Errorf("what Show answered became %q", s)
	}
	name := []byte("gold")
	r := wholeRule()
	r.Name = unsafe.String(unsafe.SliceData(name), len(name))
	s = Show([]api.Rule{r})
	clear(name)
	if s != whole+"\n" {
		t.Errorf("what Show answered became %q", s)
	}
}

// The same arguments get the same answer, whatever was asked between.
func TestP1303SameAgain(t *testing.T) {
	for _, between := range []string{"", "!", "rule", whole, short + "rule x 9 from 3", strings.Repeat(short, 30), strings.Repeat(" ", 10001)} {
		l, _, _ := Parse(between)
		Show(l)
		parses(t, short, shortRule())
		parses(t, whole, wholeRule())
		refused(t, "rule a 1 from 0;", 15, api.ErrSyntax)
		shows(t, whole+"\n"+short+"\n", wholeRule(), shortRule())
	}
}
