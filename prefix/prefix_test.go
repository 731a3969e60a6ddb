package prefix

import (
	"fmt"
	"math"
	"strings"
	"testing"

	"waymark/api"
)

// chance makes numbers, the same ones each time.
type chance uint64

func (c *chance) next() uint32 {
	*c = *c*6364136223846793005 + 1442695040888963407
	return uint32(*c >> 32)
}

// lens are the Lens that can be, and some that are cut.
func lens() []int {
	l := []int{-1, -8, -31, -32, -33, -256, math.MinInt32, math.MinInt, 33, 34, 40, 63, 64, 65, 255, 256, 264, math.MaxInt32, 1 << 32, 1<<32 + 8, -1<<32 + 8, math.MaxInt}
	for n := range 33 {
		l = append(l, n)
	}
	return l
}

func cut(n int) int {
	switch {
	case n < 0:
		return 0
	case n > 32:
		return 32
	}
	return n
}

// bit tells the bit of addr that n others stand ahead of.
func bit(addr uint32, n int) uint32 {
	return addr / (1 << (31 - n)) % 2
}

// begins tells by the bits, one by one, whether a and b are the same up to n.
func begins(a, b uint32, n int) bool {
	for i := range cut(n) {
		if bit(a, i) != bit(b, i) {
			return false
		}
	}
	return true
}

// only keeps the first n bits of addr, one by one.
func only(addr uint32, n int) uint32 {
	var out uint32
	for i := range cut(n) {
		out += bit(addr, i) * (1 << (31 - i))
	}
	return out
}

func text(addr uint32, n int) string {
	return fmt.Sprintf("%d.%d.%d.%d/%d", addr>>24, addr>>16&255, addr>>8&255, addr&255, n)
}

func TestP1101In(t *testing.T) {
	for _, x := range []struct {
		p    api.Prefix
		addr uint32
		want bool
	}{
		{api.Prefix{}, 0, true},
		{api.Prefix{}, math.MaxUint32, true},
		{api.Prefix{Addr: math.MaxUint32}, 0, true},
		{api.Prefix{Addr: 0x0a000000, Len: 8}, 0x0a010203, true},
		{api.Prefix{Addr: 0x0a000000, Len: 8}, 0x0b000000, false},
		{api.Prefix{Addr: 0x0a000000, Len: 8}, 0x8a000000, false},
		{api.Prefix{Addr: 0x0a090807, Len: 8}, 0x0a010203, true},
		{api.Prefix{Addr: 0x0a000000, Len: 7}, 0x0b000000, true},
		{api.Prefix{Addr: 0xc0a80400, Len: 22}, 0xc0a807ff, true},
		{api.Prefix{Addr: 0xc0a80400, Len: 22}, 0xc0a80800, false},
		{api.Prefix{Addr: 0xc0a80400, Len: 22}, 0xc0a803ff, false},
		{api.Prefix{Addr: 1 << 31, Len: 1}, 1 << 31, true},
		{api.Prefix{Addr: 1 << 31, Len: 1}, 1<<31 - 1, false},
		{api.Prefix{Addr: 6, Len: 31}, 7, true},
		{api.Prefix{Addr: 6, Len: 32}, 7, false},
		{api.Prefix{Addr: 7, Len: 32}, 7, true},
		{api.Prefix{Addr: 6, Len: 33}, 7, false},
		{api.Prefix{Addr: 7, Len: math.MaxInt}, 7, true},
		{api.Prefix{Addr: 7, Len: math.MaxInt}, 6, false},
		{api.Prefix{Addr: 7, Len: -1}, math.MaxUint32 - 7, true},
		{api.Prefix{Addr: 7, Len: math.MinInt}, math.MaxUint32 - 7, true},
	} {
		if got := In(x.p, x.addr); got != x.want {
			t.Errorf("In(%v, %x): %v", x.p, x.addr, got)
		}
	}
}

// One bit that differs tells just if it is one of the first Len.
func TestP1101InEveryBit(t *testing.T) {
	for _, n := range lens() {
		for _, addr := range []uint32{0, math.MaxUint32, 0x55555555, 0xaaaaaaaa, 0x0a0b0c0d} {
			if !In(api.Prefix{Addr: addr, Len: n}, addr) {
				t.Errorf("In of %x, Len %d: its own address isn't", addr, n)
			}
			for i := range 32 {
				other := addr ^ 1<<(31-i)
				if got := In(api.Prefix{Addr: addr, Len: n}, other); got != (i >= cut(n)) {
					t.Errorf("In(%x, Len %d; %x): %v", addr, n, other, got)
				}
			}
		}
	}
}

func TestP1101InAny(t *testing.T) {
	c := chance(1101)
	in := 0
	for range 2000 {
		for _, n := range lens() {
			addr := c.next()
			other := addr ^ c.next()>>(c.next()%33)
			got := In(api.Prefix{Addr: addr, Len: n}, other)
			if got != begins(addr, other, n) {
				t.Fatalf("In(%x, Len %d; %x): %v", addr, n, other, got)
			}
			if got {
				in++
			}
		}
	}
	if in == 0 || in == 2000*len(lens()) {
		t.Errorf("%d were in", in)
	}
}

func TestP1101Read(t *testing.T) {
	for s, want := range map[string]api.Prefix{
		"10.0.0.0/8":         {Addr: 0x0a000000, Len: 8},
		"0.0.0.0/0":          {},
		"0.0.0.0/8":          {Len: 8},
		"0.0.0.0/32":         {Len: 32},
		"255.255.255.255/32": {Addr: math.MaxUint32, Len: 32},
		"1.2.3.4/32":         {Addr: 0x01020304, Len: 32},
		"1.2.3.4/31":         {Addr: 0x01020304, Len: 31},
		"192.168.4.0/22":     {Addr: 0xc0a80400, Len: 22},
		"128.0.0.0/1":        {Addr: 1 << 31, Len: 1},
		"100.20.9.200/29":    {Addr: 0x641409c8, Len: 29},
		// The bits behind the first L are made 0.
		"10.1.2.3/8":         {Addr: 0x0a000000, Len: 8},
		"255.255.255.255/0":  {},
		"255.255.255.255/1":  {Addr: 1 << 31, Len: 1},
		"255.255.255.255/31": {Addr: math.MaxUint32 - 1, Len: 31},
		"1.2.3.4/23":         {Addr: 0x01020200, Len: 23},
		"127.255.255.255/1":  {Len: 1},
	} {
		if got, ok := Read(s); !ok || got != want {
			t.Errorf("Read(%q): %v, %v, not %v", s, got, ok, want)
		}
	}
}

// Each number that can be is read at each place, and none beyond it.
func TestP1101ReadEveryNumber(t *testing.T) {
	for place := range 4 {
		for n := range 1200 {
			numbers := [4]int{9, 8, 7, 6}
			numbers[place] = n
			s := fmt.Sprintf("%d.%d.%d.%d/32", numbers[0], numbers[1], numbers[2], numbers[3])
			got, ok := Read(s)
			if n > 255 {
				if ok || got != (api.Prefix{}) {
					t.Errorf("Read(%q): %v, %v", s, got, ok)
				}
				continue
			}
			shift := 24 - 8*place
			want := api.Prefix{Addr: 0x09080706&^(255<<shift) | uint32(n)<<shift, Len: 32}
			if !ok || got != want {
				t.Errorf("Read(%q): %v, %v, not %v", s, got, ok, want)
			}
		}
	}
	for n := range 400 {
		s := fmt.Sprintf("255.254.253.252/%d", n)
		got, ok := Read(s)
		if n > 32 {
			if ok || got != (api.Prefix{}) {
				t.Errorf("Read(%q): %v, %v", s, got, ok)
			}
		} else if !ok || got != (api.Prefix{Addr: only(0xfffefdfc, n), Len: n}) {
			t.Errorf("Read(%q): %v, %v", s, got, ok)
		}
	}
}

func refused(t *testing.T, s string) {
	t.Helper()
	if p, ok := Read(s); ok || p != (api.Prefix{}) {
		t.Errorf("Read(%.60q): %v, %v", s, p, ok)
	}
}

func TestP1101ReadRefuses(t *testing.T) {
	for _, s := range []string{
		"", ".", "/", ".../", "..././", "0", "10.0.0.0", "10.0.0.0/", "/8", "10/8", "10.0/8", "10.0.0/8",
		"10.0.0.0.0/8", "10.0.0.0/8/8", "10.0.0.0//8", "10.0.0.0/8.", ".10.0.0.0/8", "10..0.0/8", "10.0.0./8",
		"10.0.0.0/8.0", "10.0.0/0/8", "10/0.0.0/8", "10.0.0.0.8", "10/0/0/0/8", "10,0,0,0/8", "10.0.0.0\\8", "10.0.0.0:8",
		"/10.0.0.0/8", "10.0.0.0/8/", "10.0.0.0;8", "10.0.0.0/8;", "10.0.0.0/8#", "10.0.0.0 8", "::/8", "10.0.0.0/255.0.0.0",
	} {
		refused(t, s)
	}
}

// What is none at each place of a number, all the others right.
func TestP1101ReadRefusesAtEachPlace(t *testing.T) {
	numbers := []string{
		"", " ", "00", "01", "08", "010", "000", "007", "0255", "+", "-", "+0", "-0", "+1", "-1", "--1", " 1", "1 ", "\t1", "1\n", "1\x00", "\x001",
		"1_0", "0x1", "0b1", "0o7", "1e1", "1.", ".1", "1,", "a", "1a", "a1", "A", "١", "1١", "１", "½", "\xff", "1\xb2", ":", "1:", "1/", "/1",
		"256", "257", "300", "999", "1000", "2550", "65536", "65537", "4294967295", "4294967296", "4294967297", "9223372036854775807", "9223372036854775808", "18446744073709551615", "18446744073709551616", "18446744073709551617", "99999999999999999999999", "-9223372036854775808", "-255", "-256",
		strings.Repeat("0", 100), strings.Repeat("9", 100), strings.Repeat("0", 100) + "1", strings.Repeat("1", 1<<20),
	}
	for place := range 5 {
		for _, n := range numbers {
			l := [5]string{"1", "2", "3", "4", "24"}
			l[place] = n
			refused(t, l[0]+"."+l[1]+"."+l[2]+"."+l[3]+"/"+l[4])
		}
	}
	for _, n := range []string{"33", "34", "39", "40", "63", "64", "65", "96", "128", "255", "264", "320"} {
		refused(t, "1.2.3.4/"+n)
	}
}

// One byte put in, taken away, or turned: what is read all the same is what
// is written as numbers from 0 to 255 and from 0 to 32.
func TestP1101ReadOfAnyText(t *testing.T) {
	texts := map[string]int{}
	for _, s := range []string{"10.0.0.0/8", "1.2.3.4/32", "255.255.255.255/0", "0.0.0.0/0", "99.100.199.200/19"} {
		for i := range len(s) + 1 {
			for c := range 256 {
				texts[s[:i]+string([]byte{byte(c)})+s[i:]]++
				if i < len(s) {
					texts[s[:i]+string([]byte{byte(c)})+s[i+1:]]++
					texts[s[:i]+s[i+1:]]++
				}
			}
		}
	}
	read := 0
	for s := range texts {
		var a, b, c, d, n int
		fmt.Sscanf(s, "%d.%d.%d.%d/%d", &a, &b, &c, &d, &n)
		right := max(a, b, c, d) < 256 && min(a, b, c, d, n) >= 0 && n < 33 && fmt.Sprintf("%d.%d.%d.%d/%d", a, b, c, d, n) == s
		var want api.Prefix
		if right {
			want = api.Prefix{Addr: only(uint32(a<<24|b<<16|c<<8|d), n), Len: n}
			read++
		}
		if got, ok := Read(s); ok != right || got != want {
			t.Errorf("Read(%q): %v, %v, not %v, %v", s, got, ok, want, right)
		}
	}
	if read == 0 || read == len(texts) {
		t.Errorf("%d of %d texts were read", read, len(texts))
	}
}

// However long a text is, it is refused without a panic.
func TestP1101ReadOfLongTexts(t *testing.T) {
	for _, part := range []string{".", "/", "0", "1", "0.", "0/", "10.0.0.0/8", "#", "\x00"} {
		refused(t, strings.Repeat(part, 1<<20))
		refused(t, "10.0.0.0/8"+strings.Repeat(part, 1<<20))
		refused(t, strings.Repeat(part, 1<<20)+"10.0.0.0/8")
	}
}

func TestP1101Show(t *testing.T) {
	for _, x := range []struct {
		p    api.Prefix
		want string
	}{
		{api.Prefix{}, "0.0.0.0/0"},
		{api.Prefix{Addr: math.MaxUint32}, "0.0.0.0/0"},
		{api.Prefix{Addr: math.MaxUint32, Len: 32}, "255.255.255.255/32"},
		{api.Prefix{Addr: 0x0a000000, Len: 8}, "10.0.0.0/8"},
		{api.Prefix{Addr: 0x0a0b0c0d, Len: 8}, "10.0.0.0/8"},
		{api.Prefix{Addr: 0x01020304, Len: 16}, "1.2.0.0/16"},
		{api.Prefix{Addr: 0x01020304, Len: 32}, "1.2.3.4/32"},
		{api.Prefix{Addr: 0x01020304, Len: 33}, "1.2.3.4/32"},
		{api.Prefix{Addr: 0x01020304, Len: math.MaxInt}, "1.2.3.4/32"},
		{api.Prefix{Addr: 0x01020304, Len: -1}, "0.0.0.0/0"},
		{api.Prefix{Addr: 0x01020304, Len: math.MinInt}, "0.0.0.0/0"},
		{api.Prefix{Addr: math.MaxUint32, Len: 9}, "255.128.0.0/9"},
		{api.Prefix{Addr: math.MaxUint32, Len: 1}, "128.0.0.0/1"},
		{api.Prefix{Addr: 0x641409c8, Len: 30}, "100.20.9.200/30"},
	} {
		if got := Show(x.p); got != x.want {
			t.Errorf("Show(%v): %q, not %q", x.p, got, x.want)
		}
	}
}

// Read tells each prefix of the text that Show writes of it.
func TestP1101ThereAndBack(t *testing.T) {
	c := chance(11010)
	for range 1000 {
		for _, n := range lens() {
			p := api.Prefix{Addr: c.next(), Len: n}
			want := api.Prefix{Addr: only(p.Addr, n), Len: cut(n)}
			s := Show(p)
			if s != text(want.Addr, want.Len) {
				t.Fatalf("Show(%v): %q", p, s)
			}
			if back, ok := Read(s); !ok || back != want {
				t.Fatalf("Read(%q): %v, %v, not %v", s, back, ok, want)
			}
			// The bits behind are read away, too.
			if back, ok := Read(text(p.Addr, want.Len)); !ok || back != want {
				t.Fatalf("Read(%q): %v, %v, not %v", text(p.Addr, want.Len), back, ok, want)
			}
		}
	}
}

// flow is a tuple whose fields all differ from each other, and match what asks
// for each of them.
var (
	flow  = api.Tuple{Src: 0x0a000001, Dst: 0x14000002, Proto: 6, Sport: 1000, Dport: 80}
	match = api.Match{Src: api.Prefix{Addr: 0x0a000000, Len: 8}, Dst: api.Prefix{Addr: 0x14000002, Len: 32}, Proto: 6, Sport: 1000, Dport: 80}
)

func TestP1101Matches(t *testing.T) {
	for i, x := range []struct {
		m    api.Match
		t    api.Tuple
		want bool
	}{
		{api.Match{}, api.Tuple{}, true},
		{api.Match{}, flow, true},
		{match, flow, true},
		{match, api.Tuple{}, false},
		{api.Match{Src: match.Src}, flow, true},
		{api.Match{Dst: match.Dst}, flow, true},
		{api.Match{Src: match.Dst}, flow, false},
		{api.Match{Dst: match.Src}, flow, false},
		{api.Match{Src: match.Dst, Dst: match.Src}, flow, false},
		{api.Match{Src: api.Prefix{Addr: 0x0a00ff00, Len: 17}}, flow, false},
		{api.Match{Src: api.Prefix{Addr: 0x0a00ff00, Len: 16}}, flow, true},
		{api.Match{Src: api.Prefix{Addr: 0x0a000001, Len: 99}}, flow, true},
		{api.Match{Dst: api.Prefix{Addr: 0x14000003, Len: 99}}, flow, false},
		{api.Match{Dst: api.Prefix{Addr: 0x14000003, Len: -99}}, flow, true},
		// A prefix of Len 0 has every address, whatever its own is.
		{api.Match{Src: api.Prefix{Addr: 7}, Dst: api.Prefix{Addr: 7}}, flow, true},
		// The zero address of 32 bits is no "any".
		{api.Match{Src: api.Prefix{Len: 32}}, flow, false},
		{api.Match{Src: api.Prefix{Len: 32}}, api.Tuple{}, true},
		{api.Match{Sport: 80, Dport: 1000}, flow, false},
		{api.Match{Sport: 80}, flow, false},
		{api.Match{Dport: 1000}, flow, false},
	} {
		if got := Matches(x.m, x.t); got != x.want {
			t.Errorf("Matches %d: %v", i, got)
		}
	}
}

// Of each field alone: what it asks for, and what it doesn't.
func TestP1101MatchesEachField(t *testing.T) {
	for name, set := range map[string]func(m *api.Match, t *api.Tuple, asked, n int){
		"Proto": func(m *api.Match, t *api.Tuple, asked, n int) { m.Proto, t.Proto = asked, n },
		"Sport": func(m *api.Match, t *api.Tuple, asked, n int) { m.Sport, t.Sport = asked, n },
		"Dport": func(m *api.Match, t *api.Tuple, asked, n int) { m.Dport, t.Dport = asked, n },
	} {
		numbers := []int{0, 1, 2, 6, -1, -6, 255, 256, 262, 65535, 65536, 1 << 32, 1<<32 + 6, math.MaxInt, math.MinInt}
		for _, asked := range numbers {
			for _, n := range numbers {
				for _, m := range []api.Match{{}, match} {
					in := flow
					set(&m, &in, asked, n)
					if got := Matches(m, in); got != (asked == 0 || asked == n) {
						t.Errorf("%s %d of %d: %v", name, asked, n, got)
					}
				}
			}
		}
	}
	for name, set := range map[string]func(m *api.Match, p api.Prefix){
		"Src": func(m *api.Match, p api.Prefix) { m.Src = p },
		"Dst": func(m *api.Match, p api.Prefix) { m.Dst = p },
	} {
		for _, n := range lens() {
			for i := range 32 {
				m := match
				addr := flow.Src
				if name == "Dst" {
					addr = flow.Dst
				}
				set(&m, api.Prefix{Addr: addr ^ 1<<(31-i), Len: n})
				if got := Matches(m, flow); got != (i >= cut(n)) {
					t.Errorf("%s, bit %d turned, Len %d: %v", name, i, n, got)
				}
			}
		}
	}
}

// The same arguments get the same answers, whatever was asked between.
func TestP1102SameAgain(t *testing.T) {
	p := api.Prefix{Addr: 0x01020304, Len: 23}
	for i, between := range []func(){
		func() {},
		func() { In(api.Prefix{Addr: 9, Len: 32}, 8) },
		func() { Read("10.0.0.0/8") },
		func() { Read("10.0.0.0/33") },
		func() { Read("10.0.0.0/8/") },
		func() { Show(api.Prefix{Addr: math.MaxUint32, Len: 32}) },
		func() { Show(api.Prefix{Len: -1}) },
		func() { Matches(match, flow) },
		func() { Matches(api.Match{Proto: -1}, flow) },
	} {
		between()
		if !In(p, 0x010203ff) || In(p, 0x01020404) {
			t.Errorf("%d: In", i)
		}
		if got, ok := Read("1.2.3.4/23"); !ok || got != (api.Prefix{Addr: 0x01020200, Len: 23}) {
			t.Errorf("%d: Read: %v, %v", i, got, ok)
		}
		if got, ok := Read("1.2.3.4/033"); ok || got != (api.Prefix{}) {
			t.Errorf("%d: Read: %v, %v", i, got, ok)
		}
		if got := Show(p); got != "1.2.2.0/23" {
			t.Errorf("%d: Show: %q", i, got)
		}
		if !Matches(match, flow) || Matches(match, api.Tuple{}) {
			t.Errorf("%d: Matches", i)
		}
	}
}
