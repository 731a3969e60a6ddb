package tlv

import (
	"bytes"
	"math"
	"slices"
	"strconv"
	"testing"

	"waymark/api"
)

// chance makes numbers, the same ones each time.
type chance uint32

func (c *chance) next(most int) int {
	*c = *c*1664525 + 1013904223
	return int(*c>>9) % most
}

func (c *chance) bytes(n int) []byte {
	out := make([]byte, n)
	for i := range out {
		out[i] = byte(c.next(256))
	}
	return out
}

func (c *chance) items(n, most int) []api.Item {
	var out []api.Item
	for range n {
		out = append(out, api.Item{Type: c.next(256), Data: c.bytes(c.next(most + 1))})
	}
	return out
}

func same(a, b []api.Item) bool {
	return slices.EqualFunc(a, b, func(x, y api.Item) bool {
		return x.Type == y.Type && bytes.Equal(x.Data, y.Data)
	})
}

// three are some items, and threeBytes what is written of them.
func three() []api.Item {
	return []api.Item{{Type: 1, Data: []byte{0, 7, 1}}, {Type: 255}, {Type: 9, Data: []byte{200, 201}}}
}

func threeBytes() []byte {
	return []byte{1, 0, 3, 0, 7, 1, 255, 0, 0, 9, 0, 2, 200, 201}
}

// room answers b with bytes behind it that are none of it.
func room(b []byte) []byte {
	return append(slices.Clone(b), 0xa5, 0xa5, 0xa5, 0xa5)[:len(b)]
}

// long is an item's Data of n bytes that differ from each other.
func long(n int) []byte {
	c := chance(n)
	return c.bytes(n)
}

func TestP401Written(t *testing.T) {
	for _, x := range []struct {
		name string
		l    []api.Item
		b    []byte
	}{
		{"none", nil, nil},
		{"nothing in it", []api.Item{{}}, []byte{0, 0, 0}},
		{"the greatest Type", []api.Item{{Type: 255}}, []byte{255, 0, 0}},
		{"one byte", []api.Item{{Type: 128, Data: []byte{77}}}, []byte{128, 0, 1, 77}},
		{"the order of the bytes", []api.Item{{Type: 2, Data: []byte{1, 2, 3, 4}}}, []byte{2, 0, 4, 1, 2, 3, 4}},
		{"the order of the items", three(), threeBytes()},
		{"nothing, twice", []api.Item{{Type: 5}, {Type: 5}}, []byte{5, 0, 0, 5, 0, 0}},
		{"the same, twice", []api.Item{{Type: 5, Data: []byte{6}}, {Type: 5, Data: []byte{6}}}, []byte{5, 0, 1, 6, 5, 0, 1, 6}},
		{"what looks like an item", []api.Item{{Type: 1, Data: []byte{1, 0, 0}}}, []byte{1, 0, 3, 1, 0, 0}},
	} {
		t.Run(x.name, func(t *testing.T) {
			if b, e := Put(x.l); e != api.OK || !bytes.Equal(b, x.b) {
				t.Errorf("Put: %x, %v, not %x", b, e, x.b)
			}
			if l, e := Get(x.b); e != api.OK || !same(l, x.l) {
				t.Errorf("Get: %v, %v, not %v", l, e, x.l)
			}
		})
	}
	if b, e := Put([]api.Item{}); e != api.OK || len(b) != 0 {
		t.Errorf("Put of an empty list: %x, %v", b, e)
	}
	if l, e := Get([]byte{}); e != api.OK || len(l) != 0 {
		t.Errorf("Get of an empty list: %v, %v", l, e)
	}
}

func TestP401EveryType(t *testing.T) {
	for n := range 256 {
		l := []api.Item{{Type: n, Data: []byte{3}}}
		b, e := Put(l)
		if e != api.OK || !bytes.Equal(b, []byte{byte(n), 0, 1, 3}) {
			t.Fatalf("Put of Type %d: %x, %v", n, b, e)
		}
		if back, e := Get(b); e != api.OK || !same(back, l) {
			t.Fatalf("Get of Type %d: %v, %v", n, back, e)
		}
	}
}

func TestP401HowMany(t *testing.T) {
	for _, n := range []int{0, 1, 2, 127, 128, 255, 256, 257, 511, 512, 32767, 32768, 65279, 65280, 65534, 65535} {
		l := []api.Item{{Type: 7, Data: long(n)}, {Type: 8}}
		b, e := Put(l)
		want := append([]byte{7, byte(n / 256), byte(n % 256)}, long(n)...)
		want = append(want, 8, 0, 0)
		if e != api.OK || !bytes.Equal(b, want) {
			t.Errorf("Put of %d bytes: %d bytes, %v", n, len(b), e)
		}
		if back, e := Get(want); e != api.OK || !same(back, l) {
			t.Errorf("Get of %d bytes: %d items, %v", n, len(back), e)
		}
	}
}

func TestP401ThereAndBack(t *testing.T) {
	c := chance(401)
	for range 2000 {
		l := c.items(c.next(6), 300)
		b, e := Put(l)
		if e != api.OK {
			t.Fatalf("Put: %v", e)
		}
		if back, e := Get(b); e != api.OK || !same(back, l) {
			t.Fatalf("Get of %x: %v, %v, not %v", b, back, e, l)
		}
	}
}

// Neither the number of items nor that of all their bytes has a limit of its
// own.
func TestP401Many(t *testing.T) {
	c := chance(4010)
	for _, l := range [][]api.Item{c.items(70000, 3), {{Data: long(65535)}, {Data: long(65535)}, {Data: long(65534)}}} {
		b, e := Put(l)
		if e != api.OK {
			t.Fatalf("Put of %d items: %v", len(l), e)
		}
		if back, e := Get(b); e != api.OK || !same(back, l) {
			t.Errorf("Get of %d items: %d, %v", len(l), len(back), e)
		}
	}
}

func TestP401PutRefuses(t *testing.T) {
	for _, n := range []int{-1, -2, -255, -256, 256, 257, 511, 512, 65536, 1 << 32, 1<<32 + 1, -1 << 32, math.MaxInt, math.MinInt} {
		for place := range 3 {
			l := three()
			l[place].Type = n
			if b, e := Put(l); e != api.ErrArg || len(b) != 0 {
				t.Errorf("Type %d at %d: %x, %v", n, place, b, e)
			}
		}
	}
	for _, n := range []int{65536, 65537, 131071, 131072, 1 << 20} {
		for place := range 3 {
			l := three()
			l[place].Data = make([]byte, n)
			if b, e := Put(l); e != api.ErrLong || len(b) != 0 {
				t.Errorf("%d bytes at %d: %d bytes, %v", n, place, len(b), e)
			}
		}
	}
}

// ErrArg is named ahead of ErrLong: it is told wherever both stand.
func TestP401PutRefusesInOrder(t *testing.T) {
	wrong, tooLong := api.Item{Type: 256}, api.Item{Data: make([]byte, 65536)}
	both := api.Item{Type: -1, Data: make([]byte, 65536)}
	for i, l := range [][]api.Item{{wrong, tooLong}, {tooLong, wrong}, {both}, {tooLong, {}, both}, {tooLong, {}, wrong, {}}} {
		if b, e := Put(l); e != api.ErrArg || len(b) != 0 {
			t.Errorf("%d: %d bytes, %v", i, len(b), e)
		}
	}
}

func TestP401GetRefuses(t *testing.T) {
	for name, b := range map[string][]byte{
		"a Type alone":             {0},
		"half of how many":         {0, 0},
		"no Data of 1":             {1, 0, 1},
		"no Data of 256":           {1, 1, 0},
		"no Data of the most":      {1, 255, 255},
		"1 of 2":                   {1, 0, 2, 9},
		"255 of 256":               append([]byte{1, 1, 0}, make([]byte, 255)...),
		"65,534 of the most":       append([]byte{1, 255, 255}, make([]byte, 65534)...),
		"behind an item, a Type":   {1, 0, 0, 1},
		"behind an item, half":     {1, 0, 0, 1, 0},
		"behind an item, no Data":  {1, 0, 0, 1, 0, 1},
		"behind an item, too few":  {1, 0, 1, 5, 1, 0, 2, 5},
		"a byte too much":          append(threeBytes(), 1),
		"how many, the other way":  {1, 2, 0, 7, 7},
		"missing within the first": {1, 0, 9, 1, 0, 3, 0, 7, 1},
	} {
		if l, e := Get(b); e != api.ErrBytes || len(l) != 0 {
			t.Errorf("%s: Get: %v, %v", name, l, e)
		}
		if l, e := Links(b); e != api.ErrBytes || len(l) != 0 {
			t.Errorf("%s: Links: %v, %v", name, l, e)
		}
	}
}

// What is cut off anywhere but behind an item is refused, whatever bytes lie
// behind it in memory.
func TestP401GetOfWhatIsCut(t *testing.T) {
	c := chance(40100)
	l := c.items(12, 20)
	whole, _ := Put(l)
	ends := map[int]int{}
	for n := range len(l) + 1 {
		b, _ := Put(l[:n])
		ends[len(b)] = n
	}
	for n := range len(whole) + 1 {
		got, e := Get(whole[:n])
		items, is := ends[n]
		switch {
		case is && (e != api.OK || !same(got, l[:items])):
			t.Errorf("Get of %d bytes: %v, %v", n, got, e)
		case !is && (e != api.ErrBytes || len(got) != 0):
			t.Errorf("Get of %d bytes, which is cut: %v, %v", n, got, e)
		}
	}
}

// Whatever bytes Get reads, Put writes.
func TestP401GetOfAnyBytes(t *testing.T) {
	c := chance(401000)
	read := 0
	for range 20000 {
		b := make([]byte, c.next(14))
		for i := range b {
			b[i] = byte(c.next(3))
		}
		l, e := Get(b)
		if e != api.OK {
			if e != api.ErrBytes || len(l) != 0 {
				t.Fatalf("Get of %x: %v, %v", b, l, e)
			}
			continue
		}
		read++
		if back, e := Put(l); e != api.OK || !bytes.Equal(back, b) {
			t.Fatalf("Put of %v: %x, %v, not %x", l, back, e, b)
		}
	}
	if read == 0 || read == 20000 {
		t.Errorf("%d of 20,000 were read", read)
	}
}

func TestP401Links(t *testing.T) {
	for _, x := range []struct {
		name string
		l    []api.Item
		want [][2]int
	}{
		{"none", nil, nil},
		{"down", []api.Item{{Type: 1, Data: []byte{0, 0, 0}}}, [][2]int{{0, 0}}},
		{"up", []api.Item{{Type: 1, Data: []byte{0, 0, 1}}}, [][2]int{{0, 1}}},
		{"the highest byte first", []api.Item{{Type: 1, Data: []byte{1, 2, 1}}}, [][2]int{{258, 1}}},
		{"the greatest link", []api.Item{{Type: 1, Data: []byte{255, 255, 0}}}, [][2]int{{65535, 0}}},
		{"in order, the same again", []api.Item{{Type: 1, Data: []byte{0, 9, 1}}, {Type: 1, Data: []byte{0, 2, 0}}, {Type: 1, Data: []byte{0, 9, 0}}, {Type: 1, Data: []byte{0, 9, 0}}}, [][2]int{{9, 1}, {2, 0}, {9, 0}, {9, 0}}},
		{"others between", []api.Item{{}, {Type: 1, Data: []byte{0, 3, 1}}, {Type: 2, Data: []byte{0, 4, 1}}, {Type: 255, Data: []byte{1, 0, 3, 0, 8, 1}}, {Type: 1, Data: []byte{0, 5, 0}}, {Type: 129, Data: []byte{0, 6, 1}}}, [][2]int{{3, 1}, {5, 0}}},
		{"others alone", []api.Item{{Type: 2, Data: []byte{0, 4, 1}}, {Type: 0, Data: []byte{0, 4, 2}}, {Type: 3, Data: long(65535)}}, nil},
	} {
		b, e := Put(x.l)
		if e != api.OK {
			t.Fatalf("%s: Put: %v", x.name, e)
		}
		if got, e := Links(b); e != api.OK || !slices.Equal(got, x.want) {
			t.Errorf("%s: %v, %v, not %v", x.name, got, e, x.want)
		}
	}
}

func TestP401EveryLink(t *testing.T) {
	for n := range 65536 {
		b := []byte{1, 0, 3, byte(n / 256), byte(n % 256), byte(n % 2)}
		if got, e := Links(b); e != api.OK || !slices.Equal(got, [][2]int{{n, n % 2}}) {
			t.Fatalf("Links of %x: %v, %v", b, got, e)
		}
	}
}

func TestP401LinksRefuses(t *testing.T) {
	refused := func(name string, d []byte) {
		for place := range 3 {
			l := []api.Item{{Type: 1, Data: []byte{0, 7, 1}}, {Type: 2, Data: []byte{9}}, {Type: 1, Data: []byte{0, 8, 0}}}
			l[place] = api.Item{Type: 1, Data: d}
			b, _ := Put(l)
			if got, e := Links(b); e != api.ErrBytes || len(got) != 0 {
				t.Errorf("%s at %d: %v, %v", name, place, got, e)
			}
		}
		b, _ := Put([]api.Item{{Type: 2, Data: d}, {Type: 0, Data: d}, {Type: 255, Data: d}})
		if got, e := Links(b); e != api.OK || len(got) != 0 {
			t.Errorf("%s of other Types: %v, %v", name, got, e)
		}
	}
	for state := 2; state < 256; state++ {
		refused("state "+strconv.Itoa(state), []byte{0, 7, byte(state)})
	}
	for _, n := range []int{0, 1, 2, 4, 5, 6, 255, 256, 257, 259, 65535} {
		refused(strconv.Itoa(n)+" bytes", make([]byte, n))
	}
	// Bytes are missing behind what is whole, which isn't told for that.
	if got, e := Links([]byte{1, 0, 3, 0, 7, 1, 1}); e != api.ErrBytes || len(got) != 0 {
		t.Errorf("bytes are missing: %v, %v", got, e)
	}
}

// What is handed in stays as it is, its spare room too, whether it is taken or
// refused.
func TestP402HandedIn(t *testing.T) {
	for i, l := range [][]api.Item{{}, three(), {{Type: 256}}, {{Type: 4, Data: make([]byte, 65536)}}} {
		for k := range l {
			l[k].Data = room(l[k].Data)
		}
		l = append(l, api.Item{Type: -7}, api.Item{Type: -8})[:len(l)]
		whole := l[:len(l)+2]
		was := make([]api.Item, 0, len(whole))
		for _, item := range whole {
			was = append(was, api.Item{Type: item.Type, Data: slices.Clone(item.Data[:cap(item.Data)])})
		}
		Put(l)
		for k, item := range whole {
			if item.Type != was[k].Type || !bytes.Equal(item.Data[:cap(item.Data)], was[k].Data) {
				t.Errorf("Put %d turned what it was handed", i)
			}
		}
	}
	for i, b := range [][]byte{{}, threeBytes(), {1, 0, 3, 0, 7, 1}, {1, 0, 3, 0, 7, 2}, {1, 0, 2, 7}, {1}} {
		for name, call := range map[string]func(b []byte){"Get": func(b []byte) { Get(b) }, "Links": func(b []byte) { Links(b) }} {
			in := room(b)
			was := slices.Clone(in[:cap(in)])
			call(in)
			if !bytes.Equal(in[:cap(in)], was) {
				t.Errorf("%s %d turned what it was handed", name, i)
			}
		}
	}
}

// What is answered stays as it is, whatever is done with what was handed in
// and with other answers.
func TestP402NewMemory(t *testing.T) {
	for _, l := range [][]api.Item{three(), {{Type: 3, Data: []byte{1, 2, 3}}}} {
		first, _ := Put(l)
		want := slices.Clone(first)
		second, _ := Put(l)
		for _, item := range l {
			clear(item.Data)
		}
		clear(l)
		clear(second[:cap(second)])
		if !bytes.Equal(first, want) {
			t.Errorf("Put's answer became %x, not %x", first, want)
		}
	}

	b := threeBytes()
	l, _ := Get(b)
	other, _ := Get(b)
	clear(b)
	for _, item := range other {
		clear(item.Data[:cap(item.Data)])
	}
	clear(other[:cap(other)])
	if !same(l, three()) {
		t.Errorf("Get's answer became %v", l)
	}

	report := []byte{1, 0, 3, 0, 7, 1, 1, 0, 3, 0, 8, 0}
	links, _ := Links(report)
	others, _ := Links(report)
	clear(report)
	clear(others[:cap(others)])
	if !slices.Equal(links, [][2]int{{7, 1}, {8, 0}}) {
		t.Errorf("Links' answer became %v", links)
	}
}

// The lists within an answer share nothing, their spare room neither, with each
// other or with what was handed in.
func TestP402ListsWithin(t *testing.T) {
	c := chance(402)
	in := c.items(20, 9)
	b, _ := Put(in)
	was := slices.Clone(b)
	for place := range in {
		l, _ := Get(b)
		clear(l[place].Data[:cap(l[place].Data)])
		_ = append(l[place].Data, 0xa5, 0xa5, 0xa5, 0xa5)
		if !bytes.Equal(b, was) {
			t.Fatalf("Data %d is shared with what was handed in", place)
		}
		for k, item := range l {
			if k != place && !bytes.Equal(item.Data, in[k].Data) {
				t.Fatalf("Data %d is shared with Data %d", place, k)
			}
		}
	}
}

// The same arguments get the same answers, whatever was asked between, and
// whatever room is left behind them.
func TestP402SameAgain(t *testing.T) {
	for i, between := range []func(){
		func() {},
		func() { Put(nil) },
		func() { Put([]api.Item{{Type: 77, Data: long(300)}}) },
		func() { Put([]api.Item{{Type: 256}}) },
		func() { Put([]api.Item{{Data: make([]byte, 65536)}}) },
		func() { Get(nil) },
		func() { Get([]byte{7, 0, 1, 5}) },
		func() { Get([]byte{7, 0, 9, 5}) },
		func() { Links([]byte{1, 0, 3, 1, 1, 1}) },
		func() { Links([]byte{1, 0, 3, 1, 1, 9}) },
	} {
		between()
		if b, e := Put(three()); e != api.OK || !bytes.Equal(b, threeBytes()) {
			t.Errorf("%d: Put: %x, %v", i, b, e)
		}
		in := append(make([]byte, 0, 14+i), threeBytes()...)
		if l, e := Get(in); e != api.OK || !same(l, three()) {
			t.Errorf("%d: Get: %v, %v", i, l, e)
		}
		if l, e := Links(in); e != api.OK || !slices.Equal(l, [][2]int{{7, 1}}) {
			t.Errorf("%d: Links: %v, %v", i, l, e)
		}
	}
}
