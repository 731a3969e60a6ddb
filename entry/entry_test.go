package entry

import (
	"bytes"
	"math"
	"slices"
	"strconv"
	"testing"

	"waymark/api"
)

// stack makes a stack of n entries that differ from each other.
func stack(n int) []api.Entry {
	l := make([]api.Entry, 0, n)
	for i := range n {
		l = append(l, api.Entry{Label: i * 1049 % (1 << 20), Class: i % 8, TTL: i * 7 % 256, Last: i == n-1})
	}
	return l
}

func TestP101Written(t *testing.T) {
	for _, x := range []struct {
		name string
		l    []api.Entry
		b    []byte
	}{
		{"nothing but Last", []api.Entry{{Last: true}}, []byte{0, 0, 1, 0}},
		{"Label's lowest bit", []api.Entry{{Label: 1, Last: true}}, []byte{0, 0, 0x11, 0}},
		{"Label's highest bit", []api.Entry{{Label: 1 << 19, Last: true}}, []byte{0x80, 0, 1, 0}},
		{"greatest Label", []api.Entry{{Label: 1<<20 - 1, Last: true}}, []byte{0xff, 0xff, 0xf1, 0}},
		{"Class's lowest bit", []api.Entry{{Class: 1, Last: true}}, []byte{0, 0, 3, 0}},
		{"Class's highest bit", []api.Entry{{Class: 4, Last: true}}, []byte{0, 0, 9, 0}},
		{"greatest Class", []api.Entry{{Class: 7, Last: true}}, []byte{0, 0, 0x0f, 0}},
		{"TTL's lowest bit", []api.Entry{{TTL: 1, Last: true}}, []byte{0, 0, 1, 1}},
		{"TTL's highest bit", []api.Entry{{TTL: 128, Last: true}}, []byte{0, 0, 1, 0x80}},
		{"greatest TTL", []api.Entry{{TTL: 255, Last: true}}, []byte{0, 0, 1, 0xff}},
		{"all bits", []api.Entry{{Label: 1<<20 - 1, Class: 7, TTL: 255, Last: true}}, []byte{0xff, 0xff, 0xff, 0xff}},
		{"a node's label", []api.Entry{{Label: api.NodeBase + 3, TTL: 64, Last: true}}, []byte{0x03, 0xe8, 0x31, 0x40}},
		{"the first is at the front", []api.Entry{{Label: 0x12345, Class: 5, TTL: 0x67}, {Label: 0xfedcb, Class: 2, TTL: 0x98, Last: true}}, []byte{0x12, 0x34, 0x5a, 0x67, 0xfe, 0xdc, 0xb5, 0x98}},
		{"three", []api.Entry{{}, {Label: 9}, {Last: true}}, []byte{0, 0, 0, 0, 0, 0, 0x90, 0, 0, 0, 1, 0}},
	} {
		t.Run(x.name, func(t *testing.T) {
			if b, e := Put(x.l); e != api.OK || !bytes.Equal(b, x.b) {
				t.Errorf("Put: %x, %v, not %x", b, e, x.b)
			}
			if l, e := Get(x.b); e != api.OK || !slices.Equal(l, x.l) {
				t.Errorf("Get: %v, %v, not %v", l, e, x.l)
			}
		})
	}
}

func TestP101ThereAndBack(t *testing.T) {
	for _, n := range []int{1, 2, 3, 10, 255, 256, 999, 1000} {
		l := stack(n)
		b, e := Put(l)
		if e != api.OK || len(b) != 4*n {
			t.Fatalf("Put of %d entries: %d bytes, %v", n, len(b), e)
		}
		if back, e := Get(b); e != api.OK || !slices.Equal(back, l) {
			t.Errorf("Get of %d entries: %v, %v", n, back, e)
		}
	}
}

// Each word of 4 bytes is an entry, but for its Last.
func TestP101EveryWord(t *testing.T) {
	for i := range 1 << 16 {
		w := uint32(i) * 0x9e3779b1
		b := []byte{byte(w >> 24), byte(w >> 16), byte(w >> 8), byte(w)}
		last := b[2]&1 == 1
		l, e := Get(b)
		if !last {
			if e != api.ErrBytes || len(l) != 0 {
				t.Fatalf("Get(%x): %v, %v", b, l, e)
			}
			continue
		}
		if e != api.OK || len(l) != 1 {
			t.Fatalf("Get(%x): %v, %v", b, l, e)
		}
		if back, e := Put(l); e != api.OK || !bytes.Equal(back, b) {
			t.Fatalf("Put(%v): %x, %v, not %x", l, back, e, b)
		}
	}
}

func TestP101PutRefuses(t *testing.T) {
	for name, l := range map[string][]api.Entry{
		"nil":           nil,
		"empty":         {},
		"1,001 entries": stack(1001),
		"2,000 entries": stack(2000),
		"no Last":       {{Label: 1}},
		"no Last of 2":  {{Label: 1}, {Label: 2}},
		"Last first":    {{Last: true}, {}},
		"Last twice":    {{Last: true}, {Last: true}},
		"Last within":   {{}, {Last: true}, {Last: true}},
	} {
		if b, e := Put(l); e != api.ErrArg || len(b) != 0 {
			t.Errorf("%s: %d bytes, %v", name, len(b), e)
		}
	}
}

func TestP101PutRefusesNumbers(t *testing.T) {
	for name, x := range map[string]struct {
		bits int
		set  func(e *api.Entry, n int)
	}{
		"Label": {20, func(e *api.Entry, n int) { e.Label = n }},
		"Class": {3, func(e *api.Entry, n int) { e.Class = n }},
		"TTL":   {8, func(e *api.Entry, n int) { e.TTL = n }},
	} {
		most := 1<<x.bits - 1
		for _, n := range []int{-1, most + 1, 2*most + 2, -most - 1, 1 << 32, 1<<32 + 1, -1 << 32, math.MaxInt, math.MinInt} {
			for place := range 3 {
				l := stack(3)
				x.set(&l[place], n)
				if b, e := Put(l); e != api.ErrArg || len(b) != 0 {
					t.Errorf("%s %d at %d: %x, %v", name, n, place, b, e)
				}
			}
		}
		for _, n := range []int{0, 1, most} {
			l := stack(3)
			x.set(&l[1], n)
			if _, e := Put(l); e != api.OK {
				t.Errorf("%s %d: %v", name, n, e)
			}
		}
	}
}

func TestP101GetRefuses(t *testing.T) {
	good, _ := Put(stack(1000))
	if _, e := Get(good); e != api.OK {
		t.Fatalf("Get of 1,000 entries: %v", e)
	}
	long := append(make([]byte, 4000), 0, 0, 1, 0)
	for name, b := range map[string][]byte{
		"nil":           nil,
		"empty":         {},
		"1 byte":        {1},
		"2 bytes":       {1, 1},
		"3 bytes":       {0, 0, 1},
		"5 bytes":       {0, 0, 1, 0, 0},
		"7 bytes":       {0, 0, 0, 0, 0, 0, 1},
		"no Last":       {0, 0, 0, 0},
		"no Last of 2":  {0, 0, 0, 0, 0xff, 0xff, 0xfe, 0xff},
		"Last first":    {0, 0, 1, 0, 0, 0, 0, 0},
		"Last twice":    {0, 0, 1, 0, 0, 0, 1, 0},
		"1,001 entries": long,
		"cut":           good[:3999],
		"cut by one":    good[:3996],
		"its end alone": good[3997:],
	} {
		if l, e := Get(b); e != api.ErrBytes || len(l) != 0 {
			t.Errorf("%s: %v, %v", name, l, e)
		}
	}
}

// What is handed in stays as it is, its spare room too, whether it is taken or
// refused.
func TestP102HandedIn(t *testing.T) {
	mark := api.Entry{Label: -7, Class: -7, TTL: -7, Last: true}
	for i, l := range [][]api.Entry{{}, {{Last: true}}, stack(3), stack(1000), stack(1001), {{Last: true}, {TTL: -1}}} {
		room := append(slices.Clone(l), mark, mark, mark, mark)
		was := slices.Clone(room)
		Put(room[:len(l)])
		if !slices.Equal(room, was) {
			t.Errorf("Put %d turned what it was handed", i)
		}
	}
	for i, b := range [][]byte{{}, {0, 0, 1, 0}, {1, 2, 2, 4, 1, 2, 3, 4}, {0, 0, 0, 0}, {1, 1, 1, 1, 1}} {
		room := append(slices.Clone(b), 0xa5, 0xa5, 0xa5, 0xa5)
		was := slices.Clone(room)
		Get(room[:len(b)])
		if !bytes.Equal(room, was) {
			t.Errorf("Get %d turned what it was handed", i)
		}
	}
}

// What is answered stays as it is, whatever is done with what was handed in
// and with other answers.
func TestP102NewMemory(t *testing.T) {
	in := stack(3)
	first, _ := Put(in)
	want := slices.Clone(first)
	clear(in)
	second, _ := Put(stack(3))
	clear(second[:cap(second)])
	if !bytes.Equal(first, want) {
		t.Errorf("Put's answer became %x, not %x", first, want)
	}

	b := slices.Clone(want)
	l, _ := Get(b)
	clear(b)
	other, _ := Get(want)
	clear(other[:cap(other)])
	if !slices.Equal(l, stack(3)) {
		t.Errorf("Get's answer became %v", l)
	}
}

// The same arguments get the same answers, whatever was asked between.
func TestP102SameAgain(t *testing.T) {
	bytesOf := func() string {
		b, e := Put(stack(5))
		return string(b) + strconv.Itoa(int(e))
	}
	once := bytesOf()
	b, _ := Put(stack(5))
	for _, between := range []func(){
		func() { Put(nil) },
		func() { Put(stack(1000)) },
		func() { Put([]api.Entry{{Class: 8, Last: true}}) },
		func() { Get(nil) },
		func() { Get([]byte{9, 9, 9, 9}) },
		func() { Get([]byte{9, 9, 8, 9}) },
	} {
		between()
		if got := bytesOf(); got != once {
			t.Errorf("Put: %x, not %x", got, once)
		}
		if l, e := Get(b); e != api.OK || !slices.Equal(l, stack(5)) {
			t.Errorf("Get: %v, %v", l, e)
		}
	}
}
