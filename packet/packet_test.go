package packet

import (
	"bytes"
	"math"
	"slices"
	"testing"

	"waymark/api"
)

// tuple is one whose 13 bytes all differ from each other.
var tuple = api.Tuple{Src: 0x01020304, Dst: 0xfffefdfc, Proto: 17, Sport: 0x0506, Dport: 0xa7b8}

var tupleBytes = []byte{1, 2, 3, 4, 0xff, 0xfe, 0xfd, 0xfc, 17, 5, 6, 0xa7, 0xb8}

func TestP201Written(t *testing.T) {
	for _, x := range []struct {
		name string
		t    api.Tuple
		b    []byte
	}{
		{"the zero Tuple", api.Tuple{}, make([]byte, 13)},
		{"all bytes apart", tuple, tupleBytes},
		{"Src's lowest bit", api.Tuple{Src: 1}, []byte{0, 0, 0, 1, 0, 0, 0, 0, 0, 0, 0, 0, 0}},
		{"Src's highest bit", api.Tuple{Src: 1 << 31}, []byte{0x80, 0, 0, 0, 0, 0, 0, 0, 0, 0, 0, 0, 0}},
		{"Dst's lowest bit", api.Tuple{Dst: 1}, []byte{0, 0, 0, 0, 0, 0, 0, 1, 0, 0, 0, 0, 0}},
		{"Dst's highest bit", api.Tuple{Dst: 1 << 31}, []byte{0, 0, 0, 0, 0x80, 0, 0, 0, 0, 0, 0, 0, 0}},
		{"Proto's lowest bit", api.Tuple{Proto: 1}, []byte{0, 0, 0, 0, 0, 0, 0, 0, 1, 0, 0, 0, 0}},
		{"Proto's highest bit", api.Tuple{Proto: 128}, []byte{0, 0, 0, 0, 0, 0, 0, 0, 0x80, 0, 0, 0, 0}},
		{"Sport's lowest bit", api.Tuple{Sport: 1}, []byte{0, 0, 0, 0, 0, 0, 0, 0, 0, 0, 1, 0, 0}},
		{"Sport's highest bit", api.Tuple{Sport: 1 << 15}, []byte{0, 0, 0, 0, 0, 0, 0, 0, 0, 0x80, 0, 0, 0}},
		{"Dport's lowest bit", api.Tuple{Dport: 1}, []byte{0, 0, 0, 0, 0, 0, 0, 0, 0, 0, 0, 0, 1}},
		{"Dport's highest bit", api.Tuple{Dport: 1 << 15}, []byte{0, 0, 0, 0, 0, 0, 0, 0, 0, 0, 0, 0x80, 0}},
		{"all the greatest", api.Tuple{Src: math.MaxUint32, Dst: math.MaxUint32, Proto: 255, Sport: 65535, Dport: 65535}, bytes.Repeat([]byte{0xff}, 13)},
	} {
		t.Run(x.name, func(t *testing.T) {
			if b := Bytes(x.t); !bytes.Equal(b, x.b) {
				t.Errorf("Bytes: %x, not %x", b, x.b)
			}
			if back, e := Read(x.b); e != api.OK || back != x.t {
				t.Errorf("Read: %v, %v, not %v", back, e, x.t)
			}
		})
	}
}

// Each bit of the bytes is told by one bit of one field.
func TestP201EveryBit(t *testing.T) {
	seen := map[api.Tuple]int{}
	for i := range 13 * 8 {
		b := make([]byte, 13)
		b[i/8] = 0x80 >> (i % 8)
		x, e := Read(b)
		if e != api.OK {
			t.Fatalf("Read(%x): %v", b, e)
		}
		if back := Bytes(x); !bytes.Equal(back, b) {
			t.Errorf("Bytes(%v): %x, not %x", x, back, b)
		}
		seen[x]++
	}
	if len(seen) != 13*8 {
		t.Errorf("%d tuples of 104 bits", len(seen))
	}
}

func TestP201ThereAndBack(t *testing.T) {
	n := uint32(1)
	next := func() uint32 {
		n = n*1664525 + 1013904223
		return n
	}
	for range 10000 {
		x := api.Tuple{Src: next(), Dst: next(), Proto: int(next() >> 24), Sport: int(next() >> 16), Dport: int(next() >> 16)}
		b := Bytes(x)
		if len(b) != 13 {
			t.Fatalf("Bytes(%v): %x", x, b)
		}
		if back, e := Read(b); e != api.OK || back != x {
			t.Fatalf("Read(%x): %v, %v, not %v", b, back, e, x)
		}
	}
}

func TestP201BytesRefuses(t *testing.T) {
	for name, x := range map[string]struct {
		most int
		set  func(t *api.Tuple, n int)
	}{
		"Proto": {255, func(t *api.Tuple, n int) { t.Proto = n }},
		"Sport": {65535, func(t *api.Tuple, n int) { t.Sport = n }},
		"Dport": {65535, func(t *api.Tuple, n int) { t.Dport = n }},
	} {
		for _, n := range []int{-1, x.most + 1, -x.most - 1, 2*x.most + 2, 1 << 32, 1<<32 + 1, -1 << 32, math.MaxInt, math.MinInt} {
			for _, in := range []api.Tuple{{}, tuple} {
				x.set(&in, n)
				if b := Bytes(in); len(b) != 0 {
					t.Errorf("%s %d: %x", name, n, b)
				}
			}
		}
		for _, n := range []int{0, 1, x.most - 1, x.most} {
			in := tuple
			x.set(&in, n)
			if b := Bytes(in); len(b) != 13 {
				t.Errorf("%s %d: %x", name, n, b)
			}
		}
	}
}

func TestP201ReadRefuses(t *testing.T) {
	long := bytes.Repeat([]byte{7}, 1<<16)
	for _, n := range []int{0, 1, 4, 8, 9, 11, 12, 14, 15, 26, 39, 256 + 13, 1 << 16} {
		if x, e := Read(long[:n]); e != api.ErrBytes || x != (api.Tuple{}) {
			t.Errorf("%d bytes: %v, %v", n, x, e)
		}
	}
	if x, e := Read(nil); e != api.ErrBytes || x != (api.Tuple{}) {
		t.Errorf("nil: %v, %v", x, e)
	}
	if _, e := Read(long[:13]); e != api.OK {
		t.Errorf("13 bytes: %v", e)
	}
}

// What is handed in stays as it is, its spare room too, whether it is taken or
// refused.
func TestP202HandedIn(t *testing.T) {
	for n := range 20 {
		room := bytes.Repeat([]byte{0xa5}, n+8)
		copy(room[:n], tupleBytes)
		was := slices.Clone(room)
		Read(room[:n])
		if !bytes.Equal(room, was) {
			t.Errorf("Read of %d bytes turned what it was handed", n)
		}
	}
}

// What is answered stays as it is, whatever is done with what was handed in
// and with other answers.
func TestP202NewMemory(t *testing.T) {
	first := Bytes(tuple)
	second := Bytes(tuple)
	clear(second[:cap(second)])
	if !bytes.Equal(first, tupleBytes) {
		t.Errorf("Bytes' answer became %x", first)
	}

	b := slices.Clone(tupleBytes)
	x, _ := Read(b)
	clear(b)
	if x != tuple {
		t.Errorf("Read's answer became %v", x)
	}
}

// The same arguments get the same answers, whatever was asked between.
func TestP202SameAgain(t *testing.T) {
	for i, between := range []func(){
		func() {},
		func() { Bytes(api.Tuple{}) },
		func() { Bytes(api.Tuple{Src: 9, Dst: 9, Proto: 9, Sport: 9, Dport: 9}) },
		func() { Bytes(api.Tuple{Proto: -1}) },
		func() { Read(nil) },
		func() { Read(make([]byte, 13)) },
		func() { Read(make([]byte, 14)) },
	} {
		between()
		if b := Bytes(tuple); !bytes.Equal(b, tupleBytes) {
			t.Errorf("%d: Bytes: %x", i, b)
		}
		if x, e := Read(tupleBytes); e != api.OK || x != tuple {
			t.Errorf("%d: Read: %v, %v", i, x, e)
		}
	}
}
