package gauss

import (
	"bytes"
	"math"
	"math/cmplx"
	"slices"
	"strings"
	"testing"

	"waymark/api"
	"waymark/packet"
)

// chance makes numbers, the same ones each time.
type chance uint32

func (c *chance) next(most int) int {
	*c = *c*1664525 + 1013904223
	return int(*c>>9) % most
}

// edges are parts at which a product or a sum may go wrong.
func edges() []int {
	return []int{0, 1, 2, 3, 255, 256, 257, 32760, 32761, 65519, 65520}
}

func whole(x, y int) complex128 {
	return complex(float64(x), float64(y))
}

// modulo answers n modulo 65521, from 0 on.
func modulo(n int) int {
	return (n%65521 + 65521) % 65521
}

// product multiplies x + yi by u + vi in integers.
func product(x, y, u, v int) complex128 {
	return whole(modulo(x*u-y*v), modulo(x*v+y*u))
}

// folded folds b in integers.
func folded(b []byte) complex128 {
	x, y := 1, 0
	for _, c := range b {
		x, y = modulo(3*x-2*y+int(c)), modulo(2*x+3*y+1)
	}
	return whole(x, y)
}

// same tells whether both are equal, a 0 with a minus being none without.
func same(a, b complex128) bool {
	return a == b && math.Signbit(real(a)) == math.Signbit(real(b)) && math.Signbit(imag(a)) == math.Signbit(imag(b))
}

func TestP301Mul(t *testing.T) {
	for _, x := range []struct{ a, b, want complex128 }{
		{0, 0, 0},
		{0, 65520 + 65520i, 0},
		{1, 1, 1},
		{1, 12345 + 6789i, 12345 + 6789i},
		{1i, 1i, 65520},
		{1i, 12345 + 6789i, 58732 + 12345i},
		{2 + 3i, 4 + 5i, 65514 + 22i},
		{3 + 2i, 3 + 65519i, 13},
		{32760, 2, 65520},
		{32761, 2, 1},
		{32761i, 2i, 65520},
		{65520, 65520, 1},
		{65520i, 65520i, 65520},
		{65520, 65520i, 1i},
		{65520i, 65520 + 65520i, 65520 + 1i},
		{65520 + 65520i, 65520 + 65520i, 2i},
		{256 + 256i, 256 + 256i, 30i},
		{40000 + 50000i, 60000 + 1234i, 52073 + 12660i},
	} {
		if got := Mul(x.a, x.b); !same(got, x.want) {
			t.Errorf("Mul(%v, %v): %v, not %v", x.a, x.b, got, x.want)
		}
		if got := Mul(x.b, x.a); !same(got, x.want) {
			t.Errorf("Mul(%v, %v): %v, not %v", x.b, x.a, got, x.want)
		}
	}
}

func TestP301MulAtEdges(t *testing.T) {
	for _, x := range edges() {
		for _, y := range edges() {
			for _, u := range edges() {
				for _, v := range edges() {
					if got, want := Mul(whole(x, y), whole(u, v)), product(x, y, u, v); !same(got, want) {
						t.Fatalf("Mul(%d + %di, %d + %di): %v, not %v", x, y, u, v, got, want)
					}
				}
			}
		}
	}
}

func TestP301MulAnywhere(t *testing.T) {
	c := chance(301)
	for range 20000 {
		x, y, u, v := c.next(65521), c.next(65521), c.next(65521), c.next(65521)
		if got, want := Mul(whole(x, y), whole(u, v)), product(x, y, u, v); !same(got, want) {
			t.Fatalf("Mul(%d + %di, %d + %di): %v, not %v", x, y, u, v, got, want)
		}
	}
}

// Each part of each number is looked at, whatever the other ones are.
func TestP301MulRefuses(t *testing.T) {
	wrong := []float64{
		-1, -2, -65520, -65521, -65522, 65521, 65522, 131041, 131042, 1 << 32, 1 << 53, 1 << 63, -1 << 63, 1e300, -1e300,
		0.5, 1.5, 0.25, -0.5, 65519.5, 65520.5, 0x1p-30, 1 + 0x1p-30, 65520 + 0x1p-20,
		math.SmallestNonzeroFloat64, -math.SmallestNonzeroFloat64, math.MaxFloat64, -math.MaxFloat64,
		math.Nextafter(1, 0), math.Nextafter(1, 2), math.Nextafter(65520, 65521), math.Nextafter(65521, 0),
		math.Inf(1), math.Inf(-1), math.NaN(),
	}
	for _, w := range wrong {
		for _, good := range []float64{0, 1, 65520} {
			for _, other := range []complex128{0, 1, 1i, 2 + 3i, 65520 + 65520i} {
				for _, z := range []complex128{complex(w, good), complex(good, w), complex(w, w)} {
					if got := Mul(z, other); !same(got, 0) {
						t.Errorf("Mul(%v, %v): %v", z, other, got)
					}
					if got := Mul(other, z); !same(got, 0) {
						t.Errorf("Mul(%v, %v): %v", other, z, got)
					}
				}
			}
		}
	}
	for _, z := range []complex128{cmplx.Inf(), cmplx.NaN(), 0.5 + 0.5i, 65521 + 65521i} {
		if got := Mul(z, z); !same(got, 0) {
			t.Errorf("Mul(%v, %v): %v", z, z, got)
		}
	}
}

// A 0 with a minus is 0, and none is answered.
func TestP301MulOfMinusZero(t *testing.T) {
	minus := math.Copysign(0, -1)
	for _, z := range []complex128{complex(minus, 0), complex(0, minus), complex(minus, minus)} {
		for _, other := range []complex128{0, 1, 1i, 5 + 7i, 65520 + 65520i, z} {
			if got := Mul(z, other); !same(got, 0) {
				t.Errorf("Mul(%v, %v): %v", z, other, got)
			}
		}
	}
	if got := Mul(complex(2, minus), 3+4i); !same(got, 6+8i) {
		t.Errorf("Mul: %v", got)
	}
}

func TestP301Fold(t *testing.T) {
	for _, x := range []struct {
		b    string
		want complex128
	}{
		{"", 1},
		{"\x00", 3 + 3i},
		{"\x05", 8 + 3i},
		{"\xff", 258 + 3i},
		{"\x00\x00", 3 + 16i},
		{"\x01\x02", 8 + 18i},
		{"\x02\x01", 10 + 20i},
		{"\x01\x02\x03", 65512 + 71i},
		{"waymark", 9162 + 55965i},
		{strings.Repeat("\x00", 13), 16379 + 37105i},
		{strings.Repeat("\xff", 13), 19944 + 45133i},
		{strings.Repeat("\x00", 1000), 25389 + 30667i},
		{strings.Repeat("\xff", 100000), 30981 + 54549i},
	} {
		if got := Fold([]byte(x.b)); !same(got, x.want) {
			t.Errorf("Fold of %d bytes, %.8x..: %v, not %v", len(x.b), x.b, got, x.want)
		}
	}
	if got := Fold([]byte{}); !same(got, 1) {
		t.Errorf("Fold of an empty list: %v", got)
	}
	if got := Fold(nil); !same(got, 1) {
		t.Errorf("Fold of nil: %v", got)
	}
}

// The sums are modulo 65521, too: a part that is 65520 or less ahead of what is
// added may be more behind it.
func TestP301FoldPastTheGreatest(t *testing.T) {
	for _, x := range []struct {
		b    string
		want complex128
	}{
		{"\xc0\xec\x9d\xfe", 65519 + 12098i},
		{"\xc0\xec\x9d\xff", 65520 + 12098i},
		{"\x4a\x6d\x0f\xfe", 65520 + 4862i},
		{"\x4a\x6d\x0f\xff", 4862i},
		{"\x91\xb0\xc9\x00", 65520 + 9304i},
		{"\x91\xb0\xc9\x01", 9304i},
		{"\x91\xb0\xc9\xff", 254 + 9304i},
		{"\xff\xc5\xd1\xd5\x48\x00", 17948 + 65520i},
		{"\xff\xc5\xd1\xd5\x48\xff", 18203 + 65520i},
		{"\x73\x71\xbb\x26\x33\xd1\x00", 483},
		{"\x73\x71\xbb\x26\x33\xd1\xff", 738},
	} {
		if got := Fold([]byte(x.b)); !same(got, x.want) {
			t.Errorf("Fold of %x: %v, not %v", x.b, got, x.want)
		}
	}
}

func TestP301FoldAnywhere(t *testing.T) {
	c := chance(3010)
	for n := range 20000 {
		b := make([]byte, n%60)
		for i := range b {
			b[i] = byte(c.next(256))
		}
		if got, want := Fold(b), folded(b); !same(got, want) {
			t.Fatalf("Fold of %x: %v, not %v", b, got, want)
		}
	}
}

func TestP301Hash(t *testing.T) {
	for _, x := range []struct {
		t    api.Tuple
		want int
	}{
		{api.Tuple{}, 151758},
		{api.Tuple{Src: 1}, 67295},
		{api.Tuple{Dst: 1}, 147701},
		{api.Tuple{Proto: 1}, 151045},
		{api.Tuple{Sport: 1}, 151805},
		{api.Tuple{Dport: 1}, 151765},
		{api.Tuple{Src: 0x0a000001, Dst: 0x0a000002, Proto: 6, Sport: 1024, Dport: 443}, 225628},
		{api.Tuple{Src: 0x0a000002, Dst: 0x0a000001, Proto: 6, Sport: 443, Dport: 1024}, 218343},
		{api.Tuple{Src: 0x01020304, Dst: 0xfffefdfc, Proto: 17, Sport: 0x0506, Dport: 0xa7b8}, 428874},
		{api.Tuple{Src: math.MaxUint32, Dst: math.MaxUint32, Proto: 255, Sport: 65535, Dport: 65535}, 184741},
	} {
		if got := Hash(x.t); got != x.want {
			t.Errorf("Hash(%v): %d, not %d", x.t, got, x.want)
		}
	}
}

func TestP301HashAnywhere(t *testing.T) {
	c := chance(30100)
	for range 5000 {
		in := api.Tuple{Src: uint32(c.next(1 << 23)), Dst: uint32(c.next(1<<23)) << 9, Proto: c.next(256), Sport: c.next(65536), Dport: c.next(65536)}
		sum := folded(packet.Bytes(in))
		if got, want := Hash(in), 7*int(real(sum))+int(imag(sum)); got != want {
			t.Fatalf("Hash(%v): %d, not %d", in, got, want)
		}
	}
}

// A tuple that can't be written has no bytes: Fold of nothing is 1.
func TestP301HashOfNoFlow(t *testing.T) {
	for _, n := range []int{-1, 65536, 1 << 32, math.MaxInt, math.MinInt} {
		for _, in := range []api.Tuple{
			{Proto: n},
			{Sport: n},
			{Dport: n},
			{Src: 9, Dst: 9, Proto: n, Sport: 9, Dport: 9},
			{Src: 9, Dst: 9, Proto: 9, Sport: n, Dport: n},
		} {
			if got := Hash(in); got != 7 {
				t.Errorf("Hash(%v): %d", in, got)
			}
		}
	}
	if got := Hash(api.Tuple{Proto: 256}); got != 7 {
		t.Errorf("Hash of Proto 256: %d", got)
	}
}

// What is handed in stays as it is, its spare room too, and is not kept.
func TestP302HandedIn(t *testing.T) {
	for n := range 40 {
		room := bytes.Repeat([]byte{0xa5}, n+8)
		was := slices.Clone(room)
		once := Fold(room[:n])
		if !bytes.Equal(room, was) {
			t.Errorf("Fold of %d bytes turned what it was handed", n)
		}
		clear(room)
		if again := Fold(was[:n]); again != once {
			t.Errorf("Fold of %d bytes: %v, then %v", n, once, again)
		}
		if got, want := Fold(room[:n]), folded(room[:n]); got != want {
			t.Errorf("Fold of %d bytes that were turned: %v, not %v", n, got, want)
		}
	}
}

// The same arguments get the same answers, whatever was asked between, and
// whatever room is left behind them.
func TestP302SameAgain(t *testing.T) {
	flow := api.Tuple{Src: 0x0a000001, Dst: 0x0a000002, Proto: 6, Sport: 1024, Dport: 443}
	for i, between := range []func(){
		func() {},
		func() { Mul(65520+65520i, 65520+65520i) },
		func() { Mul(cmplx.NaN(), cmplx.Inf()) },
		func() { Fold(nil) },
		func() { Fold([]byte("another text")) },
		func() { Hash(api.Tuple{}) },
		func() { Hash(api.Tuple{Proto: -1}) },
		func() { Hash(api.Tuple{Src: 1}) },
	} {
		between()
		if got := Mul(2+3i, 4+5i); got != 65514+22i {
			t.Errorf("%d: Mul: %v", i, got)
		}
		text := append(make([]byte, 0, 7+i), "waymark"...)
		if got := Fold(text); got != 9162+55965i {
			t.Errorf("%d: Fold: %v", i, got)
		}
		if got := Hash(flow); got != 225628 {
			t.Errorf("%d: Hash: %d", i, got)
		}
	}
}
