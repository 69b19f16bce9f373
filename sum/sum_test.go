package sum

import (
	"hash/crc32"
	"math"
	"math/rand"
	"strings"
	"testing"
)

// slowStep and slowMore are the chapter's words, with nothing of the program's.
func slowStep(c uint32) uint32 {
	low := c & 1
	c >>= 1
	if low == 1 {
		c ^= 0x82f63b78
	}
	return c
}

func slowMore(c uint32, s string) uint32 {
	c ^= math.MaxUint32
	for _, b := range []byte(s) {
		c ^= uint32(b)
		for range 8 {
			c = slowStep(c)
		}
	}
	return c ^ math.MaxUint32
}

// times takes 32 bits as a polynomial, the top bit as 1, a step as once x:
// another way to far steps than the program's.
func times(a, b uint32) uint32 {
	p := uint32(0)
	for i := range 32 {
		if b>>(31-i)&1 == 1 {
			p ^= a
		}
		a = slowStep(a)
	}
	return p
}

func farJoin(a, b uint32, n int) uint32 {
	power, square := uint32(1)<<31, uint32(1)<<(31-8)
	for ; n > 0; n /= 2 {
		if n%2 == 1 {
			power = times(power, square)
		}
		square = times(square, square)
	}
	return times(a, power) ^ b
}

func someText(r *rand.Rand, most int) string {
	b := make([]byte, r.Intn(most+1))
	r.Read(b)
	return string(b)
}

func TestP6Known(t *testing.T) {
	for s, want := range map[string]uint32{
		"":                         0,
		"a":                        0xc1d04330,
		"123456789":                0xe3069283,
		strings.Repeat("\x00", 32): 0x8a9136aa,
		strings.Repeat("\xff", 32): 0x62a8ab43,
	} {
		if got := Sum(s); got != want {
			t.Errorf("Sum(%q) = %08x; want %08x", s, got, want)
		}
	}
}

func TestP6ByteByByte(t *testing.T) {
	for b := range 256 {
		s := string([]byte{byte(b)})
		for _, c := range []uint32{0, 1, 0x80000000, 0x12345678, math.MaxUint32} {
			if got, want := More(c, s), slowMore(c, s); got != want {
				t.Errorf("More(%08x, %q) = %08x; want %08x", c, s, got, want)
			}
		}
	}
}

func TestP6LongTexts(t *testing.T) {
	r := rand.New(rand.NewSource(6))
	table := crc32.MakeTable(crc32.Castagnoli)
	for range 300 {
		c, s := r.Uint32(), someText(r, 3000)
		if got, want := More(c, s), slowMore(c, s); got != want {
			t.Fatalf("More(%08x, %q) = %08x; want %08x", c, s, got, want)
		}
		if got, want := Sum(s), crc32.Checksum([]byte(s), table); got != want {
			t.Fatalf("Sum(%q) = %08x; want %08x", s, got, want)
		}
	}
}

func TestP6OneBehindTheOther(t *testing.T) {
	s := "one text and another\x00\xff\x80"
	for i := range len(s) + 1 {
		if got := More(Sum(s[:i]), s[i:]); got != Sum(s) {
			t.Errorf("cut at %d: %08x", i, got)
		}
	}
	if got := More(0xdeadbeef, ""); got != 0xdeadbeef {
		t.Errorf("nothing more: %08x", got)
	}
}

func TestP7JoinStepByStep(t *testing.T) {
	r := rand.New(rand.NewSource(7))
	for range 20 {
		a, b := r.Uint32(), r.Uint32()
		c := a
		for n := range 70 {
			if got := Join(a, b, n); got != c^b {
				t.Fatalf("Join(%08x, %08x, %d) = %08x; want %08x", a, b, n, got, c^b)
			}
			for range 8 {
				c = slowStep(c)
			}
		}
	}
}

func TestP7JoinTexts(t *testing.T) {
	r := rand.New(rand.NewSource(77))
	for range 200 {
		a, b := someText(r, 2000), someText(r, 2000)
		if got := Join(Sum(a), Sum(b), len(b)); got != Sum(a+b) {
			t.Fatalf("%d and %d bytes: %08x; want %08x", len(a), len(b), got, Sum(a+b))
		}
	}
	if got := Join(Sum("alone"), Sum(""), 0); got != Sum("alone") {
		t.Errorf("%08x", got)
	}
	if got := Join(Sum(""), Sum("alone"), 5); got != Sum("alone") {
		t.Errorf("%08x", got)
	}
}

func TestP7JoinBelowNought(t *testing.T) {
	for _, n := range []int{0, -1, -5, -8, math.MinInt32, math.MinInt + 1, math.MinInt} {
		if got := Join(0x12345678, 0x0f0f0f0f, n); got != 0x12345678^0x0f0f0f0f {
			t.Errorf("%d: %08x", n, got)
		}
	}
}

func TestP7JoinFar(t *testing.T) {
	r := rand.New(rand.NewSource(777))
	far := []int{1 << 20, math.MaxInt32, math.MaxInt32 + 1, math.MaxInt / 8, math.MaxInt/8 + 1, math.MaxInt / 4, math.MaxInt/2 + 1, math.MaxInt - 1, math.MaxInt}
	for range 50 {
		far = append(far, r.Int())
	}
	for _, n := range far {
		a, b := r.Uint32(), r.Uint32()
		if got, want := Join(a, b, n), farJoin(a, b, n); got != want {
			t.Errorf("Join(%08x, %08x, %d) = %08x; want %08x", a, b, n, got, want)
		}
	}
}

func TestP8Force(t *testing.T) {
	r := rand.New(rand.NewSource(8))
	edges := []uint32{0, 1, 2, 0x7fffffff, 0x80000000, 0x82f63b78, math.MaxUint32}
	for range 30 {
		edges = append(edges, r.Uint32())
	}
	for _, a := range edges {
		for _, want := range edges {
			s := Force(a, want)
			if len(s) != 4 || slowMore(a, s) != want {
				t.Errorf("Force(%08x, %08x) = %q: %08x", a, want, s, slowMore(a, s))
			}
		}
	}
}

func TestP8ForceFindsTheText(t *testing.T) {
	r := rand.New(rand.NewSource(88))
	for range 500 {
		a, b := r.Uint32(), r.Uint32()
		s := string([]byte{byte(b), byte(b >> 8), byte(b >> 16), byte(b >> 24)})
		if got := Force(a, slowMore(a, s)); got != s {
			t.Fatalf("from %08x: %q; want %q", a, got, s)
		}
	}
}
