// Package sum: check sums: see doc/02-sum.md.
package sum

const (
	mix = 0x82f63b78
	top = 1 << 31
)

// fours has at i what four steps make of i: half a byte at a time is much
// faster than bit by bit, and a table for whole bytes would be a long one.
var fours = [16]uint32{
	0x00000000, 0x105ec76f, 0x20bd8ede, 0x30e349b1,
	0x417b1dbc, 0x5125dad3, 0x61c69362, 0x7198540d,
	0x82f63b78, 0x92a8fc17, 0xa24bb5a6, 0xb21572c9,
	0xc38d26c4, 0xd3d3e1ab, 0xe330a81a, 0xf36e6f75,
}

// steps is what some number of steps does to 32 bits: word i is what becomes
// of bit i alone. A step of an exclusive-or is the exclusive-or of the steps,
// so these 32 words say what becomes of any bits.
type steps [32]uint32

// Sum: see the chapter.
func Sum(s string) uint32 { return More(0, s) }

// More: see the chapter.
func More(c uint32, s string) uint32 {
	c = ^c
	for i := range len(s) {
		c ^= uint32(s[i])
		c = c>>4 ^ fours[c&15]
		c = c>>4 ^ fours[c&15]
	}
	return ^c
}

// Join: see the chapter.
func Join(a, b uint32, n int) uint32 {
	t := twice(twice(twice(oneStep()))) // steps of a byte: 8n itself may have no room in an int
	for ; n > 0; n >>= 1 {
		if n&1 == 1 {
			a = take(t, a)
		}
		t = twice(t)
	}
	return a ^ b
}

// Force: see the chapter.
//
// Four bytes that go in one by one, eight steps behind each, do what all their
// bits do that go in at once, 32 steps behind them: no bit of a byte is at the
// low end before its turn. So the text is what stood ahead of the 32 steps that
// end in want, less what a brings along.
func Force(a, want uint32) string {
	c := ^want
	for range 32 {
		c = stepBack(c)
	}
	c ^= ^a
	return string([]byte{byte(c), byte(c >> 8), byte(c >> 16), byte(c >> 24)})
}

func step(c uint32) uint32 {
	if c&1 == 1 {
		return c>>1 ^ mix
	}
	return c >> 1
}

// stepBack: mix has the top bit and c>>1 has not, so the top bit tells whether
// the lowest was 1.
func stepBack(c uint32) uint32 {
	if c&top != 0 {
		return (c^mix)<<1 | 1
	}
	return c << 1
}

func oneStep() steps {
	var t steps
	for i := range t {
		t[i] = step(1 << i)
	}
	return t
}

func take(t steps, c uint32) uint32 {
	r := uint32(0)
	for i, w := range t {
		if c>>i&1 == 1 {
			r ^= w
		}
	}
	return r
}

func twice(t steps) steps {
	var r steps
	for i, w := range t {
		r[i] = take(t, w)
	}
	return r
}
