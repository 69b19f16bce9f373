package bits

import (
	"math"
	"math/rand"
	"slices"
	"strings"
	"testing"

	"linenpress/api"
)

// slowPack lays bit by bit, as the chapter says it.
func slowPack(l []api.Piece) string {
	var room []byte
	at := 0
	for _, p := range l {
		for i := range p.Width {
			if at%8 == 0 {
				room = append(room, 0)
			}
			room[at/8] |= byte(p.Val>>i&1) << (at % 8)
			at++
		}
	}
	return string(room)
}

func somePieces(r *rand.Rand) []api.Piece {
	l := make([]api.Piece, r.Intn(20))
	for i := range l {
		w := r.Intn(65)
		l[i] = api.Piece{Val: r.Uint64() & (1<<w - 1), Width: w}
	}
	return l
}

func widthsOf(l []api.Piece) []int {
	var out []int
	for _, p := range l {
		out = append(out, p.Width)
	}
	return out
}

func valsOf(l []api.Piece) []uint64 {
	var out []uint64
	for _, p := range l {
		out = append(out, p.Val)
	}
	return out
}

func TestP3Pack(t *testing.T) {
	for _, x := range []struct {
		l    []api.Piece
		want string
	}{
		{nil, ""},
		{[]api.Piece{}, ""},
		{[]api.Piece{{Val: 0, Width: 0}, {Val: 0, Width: 0}}, ""},
		{[]api.Piece{{Val: 1, Width: 1}, {Val: 5, Width: 8}}, "\x0b\x00"},
		{[]api.Piece{{Val: 1, Width: 1}, {Val: 0, Width: 0}, {Val: 5, Width: 8}}, "\x0b\x00"},
		{[]api.Piece{{Val: 0x0102, Width: 16}}, "\x02\x01"},
		{[]api.Piece{{Val: 1, Width: 8}}, "\x01"},
		{[]api.Piece{{Val: 0, Width: 9}}, "\x00\x00"},
		{[]api.Piece{{Val: math.MaxUint64, Width: 64}}, strings.Repeat("\xff", 8)},
		{[]api.Piece{{Val: 1, Width: 3}, {Val: math.MaxUint64, Width: 64}}, "\xf9" + strings.Repeat("\xff", 7) + "\x07"},
	} {
		if s, e := Pack(x.l); e != api.OK || s != x.want {
			t.Errorf("Pack(%v) = %q, %v; want %q", x.l, s, e, x.want)
		}
	}
}

func TestP3PackBitByBit(t *testing.T) {
	r := rand.New(rand.NewSource(3))
	for range 2000 {
		l := somePieces(r)
		if s, e := Pack(l); e != api.OK || s != slowPack(l) {
			t.Fatalf("Pack(%v) = %q, %v; want %q", l, s, e, slowPack(l))
		}
	}
}

func TestP3PackWrong(t *testing.T) {
	tooMany := slices.Repeat([]api.Piece{{Width: 64}}, api.MaxBits/64+1)
	for _, x := range []struct {
		name string
		l    []api.Piece
		want api.Errno
	}{
		{"width below 0", []api.Piece{{Width: -1}}, api.ErrArg},
		{"least width", []api.Piece{{Val: 1, Width: math.MinInt}}, api.ErrArg},
		{"width above 64", []api.Piece{{Width: 65}}, api.ErrArg},
		{"greatest width", []api.Piece{{Val: 1, Width: math.MaxInt}}, api.ErrArg},
		{"no room in no bits", []api.Piece{{Val: 1, Width: 0}}, api.ErrLarge},
		{"no room in one bit", []api.Piece{{Val: 2, Width: 1}}, api.ErrLarge},
		{"no room in 63 bits", []api.Piece{{Val: 1 << 63, Width: 63}}, api.ErrLarge},
		{"both in one piece", []api.Piece{{Val: 9, Width: -3}}, api.ErrArg},
		{"value ahead of width", []api.Piece{{Val: 1, Width: 1}, {Val: 2, Width: 1}, {Width: 65}}, api.ErrLarge},
		{"width ahead of value", []api.Piece{{Val: 1, Width: 1}, {Width: 65}, {Val: 2, Width: 1}}, api.ErrArg},
		{"too many bits", tooMany, api.ErrLarge},
		{"too many bits, and a wrong width behind", append(slices.Clone(tooMany), api.Piece{Width: -1}), api.ErrArg},
	} {
		if s, e := Pack(x.l); e != x.want || s != "" {
			t.Errorf("%s: %q, %v; want %v", x.name, s, e, x.want)
		}
	}
}

func TestP3MaxBits(t *testing.T) {
	full := slices.Repeat([]api.Piece{{Val: 1, Width: 64}}, api.MaxBits/64)
	want := strings.Repeat("\x01\x00\x00\x00\x00\x00\x00\x00", api.MaxBits/64)
	if s, e := Pack(full); e != api.OK || s != want {
		t.Errorf("%d bytes, %v", len(s), e)
	}
	if s, e := Pack(append(slices.Clone(full), api.Piece{Width: 0})); e != api.OK || s != want {
		t.Errorf("with no more bits: %d bytes, %v", len(s), e)
	}
	if s, e := Pack(append(slices.Clone(full), api.Piece{Width: 1})); e != api.ErrLarge || s != "" {
		t.Errorf("with one more bit: %d bytes, %v", len(s), e)
	}
}

func TestP4Unpack(t *testing.T) {
	for _, x := range []struct {
		s      string
		widths []int
		want   []uint64
	}{
		{"", nil, nil},
		{"", []int{}, nil},
		{"", []int{0, 0}, []uint64{0, 0}},
		{"\xff", nil, nil},
		{"\x0b\x00", []int{1, 8}, []uint64{1, 5}},
		{"\x0b\xfe", []int{1, 8}, []uint64{1, 5}},
		{"\x0b\x00behind", []int{1, 8}, []uint64{1, 5}},
		{"\xff", []int{8}, []uint64{255}},
		{"\xff", []int{0, 3, 0, 5, 0}, []uint64{0, 7, 0, 31, 0}},
		{"\x02\x01", []int{16}, []uint64{0x0102}},
		{strings.Repeat("\xff", 8), []int{64}, []uint64{math.MaxUint64}},
		{"\xf9" + strings.Repeat("\xff", 7) + "\x07", []int{3, 64}, []uint64{1, math.MaxUint64}},
	} {
		if l, e := Unpack(x.s, x.widths); e != api.OK || !slices.Equal(l, x.want) {
			t.Errorf("Unpack(%q, %v) = %v, %v; want %v", x.s, x.widths, l, e, x.want)
		}
	}
}

func TestP4UnpackWhatWasPacked(t *testing.T) {
	r := rand.New(rand.NewSource(4))
	for range 2000 {
		l := somePieces(r)
		s := slowPack(l) + strings.Repeat("\xff", r.Intn(3))
		if got, e := Unpack(s, widthsOf(l)); e != api.OK || !slices.Equal(got, valsOf(l)) {
			t.Fatalf("Unpack(%q, %v) = %v, %v; want %v", s, widthsOf(l), got, e, valsOf(l))
		}
	}
}

func TestP4UnpackBeyondMaxBits(t *testing.T) {
	n := api.MaxBits/64 + 1
	l, e := Unpack(strings.Repeat("\x01\x00\x00\x00\x00\x00\x00\x00", n), slices.Repeat([]int{64}, n))
	if e != api.OK || !slices.Equal(l, slices.Repeat([]uint64{1}, n)) {
		t.Errorf("%d numbers, %v", len(l), e)
	}
}

func TestP4UnpackWrong(t *testing.T) {
	for _, x := range []struct {
		s      string
		widths []int
		want   api.Errno
	}{
		{"", []int{1}, api.ErrShort},
		{"a", []int{9}, api.ErrShort},
		{"a", []int{4, 5}, api.ErrShort},
		{"abcdefgh", []int{64, 1}, api.ErrShort},
		{"abc", []int{-1}, api.ErrArg},
		{"abc", []int{65}, api.ErrArg},
		{"abc", []int{math.MinInt}, api.ErrArg},
		{"abc", []int{math.MaxInt}, api.ErrArg},
		{"abc", []int{8, 8, 65}, api.ErrArg},
		{"abc", []int{9, -1}, api.ErrArg},
		{"a", []int{64, 64, 65}, api.ErrArg},
		{"a", []int{64, -64}, api.ErrArg},
	} {
		if l, e := Unpack(x.s, x.widths); e != x.want || len(l) != 0 {
			t.Errorf("Unpack(%q, %v) = %v, %v; want %v", x.s, x.widths, l, e, x.want)
		}
	}
}

func TestP5Flip(t *testing.T) {
	for _, x := range []struct {
		n    uint64
		w    int
		want uint64
	}{
		{0b1101, 4, 0b1011},
		{0b1101, 3, 0b101},
		{0b1101, 2, 0b10},
		{0b1101, 6, 0b101100},
		{1, 1, 1},
		{1, 64, 1 << 63},
		{1 << 63, 64, 1},
		{1, 63, 1 << 62},
		{1 << 63, 63, 0},
		{math.MaxUint64, 0, 0},
		{math.MaxUint64, -1, 0},
		{math.MaxUint64, math.MinInt, 0},
		{math.MaxUint64, 5, 31},
		{3, 65, 3 << 62},
		{3, math.MaxInt, 3 << 62},
	} {
		if got := Flip(x.n, x.w); got != x.want {
			t.Errorf("Flip(%b, %d) = %b; want %b", x.n, x.w, got, x.want)
		}
	}
}

func TestP5FlipBitByBit(t *testing.T) {
	r := rand.New(rand.NewSource(5))
	for w := range 65 {
		n := r.Uint64()
		got := Flip(n, w)
		for i := range 64 {
			want := uint64(0)
			if i < w {
				want = n >> (w - 1 - i) & 1
			}
			if got>>i&1 != want {
				t.Fatalf("Flip(%b, %d) = %b: bit %d", n, w, got, i)
			}
		}
	}
}

func TestP2ListsStayAsTheyWere(t *testing.T) {
	pieces := []api.Piece{{Val: 1, Width: 1}, {Val: 5, Width: 8}, {Val: 7, Width: 70}}
	before := slices.Clone(pieces)
	if _, e := Pack(pieces[:2]); e != api.OK || !slices.Equal(pieces, before) {
		t.Error(pieces, e)
	}
	if _, e := Pack(pieces); e != api.ErrArg || !slices.Equal(pieces, before) {
		t.Error(pieces, e)
	}
	widths := []int{1, 8, 70}
	if _, e := Unpack("\x0b\x00", widths[:2]); e != api.OK || !slices.Equal(widths, []int{1, 8, 70}) {
		t.Error(widths, e)
	}
	if _, e := Unpack("\x0b\x00", widths); e != api.ErrArg || !slices.Equal(widths, []int{1, 8, 70}) {
		t.Error(widths, e)
	}
}

func TestP2AnswersAreNew(t *testing.T) {
	widths := []int{4, 4}
	a, _ := Unpack("\x21", widths)
	a = a[:cap(a)]
	for i := range a {
		a[i] = 99
	}
	if b, e := Unpack("\x21", widths); e != api.OK || !slices.Equal(b, []uint64{1, 2}) {
		t.Error(b, e)
	}
}
