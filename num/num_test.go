package num

import (
	"math"
	"math/big"
	"math/rand"
	"strings"
	"testing"

	"linenpress/api"
)

// groups cuts n into seven bits each, as the chapter says it: it divides where
// the program shifts.
func groups(n uint64) string {
	list := []uint64{n % 128}
	for n /= 128; n > 0; n /= 128 {
		list = append(list, n%128)
	}
	var out []byte
	for i, g := range list {
		if i < len(list)-1 {
			g += 128
		}
		out = append(out, byte(g))
	}
	return string(out)
}

// someNumbers has each edge at which a bit, a group or a byte more is needed,
// and numbers of every length.
func someNumbers() []uint64 {
	r := rand.New(rand.NewSource(9))
	l := []uint64{0, math.MaxUint64}
	for i := range 64 {
		p := uint64(1) << i
		l = append(l, p-1, p, p+1, r.Uint64()>>i)
	}
	return l
}

func TestP9Put(t *testing.T) {
	for _, x := range []struct {
		n    uint64
		want string
	}{
		{0, "\x00"},
		{1, "\x01"},
		{127, "\x7f"},
		{128, "\x80\x01"},
		{300, "\xac\x02"},
		{16383, "\xff\x7f"},
		{16384, "\x80\x80\x01"},
		{1<<63 - 1, strings.Repeat("\xff", 8) + "\x7f"},
		{1 << 63, strings.Repeat("\x80", 9) + "\x01"},
		{math.MaxUint64, strings.Repeat("\xff", 9) + "\x01"},
	} {
		if got := Put(x.n); got != x.want {
			t.Errorf("Put(%d) = %q; want %q", x.n, got, x.want)
		}
	}
	for _, n := range someNumbers() {
		if got := Put(n); got != groups(n) {
			t.Errorf("Put(%d) = %q; want %q", n, got, groups(n))
		}
	}
}

func TestP9GetWhatWasPut(t *testing.T) {
	for _, n := range someNumbers() {
		s := groups(n)
		for _, behind := range []string{"", "\x00", "\x01", "\x80", "\xff\xff", strings.Repeat("\x80", 20)} {
			if got, k, e := Get(s + behind); got != n || k != len(s) || e != api.OK {
				t.Errorf("Get(%q) = %d, %d, %v; want %d, %d", s+behind, got, k, e, n, len(s))
			}
		}
	}
}

func TestP9GetTooShort(t *testing.T) {
	for _, n := range someNumbers() {
		s := groups(n)
		for k := range len(s) {
			if got, m, e := Get(s[:k]); got != 0 || m != 0 || e != api.ErrShort {
				t.Errorf("Get(%q) = %d, %d, %v; want ErrShort", s[:k], got, m, e)
			}
		}
	}
}

func TestP9GetEdges(t *testing.T) {
	nine, full := strings.Repeat("\x80", 9), strings.Repeat("\xff", 9)
	for _, x := range []struct {
		s    string
		n    uint64
		k    int
		want api.Errno
	}{
		{"", 0, 0, api.ErrShort},
		{"\x00", 0, 1, api.OK},
		{"\x00\x00", 0, 1, api.OK},
		{"\x80", 0, 0, api.ErrShort},
		{"\x80\x00", 0, 0, api.ErrForm},
		{"\xff\x00", 0, 0, api.ErrForm},
		{"\x80\x80\x00", 0, 0, api.ErrForm},
		{"\x80\x80", 0, 0, api.ErrShort},
		{"\x80\x00\x01", 0, 0, api.ErrForm},
		{"\x81\x80\x01", 1<<14 + 1, 3, api.OK},
		{nine, 0, 0, api.ErrShort},
		{full, 0, 0, api.ErrShort},
		{nine + "\x00", 0, 0, api.ErrForm},
		{nine + "\x01", 1 << 63, 10, api.OK},
		{nine + "\x01\x00", 1 << 63, 10, api.OK},
		{full + "\x01", math.MaxUint64, 10, api.OK},
		{full + "\x02", 0, 0, api.ErrForm},
		{full + "\x7f", 0, 0, api.ErrForm},
		{nine + "\x80", 0, 0, api.ErrForm},
		{nine + "\x81", 0, 0, api.ErrForm},
		{nine + "\x80\x01", 0, 0, api.ErrForm},
		{nine + "\xff", 0, 0, api.ErrForm},
		{full[:8] + "\x02", 1<<56 - 1 + 2<<56, 9, api.OK},
		{strings.Repeat("\x80", 1000), 0, 0, api.ErrForm},
	} {
		if n, k, e := Get(x.s); n != x.n || k != x.k || e != x.want {
			t.Errorf("Get(%q) = %d, %d, %v; want %d, %d, %v", x.s, n, k, e, x.n, x.k, x.want)
		}
	}
}

// What Get reads is what Put would have written, whatever the bytes are: a
// number has one form.
func TestP9GetHasOneForm(t *testing.T) {
	r := rand.New(rand.NewSource(99))
	for range 20000 {
		b := make([]byte, r.Intn(13))
		for i := range b {
			b[i] = []byte{0, 1, 2, 127, 128, 129, 255, byte(r.Intn(256)) | 128}[r.Intn(8)]
		}
		n, k, e := Get(string(b))
		if e == api.OK && Put(n) != string(b[:k]) {
			t.Fatalf("Get(%q) = %d, %d; Put says %q", b, n, k, Put(n))
		}
		if e != api.OK && (n != 0 || k != 0) {
			t.Fatalf("Get(%q) = %d, %d, %v", b, n, k, e)
		}
	}
}

// slowZig counts without a bound, so that no wrap is hidden in it.
func slowZig(n int64) uint64 {
	b := new(big.Int).Mul(big.NewInt(n), big.NewInt(2))
	if n < 0 {
		b.Neg(b).Sub(b, big.NewInt(1))
	}
	return b.Uint64()
}

func TestP10Zig(t *testing.T) {
	for _, x := range []struct {
		n int64
		u uint64
	}{
		{0, 0},
		{-1, 1},
		{1, 2},
		{-2, 3},
		{2, 4},
		{math.MaxInt64, math.MaxUint64 - 1},
		{math.MinInt64, math.MaxUint64},
		{math.MinInt64 + 1, math.MaxUint64 - 2},
	} {
		if got := Zig(x.n); got != x.u {
			t.Errorf("Zig(%d) = %d; want %d", x.n, got, x.u)
		}
		if got := Zag(x.u); got != x.n {
			t.Errorf("Zag(%d) = %d; want %d", x.u, got, x.n)
		}
	}
}

func TestP10ZagIsTheWayBack(t *testing.T) {
	for _, u := range someNumbers() {
		if n := int64(u); Zig(n) != slowZig(n) || Zag(slowZig(n)) != n {
			t.Errorf("%d: Zig %d, want %d; back %d", n, Zig(n), slowZig(n), Zag(slowZig(n)))
		}
		if slowZig(Zag(u)) != u {
			t.Errorf("Zag(%d) = %d", u, Zag(u))
		}
	}
}

func TestP11Fix(t *testing.T) {
	for _, x := range []struct {
		n    uint64
		w    int
		want string
	}{
		{258, 3, "\x00\x01\x02"},
		{258, 2, "\x01\x02"},
		{258, 1, "\x02"},
		{0, 1, "\x00"},
		{0, 8, strings.Repeat("\x00", 8)},
		{0x0102030405060708, 8, "\x01\x02\x03\x04\x05\x06\x07\x08"},
		{0x0102030405060708, 7, "\x02\x03\x04\x05\x06\x07\x08"},
		{math.MaxUint64, 8, strings.Repeat("\xff", 8)},
		{1, 0, ""},
		{1, -1, ""},
		{1, 9, ""},
		{1, math.MinInt, ""},
		{1, math.MaxInt, ""},
	} {
		if got := Fix(x.n, x.w); got != x.want {
			t.Errorf("Fix(%#x, %d) = %q; want %q", x.n, x.w, got, x.want)
		}
	}
}

func TestP11Unfix(t *testing.T) {
	for _, x := range []struct {
		s    string
		n    uint64
		want api.Errno
	}{
		{"", 0, api.OK},
		{"\x00", 0, api.OK},
		{"\xff", 255, api.OK},
		{"\x01\x02", 258, api.OK},
		{"\x00\x01\x02", 258, api.OK},
		{"\x01\x02\x03\x04\x05\x06\x07\x08", 0x0102030405060708, api.OK},
		{strings.Repeat("\xff", 8), math.MaxUint64, api.OK},
		{"123456789", 0, api.ErrLarge},
		{strings.Repeat("\x00", 9), 0, api.ErrLarge},
		{strings.Repeat("\x00", 1000), 0, api.ErrLarge},
	} {
		if n, e := Unfix(x.s); n != x.n || e != x.want {
			t.Errorf("Unfix(%q) = %d, %v; want %d, %v", x.s, n, e, x.n, x.want)
		}
	}
}

func TestP11UnfixWhatWasFixed(t *testing.T) {
	for _, n := range someNumbers() {
		for w := 1; w <= 8; w++ {
			s := Fix(n, w)
			want := n
			if w < 8 {
				want = n % (1 << (8 * w))
			}
			if got, e := Unfix(s); len(s) != w || got != want || e != api.OK {
				t.Errorf("Unfix(Fix(%#x, %d)) = %#x, %v; want %#x", n, w, got, e, want)
			}
		}
	}
}
