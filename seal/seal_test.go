package seal

import (
	"encoding/binary"
	"hash/crc32"
	"math"
	"math/rand"
	"slices"
	"strings"
	"testing"
	"unsafe"

	"linenpress/api"
)

// resealed: s with the sum behind it that fits it, whatever s is.
func resealed(s string) string {
	c := crc32.Checksum([]byte(s), crc32.MakeTable(crc32.Castagnoli))
	return string(binary.LittleEndian.AppendUint32([]byte(s), c))
}

// slowHead is the chapter's words for what stands ahead of a body, of numbers
// that need not be right.
func slowHead(kind, serial, count int) string {
	out := []byte{byte(kind)}
	out = binary.BigEndian.AppendUint32(out, uint32(serial))
	return string(binary.BigEndian.AppendUint16(out, uint16(count)))
}

func slowSeal(kind, serial int, body string) string {
	return resealed(slowHead(kind, serial, len(body)) + body)
}

func someBody(r *rand.Rand, n int) string {
	b := make([]byte, n)
	r.Read(b)
	return string(b)
}

// serials: each at which a bit or a byte more is needed, up to the greatest.
func serials() []int {
	l := []int{0, 258, 0x01020304, math.MaxInt32}
	for i := range 31 {
		l = append(l, 1<<i, 1<<i-1)
	}
	return l
}

func checkSeal(t *testing.T, kind, serial int, body string) {
	t.Helper()
	want := slowSeal(kind, serial, body)
	if s, e := Seal(kind, serial, body); s != want || e != api.OK {
		t.Fatalf("Seal(%d, %d, %q) = %q, %v; want %q", kind, serial, body, s, e, want)
	}
	checkOpen(t, want, kind, serial, body, api.OK)
}

func checkOpen(t *testing.T, s string, kind, serial int, body string, want api.Errno) {
	t.Helper()
	k, n, b, e := Open(s)
	if k != kind || n != serial || b != body || e != want {
		t.Fatalf("Open(%q) = %d, %d, %q, %v; want %d, %d, %q, %v", s, k, n, b, e, kind, serial, body, want)
	}
}

func refuses(t *testing.T, s string, want api.Errno) {
	t.Helper()
	checkOpen(t, s, 0, 0, "", want)
}

// The document's example: a body of one byte has twelve bytes, sealed.
func TestP32OneByte(t *testing.T) {
	s, e := Seal(api.SealLog, 258, "a")
	if e != api.OK || s != "\x01\x00\x00\x01\x02\x00\x01a\x96\x0b\x6d\xc2" {
		t.Errorf("%q, %v", s, e)
	}
	if s, e = Seal(api.SealPoint, 0x01020304, ""); e != api.OK || len(s) != 11 || s[:7] != "\x02\x01\x02\x03\x04\x00\x00" {
		t.Errorf("%q, %v", s, e)
	}
}

func TestP32P33EachLength(t *testing.T) {
	r := rand.New(rand.NewSource(32))
	for n := range 1001 {
		checkSeal(t, api.SealLog, n, someBody(r, n))
		checkSeal(t, api.SealPoint, math.MaxInt32-n, strings.Repeat("\x00", n))
		if s, _ := Seal(api.SealLog, 0, someBody(r, n)); len(s) != n+11 {
			t.Fatalf("a body of %d bytes has %d, sealed", n, len(s))
		}
	}
}

func TestP32P33EachSerial(t *testing.T) {
	for _, serial := range serials() {
		for _, kind := range []int{api.SealLog, api.SealPoint} {
			for _, body := range []string{"", "a", "\x00\xff\n"} {
				checkSeal(t, kind, serial, body)
			}
		}
	}
}

// A body may be a sealed text itself, or look like a piece of one.
func TestP32P33BodiesThatLookLikeSeals(t *testing.T) {
	s := slowSeal(api.SealLog, 7, "body")
	for _, body := range []string{s, s + s, s[:7], s[7:], s[len(s)-4:]} {
		checkSeal(t, api.SealPoint, 8, body)
	}
}

func TestP32SealWrong(t *testing.T) {
	full, large := strings.Repeat("f", 1000), strings.Repeat("l", 1001)
	for _, x := range []struct {
		name         string
		kind, serial int
		body         string
		want         api.Errno
	}{
		{"kind 0", 0, 0, "", api.ErrArg},
		{"kind 3", 3, 0, "", api.ErrArg},
		{"a kind below 0", -1, 0, "", api.ErrArg},
		{"1 in one byte", 256 + 1, 0, "", api.ErrArg},
		{"2 in 32 bits", 1<<32 + 2, 0, "", api.ErrArg},
		{"the greatest kind", math.MaxInt, 0, "", api.ErrArg},
		{"the least kind", math.MinInt, 0, "", api.ErrArg},
		{"a serial below 0", 1, -1, "", api.ErrArg},
		{"the least serial", 2, math.MinInt, "", api.ErrArg},
		{"a serial one too great", 1, 1 << 31, "", api.ErrArg},
		{"the greatest in four bytes", 2, 1<<32 - 1, "", api.ErrArg},
		{"0 in four bytes", 1, 1 << 32, "", api.ErrArg},
		{"5 in four bytes", 1, 1<<32 + 5, "a", api.ErrArg},
		{"the greatest serial", 1, math.MaxInt, "", api.ErrArg},
		{"kind and serial", 3, -1, "", api.ErrArg},
		{"a byte too many", 1, 0, large, api.ErrLarge},
		{"a byte too many, the greatest serial there may be", 2, math.MaxInt32, large, api.ErrLarge},
		{"1 in two bytes", 1, 0, strings.Repeat("x", 1<<16+1), api.ErrLarge},
		{"far too many", 2, 0, strings.Repeat("x", 1<<20), api.ErrLarge},
		{"no kind, a byte too many", 0, 0, large, api.ErrArg},
		{"no kind, a full body", 3, 0, full, api.ErrArg},
		{"no serial, a byte too many", 1, -1, large, api.ErrArg},
		{"a serial one too great, a byte too many", 2, 1 << 31, large, api.ErrArg},
	} {
		if s, e := Seal(x.kind, x.serial, x.body); s != "" || e != x.want {
			t.Errorf("%s: %q, %v; want %v", x.name, s, e, x.want)
		}
	}
}

// Fewer than 11 bytes are too few, also where the sum of them would fit.
func TestP33OpenShort(t *testing.T) {
	s := slowSeal(api.SealLog, 258, "abc")
	for n := range 11 {
		refuses(t, s[:n], api.ErrShort)
		refuses(t, strings.Repeat("\x00", n), api.ErrShort)
	}
	for n := range 7 {
		refuses(t, resealed(slowHead(1, 0, 0)[:n]), api.ErrShort)
	}
}

// More than 1011 bytes are too many, also where the sum of them fits.
func TestP33OpenLarge(t *testing.T) {
	checkOpen(t, slowSeal(1, 2, strings.Repeat("x", 1000)), 1, 2, strings.Repeat("x", 1000), api.OK)
	for _, n := range []int{1001, 1002, 1 << 15, 1<<16 - 1, 1 << 16, 1<<16 + 1, 1<<16 + 500} {
		body := strings.Repeat("x", n)
		refuses(t, slowSeal(1, 2, body), api.ErrLarge)
		refuses(t, slowSeal(3, 2, body), api.ErrLarge)
		refuses(t, body+strings.Repeat("x", 11), api.ErrLarge)
	}
	refuses(t, slowSeal(1, 2, strings.Repeat("x", 1000))+"x", api.ErrLarge)
	refuses(t, resealed(slowHead(1, 2, 1000)+strings.Repeat("x", 1001)), api.ErrLarge)
}

// Each single bit that is turned is seen by the sum.
func TestP33OpenWrongSum(t *testing.T) {
	for _, body := range []string{"", "a", "abcdefgh", strings.Repeat("\x00", 40)} {
		s := slowSeal(api.SealLog, 258, body)
		for i := range 8 * len(s) {
			b := []byte(s)
			b[i/8] ^= 1 << (i % 8)
			refuses(t, string(b), api.ErrSum)
		}
	}
}

func TestP33OpenSumAheadOfForm(t *testing.T) {
	s := slowSeal(api.SealLog, 258, "abc")
	turned := []byte(s[10:])
	slices.Reverse(turned)
	for _, text := range []string{
		s[:10] + string(turned), // the sum's highest byte first
		s + "x",                 // something behind the sum
		s + s,
		s[:11], // torn where that is just enough
		s[:len(s)-1],
		"x" + s,
		strings.Repeat("\x00", 11), // no kind, and no sum
		strings.Repeat("\xff", 11),
		strings.Repeat("\x00", 1011),
		slowHead(3, 0, 0) + "abcd",  // no kind there is
		slowHead(1, -1, 0) + "abcd", // no serial there is
		slowHead(1, 0, 9) + "abcd",  // no such body
		slowSeal(1, 0, "abc")[:10] + s[len(s)-4:], // another's sum
	} {
		refuses(t, text, api.ErrSum)
	}
}

// A sum that fits is not enough.
func TestP33OpenWrongForm(t *testing.T) {
	for kind := range 256 {
		if kind != api.SealLog && kind != api.SealPoint {
			refuses(t, slowSeal(kind, 0, ""), api.ErrForm)
			refuses(t, slowSeal(kind, 258, "abc"), api.ErrForm)
		}
	}
	for _, serial := range []int{1 << 31, 1<<31 + 1, 1<<31 + 258, 3 << 30, 1<<32 - 1} {
		refuses(t, slowSeal(1, serial, ""), api.ErrForm)
		refuses(t, slowSeal(2, serial, "abc"), api.ErrForm)
	}
}

// The number of the body's bytes must be the one that there are.
func TestP33OpenWrongCount(t *testing.T) {
	for _, n := range []int{0, 1, 2, 255, 256, 257, 512, 999, 1000} {
		for _, count := range []int{n - 256, n - 1, n + 1, n + 4, n + 7, n + 11, n + 256, 1000, 1001, 1<<16 - 1} {
			if count >= 0 && count != n {
				refuses(t, resealed(slowHead(1, 258, count)+strings.Repeat("x", n)), api.ErrForm)
			}
		}
	}
	refuses(t, resealed("\x01\x00\x00\x00\x00\x01\x00a"), api.ErrForm) // the lowest byte first
}

// What Open reads is what Seal makes, and what it does not read Seal makes of
// nothing. Each end must come up often, or the test has no worth.
func TestP33AnyText(t *testing.T) {
	r := rand.New(rand.NewSource(33))
	seen := map[api.Errno]int{}
	for range 20000 {
		n := r.Intn(6)
		kind, serial, count := r.Intn(4), r.Intn(1<<32)>>r.Intn(32), max(0, n+[]int{0, 0, 0, 0, 1, -1}[r.Intn(6)])
		body := someBody(r, n)
		s := resealed(slowHead(kind, serial, count) + body)
		if r.Intn(2) == 0 {
			s = s[:r.Intn(len(s)+1)]
		}
		k, m, b, e := Open(s)
		made, f := Seal(kind, serial, body)
		if e == api.OK && (k != kind || m != serial || b != body || s != made) || (e == api.OK) != (f == api.OK && s == made) {
			t.Fatalf("Open(%q) = %d, %d, %q, %v", s, k, m, b, e)
		}
		if e != api.OK && (k != 0 || m != 0 || b != "") {
			t.Fatalf("Open(%q) = %d, %d, %q, %v", s, k, m, b, e)
		}
		seen[e]++
	}
	for _, e := range []api.Errno{api.OK, api.ErrShort, api.ErrSum, api.ErrForm} {
		if seen[e] < 1000 {
			t.Errorf("answer %v came %d times", e, seen[e])
		}
	}
}

// sharesText: whether s is given as a piece of whole's memory.
func sharesText(s, whole string) bool {
	from, at := uintptr(unsafe.Pointer(unsafe.StringData(whole))), uintptr(unsafe.Pointer(unsafe.StringData(s)))
	return from <= at && at < from+uintptr(len(whole))
}

func TestP2TextsAreNew(t *testing.T) {
	for _, n := range []int{1, 40, 1000} {
		body := strings.Repeat("b", n)
		s, _ := Seal(api.SealLog, 1, body)
		if sharesText(s, body) || sharesText(body, s) {
			t.Errorf("what Seal made of %d bytes shares memory with them", n)
		}
		_, _, first, _ := Open(s)
		_, _, second, _ := Open(s)
		if first != body || sharesText(first, s) || sharesText(first, second) {
			t.Errorf("a body of %d bytes shares memory", n)
		}
	}
}
