package blob

import (
	"bytes"
	"encoding/binary"
	"math"
	"math/rand"
	"slices"
	"strings"
	"testing"

	"linenpress/api"
)

var (
	full  = strings.Repeat("f", 600)
	large = strings.Repeat("l", 601)
)

func data(ino, nth int, text string) api.Blob {
	return api.Blob{Kind: api.BData, Ino: ino, Nth: nth, Text: text}
}

func inode(ino int, text string) api.Blob {
	return api.Blob{Kind: api.BInode, Ino: ino, Text: text}
}

func gone(ino int) api.Blob { return api.Blob{Kind: api.BGone, Ino: ino} }

// sized: a right blob of which Write makes so many bytes (there is none of 132).
func sized(n int) api.Blob {
	text := n - 4
	if text > 127 {
		text = n - 5
	}
	return data(1, 2, strings.Repeat("s", text))
}

// goneOnes: n blobs of four bytes each.
func goneOnes(n int) []api.Blob { return slices.Repeat([]api.Blob{gone(47)}, n) }

// slowCheck is the chapter's words: all that is wrong, in their order, of which
// the first is told.
func slowCheck(b api.Blob) api.Errno {
	wrong := []api.Errno{}
	add := func(is bool, e api.Errno) {
		if is {
			wrong = append(wrong, e)
		}
	}
	add(!(b.Ino >= 0 && b.Ino <= 47), api.ErrArg)
	add(b.Kind != 1 && b.Kind != 2 && b.Kind != 3, api.ErrArg)
	add(b.Kind == 1 && !(b.Nth >= 0 && b.Nth <= 7), api.ErrArg)
	add(b.Kind != 1 && b.Nth != 0, api.ErrArg)
	add(b.Kind == 3 && len(b.Text) > 0, api.ErrArg)
	add(len(b.Text) > 600, api.ErrLarge)
	return append(wrong, api.OK)[0]
}

// slowBytes: the bytes for blobs, whether or not they are right.
func slowBytes(l []api.Blob, last bool) string {
	var out bytes.Buffer
	out.WriteByte(map[bool]byte{false: 0, true: 1}[last])
	out.WriteByte(byte(len(l)))
	for _, b := range l {
		out.Write([]byte{byte(b.Kind), byte(b.Ino), byte(b.Nth)})
		out.Write(binary.AppendUvarint(nil, uint64(len(b.Text))))
		out.WriteString(b.Text)
	}
	return out.String()
}

func slowWrite(l []api.Blob, last bool) (string, api.Errno) {
	if len(l) > 40 {
		return "", api.ErrLarge
	}
	for _, b := range l {
		if e := slowCheck(b); e != api.OK {
			return "", e
		}
	}
	s := slowBytes(l, last)
	if len(s) > 1000 {
		return "", api.ErrLarge
	}
	return s, api.OK
}

// blobs: those that are right and those that are not, with what Check answers.
var blobs = []struct {
	name string
	b    api.Blob
	want api.Errno
}{
	{"data", data(3, 2, "xy"), api.OK},
	{"data of the root, its first cluster", data(0, 0, "x"), api.OK},
	{"data of the last number, its last cluster", data(47, 7, "x"), api.OK},
	{"data of no byte", data(1, 1, ""), api.OK},
	{"data of one byte 0", data(1, 1, "\x00"), api.OK},
	{"as much data as may be", data(47, 7, full), api.OK},
	{"an inode", inode(3, "xy"), api.OK},
	{"the last inode, of no byte", inode(47, ""), api.OK},
	{"as great an inode as may be", inode(0, full), api.OK},
	{"one that is gone", gone(7), api.OK},
	{"the first that is gone", gone(0), api.OK},
	{"the last that is gone", gone(47), api.OK},
	{"nothing at all", api.Blob{}, api.ErrArg},
	{"kind 0", api.Blob{Ino: 1, Text: "x"}, api.ErrArg},
	{"kind 4", api.Blob{Kind: 4, Ino: 1}, api.ErrArg},
	{"a kind below 0", api.Blob{Kind: -1}, api.ErrArg},
	{"1 in one byte", api.Blob{Kind: 256 + 1}, api.ErrArg},
	{"3 in 32 bits", api.Blob{Kind: 1<<32 + 3}, api.ErrArg},
	{"the greatest kind", api.Blob{Kind: math.MaxInt}, api.ErrArg},
	{"the least kind", api.Blob{Kind: math.MinInt}, api.ErrArg},
	{"data of number 48", data(48, 0, ""), api.ErrArg},
	{"an inode of number 48", inode(48, ""), api.ErrArg},
	{"48 is gone", gone(48), api.ErrArg},
	{"data of a number below 0", data(-1, 0, ""), api.ErrArg},
	{"an inode of a number below 0", inode(-1, ""), api.ErrArg},
	{"-1 is gone", gone(-1), api.ErrArg},
	{"1 in one byte, as a number", data(256+1, 0, ""), api.ErrArg},
	{"1 in 32 bits, as a number", data(1<<32+1, 0, ""), api.ErrArg},
	{"the greatest number", inode(math.MaxInt, ""), api.ErrArg},
	{"the least number", gone(math.MinInt), api.ErrArg},
	{"cluster 8", data(1, 8, ""), api.ErrArg},
	{"a cluster below 0", data(1, -1, ""), api.ErrArg},
	{"cluster 7 in one byte", data(1, 256+7, ""), api.ErrArg},
	{"cluster 0 in 32 bits", data(1, 1<<32, ""), api.ErrArg},
	{"the greatest cluster", data(1, math.MaxInt, ""), api.ErrArg},
	{"the least cluster", data(1, math.MinInt, ""), api.ErrArg},
	{"an inode's cluster 1", api.Blob{Kind: 2, Nth: 1}, api.ErrArg},
	{"an inode's cluster 7", api.Blob{Kind: 2, Nth: 7, Text: "x"}, api.ErrArg},
	{"an inode's cluster below 0", api.Blob{Kind: 2, Nth: -1}, api.ErrArg},
	{"a cluster of one that is gone", api.Blob{Kind: 3, Nth: 1}, api.ErrArg},
	{"a cluster below 0 of one that is gone", api.Blob{Kind: 3, Nth: -1}, api.ErrArg},
	{"a byte of one that is gone", api.Blob{Kind: 3, Ino: 7, Text: "x"}, api.ErrArg},
	{"a byte 0 of one that is gone", api.Blob{Kind: 3, Ino: 7, Text: "\x00"}, api.ErrArg},
	{"too much of one that is gone", api.Blob{Kind: 3, Ino: 7, Text: large}, api.ErrArg},
	{"a byte of data too many", data(47, 7, large), api.ErrLarge},
	{"a byte of an inode too many", inode(0, large), api.ErrLarge},
	{"far too much", data(0, 0, strings.Repeat("x", 1<<20)), api.ErrLarge},
	{"no number, a byte too many", data(48, 0, large), api.ErrArg},
	{"no kind, a byte too many", api.Blob{Text: large}, api.ErrArg},
	{"no cluster, a byte too many", data(0, 8, large), api.ErrArg},
	{"an inode's cluster, a byte too many", api.Blob{Kind: 2, Nth: 1, Text: large}, api.ErrArg},
}

func TestP34Check(t *testing.T) {
	for _, x := range blobs {
		if e := Check(x.b); e != x.want || e != slowCheck(x.b) {
			t.Errorf("%s: %v; want %v, and slowly %v", x.name, e, x.want, slowCheck(x.b))
		}
	}
}

func TestP34CheckOfAll(t *testing.T) {
	for kind := -2; kind < 8; kind++ {
		for ino := -2; ino < 60; ino++ {
			for nth := -2; nth < 12; nth++ {
				for _, text := range []string{"", "x", full, large} {
					b := api.Blob{Kind: kind, Ino: ino, Nth: nth, Text: text}
					if e := Check(b); e != slowCheck(b) {
						t.Fatalf("Check(%d, %d, %d, %d bytes) = %v; want %v", kind, ino, nth, len(text), e, slowCheck(b))
					}
				}
			}
		}
	}
}

// cells: blobs, and the bytes that each of the two calls has for them.
var cells = []struct {
	name string
	l    []api.Blob
	last bool
	s    string
}{
	{"nothing", nil, false, "\x00\x00"},
	{"nothing, and last", []api.Blob{}, true, "\x01\x00"},
	{"the document's", []api.Blob{gone(7)}, false, "\x00\x01\x03\x07\x00\x00"},
	{"one of each, and last", []api.Blob{data(3, 2, "xy"), gone(7), inode(47, "z")}, true, "\x01\x03\x01\x03\x02\x02xy\x03\x07\x00\x00\x02\x2f\x00\x01z"},
	{"two alike", []api.Blob{gone(1), gone(1)}, false, "\x00\x02\x03\x01\x00\x00\x03\x01\x00\x00"},
	{"bytes that look like a blob", []api.Blob{data(0, 7, "\x03\x07\x00\x00"), inode(0, "")}, true, "\x01\x02\x01\x00\x07\x04\x03\x07\x00\x00\x02\x00\x00\x00"},
	{"a number of one byte", []api.Blob{data(1, 0, strings.Repeat("x", 127))}, false, "\x00\x01\x01\x01\x00\x7f" + strings.Repeat("x", 127)},
	{"a number of two bytes", []api.Blob{data(1, 0, strings.Repeat("x", 128))}, false, "\x00\x01\x01\x01\x00\x80\x01" + strings.Repeat("x", 128)},
	{"as much as may be", []api.Blob{inode(1, full)}, true, "\x01\x01\x02\x01\x00\xd8\x04" + full},
	{"as many as may be", goneOnes(40), true, "\x01\x28" + strings.Repeat("\x03\x2f\x00\x00", 40)},
	{"as many bytes as may be", []api.Blob{data(0, 0, full), data(0, 1, full[:388])}, false, "\x00\x02\x01\x00\x00\xd8\x04" + full + "\x01\x00\x01\x84\x03" + full[:388]},
}

func checkRead(t *testing.T, s string, want []api.Blob, last bool) {
	t.Helper()
	if l, k, e := Read(s); !slices.Equal(l, want) || k != last || e != api.OK {
		t.Fatalf("Read(%q) = %v, %v, %v; want %v, %v", s, l, k, e, want, last)
	}
}

func isNone(t *testing.T, s string) {
	t.Helper()
	if l, last, e := Read(s); len(l) != 0 || last || e != api.ErrForm {
		t.Fatalf("Read(%q) = %v, %v, %v; want ErrForm", s, l, last, e)
	}
}

func TestP35WriteAndRead(t *testing.T) {
	for _, x := range cells {
		if s, e := Write(x.l, x.last); s != x.s || e != api.OK || s != slowBytes(x.l, x.last) {
			t.Errorf("%s: %q, %v; want %q", x.name, s, e, x.s)
		}
		checkRead(t, x.s, x.l, x.last)
	}
}

func TestP35WriteAndReadEachBlob(t *testing.T) {
	for _, x := range blobs {
		for _, last := range []bool{false, true} {
			for _, l := range [][]api.Blob{{x.b}, {gone(1), x.b}, {x.b, gone(1)}} {
				want, _ := slowWrite(l, last)
				if s, e := Write(l, last); s != want || e != x.want {
					t.Errorf("%s: Write(%v): %q, %v; want %q, %v", x.name, l, s, e, want, x.want)
				}
				if x.want == api.OK {
					checkRead(t, want, l, last)
				}
			}
		}
	}
}

func TestP35WriteAndReadEachLength(t *testing.T) {
	for n := range 601 {
		l := []api.Blob{data(n%48, n%8, full[:n]), gone(n % 48)}
		s, e := Write(l, n%2 == 0)
		if e != api.OK || s != slowBytes(l, n%2 == 0) {
			t.Fatalf("Write of %d bytes: %q, %v", n, s, e)
		}
		checkRead(t, s, l, n%2 == 0)
	}
}

func TestP35WriteWrong(t *testing.T) {
	bad, great := gone(48), data(0, 0, large)
	for _, x := range []struct {
		name string
		l    []api.Blob
		want api.Errno
	}{
		{"a blob too many", goneOnes(41), api.ErrLarge},
		{"0 in one byte", goneOnes(256), api.ErrLarge},
		{"far too many", goneOnes(100000), api.ErrLarge},
		{"a blob too many, the first wrong", append([]api.Blob{bad}, goneOnes(40)...), api.ErrLarge},
		{"a blob too many, the last wrong", append(goneOnes(40), bad), api.ErrLarge},
		{"the last of as many as may be wrong", append(goneOnes(39), bad), api.ErrArg},
		{"the last of as many as may be large", append(goneOnes(39), great), api.ErrLarge},
		{"wrong ahead of large", []api.Blob{gone(1), bad, great}, api.ErrArg},
		{"large ahead of wrong", []api.Blob{gone(1), great, bad}, api.ErrLarge},
		{"a byte too many", []api.Blob{sized(499), sized(500)}, api.ErrLarge},
		{"a byte too many, by a number of two bytes", []api.Blob{sized(499), sized(367), data(1, 0, full[:128])}, api.ErrLarge},
		{"a byte too many, one that is gone", []api.Blob{sized(600), sized(395), gone(1)}, api.ErrLarge},
		{"far too many bytes", slices.Repeat([]api.Blob{data(1, 1, full)}, 40), api.ErrLarge},
		{"far too many bytes, and the last is wrong", append(slices.Repeat([]api.Blob{data(1, 1, full)}, 39), bad), api.ErrArg},
		{"a byte too many, and one is wrong", []api.Blob{sized(499), sized(500), bad}, api.ErrArg},
	} {
		for _, last := range []bool{false, true} {
			if s, e := Write(x.l, last); s != "" || e != x.want {
				t.Errorf("%s: %q, %v; want %v", x.name, s, e, x.want)
			}
		}
	}
}

// Each number of blobs, up to just as many bytes as there may be, and one more.
func TestP35WriteEdges(t *testing.T) {
	for n := range 39 {
		half := (998 - 4*n) / 2
		l := append(goneOnes(n), sized(half), sized(half))
		s, e := Write(l, true)
		if e != api.OK || len(s) != 1000 || s != slowBytes(l, true) {
			t.Fatalf("%d and two: %d bytes, %v", n, len(s), e)
		}
		checkRead(t, s, l, true)
		l[n+1] = sized(half + 1)
		if s, e := Write(l, true); s != "" || e != api.ErrLarge {
			t.Fatalf("%d and two, a byte more: %d bytes, %v", n, len(s), e)
		}
		isNone(t, slowBytes(l, true))
	}
}

func TestP35ReadOfPieces(t *testing.T) {
	for _, x := range cells {
		for n := range len(x.s) {
			isNone(t, x.s[:n])
		}
		for _, behind := range []string{"\x00", "x", "\x03\x07\x00\x00", "\xff\xff", x.s} {
			isNone(t, x.s+behind)
		}
	}
}

func TestP35ReadWrong(t *testing.T) {
	for _, x := range blobs {
		// What has no room in its byte would be another blob there.
		inBytes := x.b.Kind >= 0 && x.b.Kind < 256 && x.b.Ino >= 0 && x.b.Ino < 256 && x.b.Nth >= 0 && x.b.Nth < 256
		if x.want != api.OK && inBytes {
			isNone(t, slowBytes([]api.Blob{x.b}, true))
			isNone(t, slowBytes([]api.Blob{gone(1), x.b}, false))
			isNone(t, slowBytes([]api.Blob{x.b, gone(1)}, false))
		}
	}
	for _, s := range []string{
		"\x02\x00", "\xff\x00", "\x02\x01\x03\x07\x00\x00", // neither last nor not
		"\x00\x01", "\x00\x02\x03\x07\x00\x00", // fewer than it says
		"\x00\x00\x03\x07\x00\x00", "\x00\x01\x03\x07\x00\x00\x03\x07\x00\x00", // more than it says
		slowBytes(goneOnes(41), false), slowBytes(goneOnes(128), true), slowBytes(goneOnes(249), true),
		"\x00\x01\x01\x03\x02", "\x00\x01\x01\x03\x02\x80", // no number of bytes
		"\x00\x01\x01\x03\x02\x80\x00", "\x00\x01\x01\x03\x02\x82\x00xy", // one in more bytes than it needs
		"\x00\x01\x01\x03\x02\x03xy", "\x00\x01\x01\x03\x02\x01xy", // a byte too few, too many
		"\x00\x02\x01\x03\x02\x03xy\x03\x07\x00\x00",
	} {
		isNone(t, s)
	}
	// Numbers that have no room in an int, or are small in 32 bits or less.
	for _, number := range []uint64{1 << 32, 1<<32 + 2, 1<<63 - 1, 1 << 63, 1<<63 + 2, math.MaxUint64, math.MaxUint64 - 4} {
		isNone(t, "\x00\x01\x01\x03\x02"+string(binary.AppendUvarint(nil, number))+"xy")
	}
	isNone(t, "\x00\x01\x01\x03\x02"+strings.Repeat("\xff", 9)+"\x02xy")
}

// Blobs that go one by one may be right where all of them are too many bytes.
func TestP35ReadLarge(t *testing.T) {
	isNone(t, slowBytes([]api.Blob{sized(499), sized(500)}, false))
	isNone(t, slowBytes(slices.Repeat([]api.Blob{data(1, 1, full)}, 40), true))
	isNone(t, strings.Repeat("\x00", 1<<20))
	isNone(t, "\x00\x01\x01\x00\x00"+string(binary.AppendUvarint(nil, 1<<20))+strings.Repeat("x", 1<<20))
}

func someBlob(r *rand.Rand) api.Blob {
	b := api.Blob{Kind: 1 + r.Intn(3), Ino: r.Intn(48)}
	if b.Kind == api.BData {
		b.Nth = r.Intn(8)
	}
	if b.Kind != api.BGone {
		text := make([]byte, min(r.Intn(1<<r.Intn(11)), 600))
		r.Read(text)
		b.Text = string(text)
	}
	return b
}

// someBlobs: any number of blobs, now and then one of them wrong.
func someBlobs(r *rand.Rand, most int) []api.Blob {
	var l []api.Blob
	for range r.Intn(most + 1) {
		l = append(l, someBlob(r))
	}
	if len(l) > 0 && r.Intn(4) == 0 {
		l[r.Intn(len(l))] = blobs[r.Intn(len(blobs))].b
	}
	return l
}

// Each of the ends must come up often, or the test has no worth.
func TestP35AnyBlobs(t *testing.T) {
	r := rand.New(rand.NewSource(35))
	seen := map[api.Errno]int{}
	for range 5000 {
		l, last := someBlobs(r, 2+r.Intn(42)), r.Intn(2) == 0
		s, e := Write(l, last)
		if want, f := slowWrite(l, last); s != want || e != f {
			t.Fatalf("Write(%v, %v) = %q, %v; want %q, %v", l, last, s, e, want, f)
		}
		if e == api.OK {
			checkRead(t, s, l, last)
		}
		seen[e]++
	}
	for _, e := range []api.Errno{api.OK, api.ErrLarge, api.ErrArg} {
		if seen[e] < 300 {
			t.Errorf("answer %v came %d times", e, seen[e])
		}
	}
}

// What Read reads is what Write makes, whatever the bytes are.
func TestP35ReadHasOneForm(t *testing.T) {
	r := rand.New(rand.NewSource(36))
	seen := map[api.Errno]int{}
	for range 40000 {
		b := []byte(slowBytes(someBlobs(r, 4), r.Intn(2) == 0))
		for range r.Intn(3) {
			b[r.Intn(min(len(b), 12))] = []byte{0, 1, 2, 3, 4, 7, 8, 47, 48, 127, 128, 255}[r.Intn(12)]
		}
		l, last, e := Read(string(b))
		if s, f := slowWrite(l, last); e == api.OK && (s != string(b) || f != api.OK) {
			t.Fatalf("Read(%q) = %v, %v; Write says %q, %v", b, l, last, s, f)
		}
		if e != api.OK {
			isNone(t, string(b))
		}
		seen[e]++
	}
	if seen[api.OK] < 5000 || seen[api.ErrForm] < 5000 {
		t.Error(seen)
	}
}
