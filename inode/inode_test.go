package inode

import (
	"encoding/binary"
	"math"
	"math/rand"
	"slices"
	"strings"
	"testing"

	"linenpress/api"
)

// slowRight is the chapter's words: every place that there is, one by one.
func slowRight(p api.Place) bool {
	for cell := 2; cell <= 127; cell++ {
		for nth := 0; nth <= 39; nth++ {
			if p.Cell == cell && p.Nth == nth {
				return true
			}
		}
	}
	return p.Cell == 0 && p.Nth == 0
}

// slowClusters: bytes laid into clusters one by one.
func slowClusters(size int) int {
	n := 0
	for at := 0; at < size; at += 512 {
		n++
	}
	return n
}

// slowCheck is the chapter's words: all that is wrong, in their order, of which
// the first is told.
func slowCheck(n api.Inode) api.Errno {
	wrong := []api.Errno{}
	add := func(is bool, e api.Errno) {
		if is {
			wrong = append(wrong, e)
		}
	}
	add(n.Kind != 1 && n.Kind != 2, api.ErrArg)
	add(n.Gen < 0 || n.Gen > 2147483647, api.ErrArg)
	sized := n.Size >= 0 && n.Size <= 4096
	add(!sized, api.ErrLarge)
	add(sized && len(n.Parts) != slowClusters(n.Size), api.ErrForm)
	for _, p := range n.Parts {
		add(!slowRight(p), api.ErrForm)
	}
	return append(wrong, api.OK)[0]
}

// slowBytes: the bytes for an inode, whether or not it is right.
func slowBytes(n api.Inode) string {
	out := []byte{byte(n.Kind)}
	out = binary.BigEndian.AppendUint32(out, uint32(n.Gen))
	out = binary.BigEndian.AppendUint16(out, uint16(n.Size))
	for _, p := range n.Parts {
		out = append(out, byte(p.Cell), byte(p.Nth))
	}
	return string(out)
}

// slowRead: an inode as it may lie in s, if it is right and its bytes are s.
func slowRead(s string) (api.Inode, api.Errno) {
	b := append([]byte(s), make([]byte, 7)...)
	n := api.Inode{Kind: int(b[0]), Gen: int(binary.BigEndian.Uint32(b[1:])), Size: int(binary.BigEndian.Uint16(b[5:]))}
	for at := 7; at+1 < len(s); at += 2 {
		n.Parts = append(n.Parts, api.Place{Cell: int(s[at]), Nth: int(s[at+1])})
	}
	if slowBytes(n) != s || slowCheck(n) != api.OK {
		return api.Inode{}, api.ErrForm
	}
	return n, api.OK
}

func same(a, b api.Inode) bool {
	return a.Kind == b.Kind && a.Gen == b.Gen && a.Size == b.Size && slices.Equal(a.Parts, b.Parts)
}

// of: an inode of so many bytes, with a place for each cluster, no two alike.
func of(kind, gen, size int) api.Inode {
	n := api.Inode{Kind: kind, Gen: gen, Size: size}
	for i := range slowClusters(size) {
		n.Parts = append(n.Parts, api.Place{Cell: 2 + 17*i, Nth: 5 * i})
	}
	return n
}

// with: n with p as its part i.
func with(n api.Inode, i int, p api.Place) api.Inode {
	n.Parts = slices.Clone(n.Parts)
	n.Parts[i] = p
	return n
}

func noughts(kind, size int) api.Inode {
	return api.Inode{Kind: kind, Size: size, Parts: make([]api.Place, slowClusters(size))}
}

// checkAll holds each of the three calls against its slow version.
func checkAll(t *testing.T, name string, n api.Inode) {
	t.Helper()
	want := slowCheck(n)
	if e := Check(n); e != want {
		t.Fatalf("%s: Check(%v) = %v; want %v", name, n, e, want)
	}
	s, e := Write(n)
	if want != api.OK {
		if s != "" || e != want {
			t.Fatalf("%s: Write(%v) = %q, %v; want %v", name, n, s, e, want)
		}
		return
	}
	if s != slowBytes(n) || e != api.OK {
		t.Fatalf("%s: Write(%v) = %q, %v; want %q", name, n, s, e, slowBytes(n))
	}
	checkRead(t, s)
}

func checkRead(t *testing.T, s string) api.Errno {
	t.Helper()
	want, f := slowRead(s)
	n, e := Read(s)
	if !same(n, want) || e != f {
		t.Fatalf("Read(%q) = %v, %v; want %v, %v", s, n, e, want, f)
	}
	return e
}

func isNone(t *testing.T, s string) {
	t.Helper()
	if n, e := Read(s); !same(n, api.Inode{}) || e != api.ErrForm {
		t.Fatalf("Read(%q) = %v, %v", s, n, e)
	}
}

func TestP37Right(t *testing.T) {
	for _, x := range []struct {
		name      string
		cell, nth int
		want      bool
	}{
		{"none", 0, 0, true},
		{"the first there is", 2, 0, true},
		{"the last of the first cell", 2, 39, true},
		{"the first of the last cell", 127, 0, true},
		{"the last there is", 127, 39, true},
		{"in the midst", 64, 20, true},
		{"a blob of cell 0", 0, 1, false},
		{"the last blob of cell 0", 0, 39, false},
		{"a blob of a check point", 1, 0, false},
		{"another of a check point", 1, 1, false},
		{"a cell below 0", -1, 0, false},
		{"a cell below 0, and a blob", -2, 5, false},
		{"one cell too far", 128, 0, false},
		{"one cell too far, the last blob", 128, 39, false},
		{"one blob too far", 2, 40, false},
		{"one blob too far in the last cell", 127, 40, false},
		{"a blob below 0", 2, -1, false},
		{"a blob below 0 of the last cell", 127, -1, false},
		{"a blob below 0 of no cell", 0, -1, false},
		{"cell 2 in one byte", 256 + 2, 0, false},
		{"cell 2 in 32 bits", 1<<32 + 2, 0, false},
		{"blob 3 in one byte", 2, 256 + 3, false},
		{"blob 3 in 32 bits", 2, 1<<32 + 3, false},
		{"none in one byte", 256, 256, false},
		{"none in 32 bits", 1 << 32, 1 << 32, false},
		{"the greatest cell", math.MaxInt, 0, false},
		{"the least cell", math.MinInt, 0, false},
		{"the greatest blob", 2, math.MaxInt, false},
		{"the least blob", 127, math.MinInt, false},
	} {
		p := api.Place{Cell: x.cell, Nth: x.nth}
		if got := Right(p); got != x.want || got != slowRight(p) {
			t.Errorf("%s: %v; want %v", x.name, got, x.want)
		}
	}
}

func TestP37RightOfAll(t *testing.T) {
	for cell := -3; cell < 260; cell++ {
		for nth := -3; nth < 260; nth++ {
			p := api.Place{Cell: cell, Nth: nth}
			if Right(p) != slowRight(p) {
				t.Fatalf("Right(%v) = %v", p, Right(p))
			}
		}
	}
}

// inodes: those that are right and those that are not, with what Check answers.
var inodes = []struct {
	name string
	n    api.Inode
	want api.Errno
}{
	{"a file of no byte", api.Inode{Kind: 1}, api.OK},
	{"a directory of no byte", api.Inode{Kind: 2}, api.OK},
	{"an empty list", api.Inode{Kind: 2, Gen: 1, Parts: []api.Place{}}, api.OK},
	{"a file of a byte", of(1, 0, 1), api.OK},
	{"a cluster that lacks a byte", of(1, 1, 511), api.OK},
	{"a cluster", of(2, 1, 512), api.OK},
	{"the document's file of 513 bytes", of(1, 2, 513), api.OK},
	{"all that may be", of(1, math.MaxInt32, 4096), api.OK},
	{"a directory with all that may be", of(2, math.MaxInt32, 4096), api.OK},
	{"noughts", noughts(1, 1), api.OK},
	{"noughts, as many as may be", noughts(1, 4096), api.OK},
	{"a nought ahead of a place", with(of(1, 1, 600), 0, api.Place{}), api.OK},
	{"a nought behind a place", with(of(1, 1, 600), 1, api.Place{}), api.OK},
	{"places that are alike", api.Inode{Kind: 1, Size: 600, Parts: []api.Place{{Cell: 9, Nth: 3}, {Cell: 9, Nth: 3}}}, api.OK},
	{"the last place there is", with(of(1, 1, 600), 1, api.Place{Cell: 127, Nth: 39}), api.OK},

	{"nothing at all", api.Inode{}, api.ErrArg},
	{"kind 0", of(0, 1, 513), api.ErrArg},
	{"kind 3", of(3, 1, 513), api.ErrArg},
	{"a kind below 0", of(-1, 1, 513), api.ErrArg},
	{"1 in one byte", of(256+1, 1, 513), api.ErrArg},
	{"2 in 32 bits", of(1<<32+2, 1, 513), api.ErrArg},
	{"the greatest kind", of(math.MaxInt, 1, 0), api.ErrArg},
	{"the least kind", of(math.MinInt, 1, 0), api.ErrArg},
	{"a generation below 0", of(1, -1, 513), api.ErrArg},
	{"a generation one too great", of(2, 1<<31, 513), api.ErrArg},
	{"the greatest in four bytes", of(1, 1<<32-1, 513), api.ErrArg},
	{"0 in four bytes", of(1, 1<<32, 513), api.ErrArg},
	{"the greatest generation", of(1, math.MaxInt, 0), api.ErrArg},
	{"the least generation", of(2, math.MinInt, 0), api.ErrArg},

	{"a byte below 0", of(1, 1, -1), api.ErrLarge},
	{"a cluster below 0", of(2, 1, -512), api.ErrLarge},
	{"as few bytes as there are", of(1, 1, math.MinInt), api.ErrLarge},
	{"as many as there are", api.Inode{Kind: 1, Size: math.MaxInt}, api.ErrLarge},
	{"a byte too many", of(1, 1, 4097), api.ErrLarge},
	{"a byte too many, a place too few", api.Inode{Kind: 1, Size: 4097, Parts: of(1, 1, 4096).Parts}, api.ErrLarge},
	{"a cluster too many", of(2, 1, 4096+512), api.ErrLarge},
	{"1 in two bytes", api.Inode{Kind: 1, Size: 1<<16 + 1, Parts: of(1, 1, 1).Parts}, api.ErrLarge},
	{"1 in 32 bits", api.Inode{Kind: 1, Size: 1<<32 + 1, Parts: of(1, 1, 1).Parts}, api.ErrLarge},

	{"a place of no cluster", api.Inode{Kind: 1, Parts: of(1, 1, 1).Parts}, api.ErrForm},
	{"none of no cluster", api.Inode{Kind: 1, Parts: make([]api.Place, 1)}, api.ErrForm},
	{"no place", api.Inode{Kind: 1, Size: 1}, api.ErrForm},
	{"a place too few", api.Inode{Kind: 1, Size: 513, Parts: of(1, 1, 512).Parts}, api.ErrForm},
	{"a place too many", api.Inode{Kind: 2, Size: 512, Parts: of(1, 1, 513).Parts}, api.ErrForm},
	{"nine places", api.Inode{Kind: 1, Size: 4096, Parts: of(1, 1, 4097).Parts}, api.ErrForm},
	{"places without end", api.Inode{Kind: 1, Size: 4096, Parts: make([]api.Place, 1<<16+8)}, api.ErrForm},
	{"a place in a check point", with(of(1, 1, 513), 0, api.Place{Cell: 1}), api.ErrForm},
	{"a last place in a check point", with(of(1, 1, 513), 1, api.Place{Cell: 1}), api.ErrForm},
	{"a blob of no cell", with(of(2, 1, 513), 1, api.Place{Nth: 1}), api.ErrForm},
	{"a cell too far", with(of(2, 1, 513), 1, api.Place{Cell: 128}), api.ErrForm},
	{"a blob too far", with(of(1, 1, 4096), 7, api.Place{Cell: 2, Nth: 40}), api.ErrForm},
	{"a cell below 0", with(of(1, 1, 1), 0, api.Place{Cell: -1}), api.ErrForm},
	{"a blob below 0", with(of(1, 1, 1), 0, api.Place{Cell: 2, Nth: -1}), api.ErrForm},
	{"a cell in one byte", with(of(1, 1, 1), 0, api.Place{Cell: 256 + 9}), api.ErrForm},
	{"a blob in 32 bits", with(of(1, 1, 1), 0, api.Place{Cell: 9, Nth: 1 << 32}), api.ErrForm},

	{"no kind, no generation, too much, a wrong place", api.Inode{Kind: 3, Gen: -1, Size: 4097, Parts: []api.Place{{Cell: 1}}}, api.ErrArg},
	{"no kind, too much", of(0, 0, 4097), api.ErrArg},
	{"no generation, too much", of(1, -1, 4097), api.ErrArg},
	{"no kind, no place", api.Inode{Kind: 3, Size: 1}, api.ErrArg},
	{"no generation, no place", api.Inode{Kind: 2, Gen: 1 << 31, Size: 1}, api.ErrArg},
	{"too much, no place", api.Inode{Kind: 1, Size: 4097}, api.ErrLarge},
	{"too little, no place", api.Inode{Kind: 2, Size: -1}, api.ErrLarge},
	{"too much, a wrong place", with(of(1, 1, 4097), 3, api.Place{Cell: 1}), api.ErrLarge},
	{"too little, a wrong place", api.Inode{Kind: 1, Size: -1, Parts: []api.Place{{Cell: 1}}}, api.ErrLarge},
}

func TestP37P38Check(t *testing.T) {
	for _, x := range inodes {
		if e := Check(x.n); e != x.want {
			t.Errorf("%s: %v; want %v", x.name, e, x.want)
		}
		checkAll(t, x.name, x.n)
	}
}

func TestP37P38EachSize(t *testing.T) {
	for size := -3; size < 4700; size++ {
		for _, kind := range []int{api.NFile, api.NDir} {
			checkAll(t, "as many places as clusters", of(kind, size+3, size))
		}
		for parts := range 11 {
			n := of(1, 0, size)
			n.Parts = of(1, 0, 512*parts).Parts
			checkAll(t, "any number of places", n)
		}
	}
}

func TestP37P38EachKindAndGeneration(t *testing.T) {
	gens := []int{0, 258, 0x01020304, math.MaxInt32}
	for i := range 63 {
		gens = append(gens, 1<<i, 1<<i-1, -1<<i)
	}
	for kind := -2; kind < 300; kind++ {
		for _, gen := range gens {
			checkAll(t, "a byte", of(kind, gen, 1))
			checkAll(t, "too much", of(kind, gen, 4097))
		}
	}
}

// Each place there is, at each end of an inode.
func TestP37P38EachPlace(t *testing.T) {
	for cell := -1; cell < 260; cell++ {
		for nth := -1; nth < 45; nth++ {
			p := api.Place{Cell: cell, Nth: nth}
			checkAll(t, "alone", with(of(1, 1, 1), 0, p))
			checkAll(t, "the last of eight", with(of(2, 1, 4096), 7, p))
		}
	}
}

// written: inodes, and the bytes that each of the two calls has for them.
var written = []struct {
	name string
	n    api.Inode
	s    string
}{
	{"a file of no byte", api.Inode{Kind: 1}, "\x01\x00\x00\x00\x00\x00\x00"},
	{"a directory of no byte", api.Inode{Kind: 2, Gen: 258}, "\x02\x00\x00\x01\x02\x00\x00"},
	{"the document's file of 513 bytes", api.Inode{Kind: 1, Gen: 2, Size: 513, Parts: []api.Place{{Cell: 4, Nth: 5}, {}}}, "\x01\x00\x00\x00\x02\x02\x01\x04\x05\x00\x00"},
	{"each byte of a generation", api.Inode{Kind: 1, Gen: 0x01020304}, "\x01\x01\x02\x03\x04\x00\x00"},
	{"the greatest generation", api.Inode{Kind: 2, Gen: math.MaxInt32, Size: 256, Parts: []api.Place{{Cell: 2}}}, "\x02\x7f\xff\xff\xff\x01\x00\x02\x00"},
	{"all that may be", api.Inode{Kind: 1, Size: 4096, Parts: slices.Repeat([]api.Place{{Cell: 127, Nth: 39}}, 8)}, "\x01\x00\x00\x00\x00\x10\x00" + strings.Repeat("\x7f\x27", 8)},
	{"a byte behind noughts", api.Inode{Kind: 1, Size: 1025, Parts: []api.Place{{}, {}, {Cell: 3, Nth: 1}}}, "\x01\x00\x00\x00\x00\x04\x01\x00\x00\x00\x00\x03\x01"},
}

func TestP38WriteAndRead(t *testing.T) {
	for _, x := range written {
		if s, e := Write(x.n); s != x.s || e != api.OK {
			t.Errorf("%s: Write is %q, %v; want %q", x.name, s, e, x.s)
		}
		if n, e := Read(x.s); !same(n, x.n) || e != api.OK {
			t.Errorf("%s: Read is %v, %v; want %v", x.name, n, e, x.n)
		}
	}
}

// No piece of an inode's bytes from the first one on is one, nor is one with
// anything behind it.
func TestP38ReadTornOrMore(t *testing.T) {
	for _, x := range written {
		for n := range len(x.s) {
			isNone(t, x.s[:n])
		}
		for b := range 256 {
			isNone(t, x.s+string([]byte{byte(b)}))
		}
		isNone(t, x.s+"\x00\x00")
		isNone(t, x.s+"\x02\x00")
		isNone(t, x.s+x.s)
		isNone(t, "\x00"+x.s)
	}
	for n := range 100 {
		isNone(t, strings.Repeat("\x00", n))
		isNone(t, strings.Repeat("\xff", n))
	}
	isNone(t, written[5].s+strings.Repeat("\x00", 1<<20))
}

// Each byte, whatever it is, in each place of an inode's bytes.
func TestP38ReadEachByte(t *testing.T) {
	for _, x := range written {
		for at := range len(x.s) {
			for b := range 256 {
				s := []byte(x.s)
				s[at] = byte(b)
				checkRead(t, string(s))
			}
		}
	}
}

func TestP38ReadWrong(t *testing.T) {
	for _, x := range []struct{ name, s string }{
		{"kind 0", "\x00\x00\x00\x00\x00\x00\x00"},
		{"kind 3", "\x03\x00\x00\x00\x00\x00\x00"},
		{"a generation one too great", "\x01\x80\x00\x00\x00\x00\x00"},
		{"the greatest in four bytes", "\x01\xff\xff\xff\xff\x00\x00"},
		{"a byte too many", "\x01\x00\x00\x00\x00\x10\x01" + strings.Repeat("\x02\x00", 8)},
		{"a byte too many, and its place", "\x01\x00\x00\x00\x00\x10\x01" + strings.Repeat("\x02\x00", 9)},
		{"as many bytes as two bytes tell", "\x01\x00\x00\x00\x00\xff\xff" + strings.Repeat("\x02\x00", 128)},
		{"no place", "\x01\x00\x00\x00\x00\x00\x01"},
		{"half a place", "\x01\x00\x00\x00\x00\x00\x01\x02"},
		{"a place of no cluster", "\x01\x00\x00\x00\x00\x00\x00\x02\x00"},
		{"none of no cluster", "\x01\x00\x00\x00\x00\x00\x00\x00\x00"},
		{"a place in a check point", "\x01\x00\x00\x00\x00\x00\x01\x01\x00"},
		{"a blob of no cell", "\x01\x00\x00\x00\x00\x00\x01\x00\x01"},
		{"a cell too far", "\x01\x00\x00\x00\x00\x00\x01\x80\x00"},
		{"a blob too far", "\x01\x00\x00\x00\x00\x00\x01\x02\x28"},
		{"the size's lowest byte first", "\x01\x00\x00\x00\x00\x01\x02\x02\x00\x02\x00"},
	} {
		t.Run(x.name, func(t *testing.T) { isNone(t, x.s) })
	}
}

func somePlace(r *rand.Rand, wrong int) api.Place {
	if r.Intn(wrong) == 0 {
		return api.Place{Cell: r.Intn(6) - 2 + 126*r.Intn(2), Nth: r.Intn(6) - 2 + 39*r.Intn(2)}
	}
	if r.Intn(4) == 0 {
		return api.Place{}
	}
	return api.Place{Cell: 2 + r.Intn(126), Nth: r.Intn(40)}
}

func someInode(r *rand.Rand, wrong int) api.Inode {
	n := api.Inode{Kind: 1 + r.Intn(2), Gen: r.Intn(1<<31) >> r.Intn(31), Size: r.Intn(4097)}
	if r.Intn(wrong) == 0 {
		n.Kind = r.Intn(8) - 2
	}
	if r.Intn(wrong) == 0 {
		n.Gen = r.Intn(1<<33) - 1<<32
	}
	if r.Intn(wrong) == 0 {
		n.Size = []int{-1, -512, 4097, 5000, 1 << 16}[r.Intn(5)]
	}
	parts := slowClusters(n.Size)
	if r.Intn(wrong) == 0 {
		parts = r.Intn(11)
	}
	for range parts {
		n.Parts = append(n.Parts, somePlace(r, 8*wrong))
	}
	return n
}

// Each of the ends must come up often, or the test has no worth.
func TestP37P38AnyInode(t *testing.T) {
	r := rand.New(rand.NewSource(37))
	seen := map[api.Errno]int{}
	for range 20000 {
		n := someInode(r, 6)
		checkAll(t, "any", n)
		seen[slowCheck(n)]++
	}
	for _, e := range []api.Errno{api.OK, api.ErrArg, api.ErrLarge, api.ErrForm} {
		if seen[e] < 1000 {
			t.Errorf("answer %v came %d times", e, seen[e])
		}
	}
}

func TestP38AnyBytes(t *testing.T) {
	r := rand.New(rand.NewSource(38))
	seen := map[api.Errno]int{}
	for range 40000 {
		b := []byte(slowBytes(someInode(r, 40)))
		for range r.Intn(3) {
			b[r.Intn(len(b))] = []byte{0, 1, 2, 3, 16, 39, 40, 127, 128, 255}[r.Intn(10)]
		}
		if r.Intn(8) == 0 {
			b = b[:r.Intn(len(b))]
		}
		seen[checkRead(t, string(b))]++
	}
	if seen[api.OK] < 5000 || seen[api.ErrForm] < 5000 {
		t.Error(seen)
	}
}

// The steps that other packages take too: with places as bytes.
func TestP38Places(t *testing.T) {
	for a := range 256 {
		for b := range 256 {
			want := api.Place{Cell: a, Nth: b}
			s := string([]byte{byte(a), byte(b)})
			p, rest, ok := ReadPlace(s + "behind")
			if slowRight(want) != ok || ok && (p != want || rest != "behind" || WritePlace(p) != s || IsNone(p) != (s == "\x00\x00")) {
				t.Fatalf("ReadPlace(%q) = %v, %q, %v", s, p, rest, ok)
			}
			if !ok && (p != api.Place{} || rest != "") {
				t.Fatalf("ReadPlace(%q) = %v, %q", s, p, rest)
			}
		}
		if p, rest, ok := ReadPlace(string([]byte{byte(a)})); ok || (p != api.Place{}) || rest != "" {
			t.Fatalf("ReadPlace of one byte %d = %v, %q", a, p, rest)
		}
	}
	if _, _, ok := ReadPlace(""); ok {
		t.Error("a place of no bytes")
	}
}
