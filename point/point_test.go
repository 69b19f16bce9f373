package point

import (
	"encoding/binary"
	"hash/crc32"
	"math"
	"math/rand"
	"slices"
	"strings"
	"testing"

	"linenpress/api"
	"linenpress/imap"
)

// taken: a map in which some numbers have an inode, and no two generations are alike.
func taken() api.Imap {
	m := imap.Fresh()
	for n := range m.At {
		m.Gens[n] = n * n * n * n
		if n%3 != 1 {
			m.At[n] = api.Place{Cell: 2 + 2*n, Nth: n % 40}
		}
	}
	return m
}

// widest: a map of as many bytes as there may be.
func widest() api.Imap {
	m := imap.Fresh()
	for n := range m.At {
		m.At[n], m.Gens[n] = api.Place{Cell: 127, Nth: 39}, math.MaxInt32
	}
	return m
}

// wrongMaps: each of them wrong in one thing.
func wrongMaps() []api.Imap {
	none, place, gen, low := imap.Fresh(), taken(), taken(), taken()
	place.At[47] = api.Place{Cell: 1}
	gen.Gens[0] = 1 << 31
	low.Gens[47] = -1
	return []api.Imap{{}, {At: none.At}, {Gens: none.Gens}, {At: none.At[:47], Gens: none.Gens}, {At: none.At, Gens: append(none.Gens, 0)}, place, gen, low}
}

// serials: each at which a bit or a byte more is needed, up to the greatest.
func serials() []int {
	l := []int{0, 258, 0x01020304, math.MaxInt32, math.MaxInt32 - 1}
	for i := range 31 {
		l = append(l, 1<<i, 1<<i-1)
	}
	return l
}

// noSerials: numbers that are none, some of which are one in four bytes.
var noSerials = []int{-1, -2, math.MinInt32, math.MinInt, 1 << 31, 1<<31 + 1, 1<<32 - 1, 1 << 32, 1<<32 + 5, math.MaxInt}

// slowMap is the chapter's words for a map's bytes, of a map that need not be right.
func slowMap(m api.Imap) string {
	var out []byte
	for n := range m.At {
		out = binary.AppendUvarint(out, uint64(m.Gens[n]))
		out = append(out, byte(m.At[n].Cell), byte(m.At[n].Nth))
	}
	return string(out)
}

// slowBody: the bytes that are sealed, of numbers that need not be right.
func slowBody(serial int, m api.Imap) string {
	return string(binary.BigEndian.AppendUint32(nil, uint32(serial))) + slowMap(m)
}

// summed: s with the sum behind it that fits it, whatever s is.
func summed(s string) string {
	c := crc32.Checksum([]byte(s), crc32.MakeTable(crc32.Castagnoli))
	return string(binary.LittleEndian.AppendUint32([]byte(s), c))
}

// sealed: a body of any kind with a sum that fits, and any number in its head.
func sealed(kind, turn int, body string) string {
	head := binary.BigEndian.AppendUint32([]byte{byte(kind)}, uint32(turn))
	return summed(string(binary.BigEndian.AppendUint16(head, uint16(len(body)))) + body)
}

func slowWrite(turn int, p api.Point) string { return sealed(2, turn, slowBody(p.Serial, p.Map)) }

func same(a, b api.Point) bool {
	return a.Serial == b.Serial && slices.Equal(a.Map.At, b.Map.At) && slices.Equal(a.Map.Gens, b.Map.Gens)
}

func checkRead(t *testing.T, s string, turn int, p api.Point, want api.Errno) {
	t.Helper()
	if n, got, e := Read(s); n != turn || !same(got, p) || e != want {
		t.Fatalf("Read(%q) = %d, %v, %v; want %d, %v, %v", s, n, got, e, turn, p, want)
	}
}

func refuses(t *testing.T, s string, want api.Errno) {
	t.Helper()
	checkRead(t, s, 0, api.Point{}, want)
}

// The bytes of one check point, as the chapter has them.
func TestP42Write(t *testing.T) {
	m := imap.Fresh()
	m.At[1], m.Gens[1] = api.Place{Cell: 9, Nth: 3}, 300
	want := summed("\x02\x00\x00\x01\x02\x00\x95" + "\x01\x02\x03\x04" + "\x00\x00\x00" + "\xac\x02\x09\x03" + strings.Repeat("\x00", 3*46))
	if s, e := Write(258, api.Point{Serial: 0x01020304, Map: m}); s != want || e != api.OK {
		t.Errorf("%q, %v; want %q", s, e, want)
	}
	if s, e := Write(4, api.Point{Serial: 7, Map: imap.Fresh()}); len(s) != 159 || e != api.OK {
		t.Errorf("%q, %v", s, e)
	}
}

func TestP42WriteAndRead(t *testing.T) {
	for _, m := range []api.Imap{imap.Fresh(), taken(), widest()} {
		for i, turn := range serials() {
			for _, serial := range []int{0, math.MaxInt32, serials()[i], turn / 3} {
				p := api.Point{Serial: serial, Map: m}
				s, e := Write(turn, p)
				if want := slowWrite(turn, p); s != want || e != api.OK {
					t.Fatalf("Write(%d, %v) = %q, %v; want %q", turn, p, s, e, want)
				}
				checkRead(t, s, turn, p, api.OK)
			}
		}
	}
}

func TestP42WriteWrong(t *testing.T) {
	wrong := func(turn int, p api.Point, want api.Errno) {
		t.Helper()
		if s, e := Write(turn, p); s != "" || e != want {
			t.Errorf("Write(%d, %v) = %q, %v; want %v", turn, p, s, e, want)
		}
	}
	for _, n := range noSerials {
		for _, m := range append(wrongMaps(), imap.Fresh(), taken()) {
			wrong(n, api.Point{Serial: 7, Map: m}, api.ErrArg)
			wrong(4, api.Point{Serial: n, Map: m}, api.ErrArg)
			wrong(n, api.Point{Serial: n, Map: m}, api.ErrArg)
		}
	}
	for _, m := range wrongMaps() {
		for _, n := range []int{0, 7, math.MaxInt32} {
			wrong(n, api.Point{Serial: n, Map: m}, api.ErrForm)
		}
	}
}

// What seal.Open refuses is told as it tells it.
func TestP42ReadSealsErrors(t *testing.T) {
	s := slowWrite(4, api.Point{Serial: 7, Map: taken()})
	for n := range len(s) {
		want := api.ErrSum
		if n < 11 {
			want = api.ErrShort
		}
		refuses(t, s[:n], want)
	}
	for i := range 8 * len(s) {
		b := []byte(s)
		b[i/8] ^= 1 << (i % 8)
		refuses(t, string(b), api.ErrSum)
	}
	refuses(t, s+"x", api.ErrSum)
	refuses(t, s+s, api.ErrSum)
	refuses(t, sealed(2, 4, slowBody(7, taken())+strings.Repeat("x", 1000)), api.ErrLarge)
	refuses(t, sealed(2, 1<<31, slowBody(7, taken())), api.ErrForm)
	refuses(t, sealed(2, 1<<32-1, slowBody(7, taken())), api.ErrForm)
	refuses(t, summed("\x02\x00\x00\x00\x04\x00\x00"+slowBody(7, taken())), api.ErrForm)
}

// What is sealed as it must be is not read if Write makes it of nothing.
func TestP42ReadWrong(t *testing.T) {
	good, rest := slowBody(7, imap.Fresh()), strings.Repeat("\x00", 3*47)
	checkRead(t, sealed(2, 4, good), 4, api.Point{Serial: 7, Map: imap.Fresh()}, api.OK)
	for kind := range 256 {
		if kind != api.SealPoint {
			refuses(t, sealed(kind, 4, good), api.ErrForm)
		}
	}
	for n := range len(good) {
		refuses(t, sealed(2, 4, good[:n]), api.ErrForm)
		refuses(t, sealed(2, 4, good[n+1:]), api.ErrForm)
	}
	for b := range 256 {
		refuses(t, sealed(2, 4, good+string([]byte{byte(b)})), api.ErrForm)
	}
	refuses(t, sealed(2, 4, good+slowMap(imap.Fresh())), api.ErrForm)
	for _, serial := range []int{1 << 31, 1<<31 + 1, 1<<31 + 7, 3 << 30, 1<<32 - 1} {
		refuses(t, sealed(2, 4, slowBody(serial, imap.Fresh())), api.ErrForm)
	}
	for _, first := range []string{"\x00\x01\x00", "\x00\x00\x01", "\x00\x80\x00", "\x00\x02\x28", "\x80\x00\x09\x03", "\x80\x80\x80\x80\x08\x09\x03"} {
		refuses(t, sealed(2, 4, "\x00\x00\x00\x07"+first+rest), api.ErrForm)
		refuses(t, sealed(2, 4, "\x00\x00\x00\x07"+rest+first), api.ErrForm)
	}
	for n := range 12 {
		refuses(t, sealed(2, 4, strings.Repeat("\x00", n)), api.ErrForm)
	}
}

// slowRead: of which turn and point does Write make s? They stand where the
// chapter has them, if they stand anywhere.
func slowRead(s string) (int, api.Point, bool) {
	if len(s) < 15 {
		return 0, api.Point{}, false
	}
	turn, serial := int(binary.BigEndian.Uint32([]byte(s[1:]))), int(binary.BigEndian.Uint32([]byte(s[7:])))
	m, _ := imap.Read(s[11 : len(s)-4])
	made, e := Write(turn, api.Point{Serial: serial, Map: m})
	if e != api.OK || made != s {
		return 0, api.Point{}, false
	}
	return turn, api.Point{Serial: serial, Map: m}, true
}

// Each end must come up often, or the test has no worth.
func TestP42AnyText(t *testing.T) {
	r := rand.New(rand.NewSource(42))
	seen := map[api.Errno]int{}
	bodies := []string{slowBody(7, imap.Fresh()), slowBody(1<<31-1, taken()), slowBody(0, widest())}
	for range 20000 {
		body := []byte(bodies[r.Intn(len(bodies))])
		for range r.Intn(3) {
			body[r.Intn(min(len(body), 12))] = []byte{0, 1, 2, 39, 40, 127, 128, 255}[r.Intn(8)]
		}
		s := sealed([]int{1, 2, 2, 2, 2, 3}[r.Intn(6)], r.Intn(1<<32)>>r.Intn(32), string(body))
		if r.Intn(6) == 0 {
			s = s[:r.Intn(len(s)+1)]
		}
		turn, p, e := Read(s)
		wantTurn, want, ok := slowRead(s)
		if turn != wantTurn || !same(p, want) || ok != (e == api.OK) {
			t.Fatalf("Read(%q) = %d, %v, %v; want %d, %v", s, turn, p, e, wantTurn, want)
		}
		seen[e]++
	}
	for e, least := range map[api.Errno]int{api.OK: 2000, api.ErrForm: 2000, api.ErrSum: 500, api.ErrShort: 20} {
		if seen[e] < least {
			t.Errorf("answer %v came %d times", e, seen[e])
		}
	}
}
