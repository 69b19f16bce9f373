package imap

import (
	"encoding/binary"
	"math"
	"math/rand"
	"slices"
	"strings"
	"testing"

	"linenpress/api"
)

var (
	noPlace = api.Place{}
	aPlace  = api.Place{Cell: 9, Nth: 3}
)

// slowPlace: whether p is a blob of a cell of the log, or none.
func slowPlace(p api.Place) bool {
	return p.Cell == 0 && p.Nth == 0 || p.Cell > 1 && p.Cell < 128 && p.Nth > -1 && p.Nth < 40
}

// slowCheck is the chapter's words, each of the lists on its own.
func slowCheck(m api.Imap) api.Errno {
	wrong := func(p api.Place) bool { return !slowPlace(p) }
	wide := func(gen int) bool { return gen < 0 || gen > 2147483647 }
	if len(m.At) != 48 || len(m.Gens) != 48 || slices.ContainsFunc(m.At, wrong) || slices.ContainsFunc(m.Gens, wide) {
		return api.ErrForm
	}
	return api.OK
}

// slowTake: of all numbers that may be taken, the least.
func slowTake(m api.Imap) (int, api.Errno) {
	if slowCheck(m) != api.OK {
		return 0, api.ErrForm
	}
	least := 48
	for n := 47; n > 0; n-- {
		if m.At[n] == noPlace && m.Gens[n] != 2147483647 {
			least = n
		}
	}
	if least == 48 {
		return 0, api.ErrMany
	}
	return least, api.OK
}

func slowSet(m api.Imap, n int, p api.Place) (api.Imap, api.Errno) {
	if slowCheck(m) != api.OK {
		return api.Imap{}, api.ErrForm
	}
	if n < 0 || n > 47 || !slowPlace(p) || p == noPlace {
		return api.Imap{}, api.ErrArg
	}
	return changed(m, n, p, m.Gens[n]), api.OK
}

func slowCut(m api.Imap, n int) (api.Imap, api.Errno) {
	if slowCheck(m) != api.OK {
		return api.Imap{}, api.ErrForm
	}
	if n < 0 || n > 47 {
		return api.Imap{}, api.ErrArg
	}
	if m.At[n] == noPlace {
		return api.Imap{}, api.ErrNone
	}
	if m.Gens[n] == 2147483647 {
		return api.Imap{}, api.ErrMany
	}
	return changed(m, n, noPlace, m.Gens[n]+1), api.OK
}

// slowBytes: the bytes for a map, whether or not it is right.
func slowBytes(m api.Imap) string {
	var out []byte
	for n := range m.At {
		out = binary.AppendUvarint(out, uint64(m.Gens[n]))
		out = append(out, byte(m.At[n].Cell), byte(m.At[n].Nth))
	}
	return string(out)
}

func slowWrite(m api.Imap) (string, api.Errno) {
	if slowCheck(m) != api.OK {
		return "", api.ErrForm
	}
	return slowBytes(m), api.OK
}

// slowRead: a map as it may lie in s, if it is right and its bytes are s.
func slowRead(s string) (api.Imap, api.Errno) {
	m, rest := Fresh(), []byte(s)
	for n := range m.At {
		gen, k := binary.Uvarint(rest)
		if k < 1 || gen > 1<<40 || len(rest) < k+2 {
			return api.Imap{}, api.ErrForm
		}
		m.Gens[n], m.At[n] = int(gen), api.Place{Cell: int(rest[k]), Nth: int(rest[k+1])}
		rest = rest[k+2:]
	}
	if slowBytes(m) != s || slowCheck(m) != api.OK {
		return api.Imap{}, api.ErrForm
	}
	return m, api.OK
}

// changed: m with another place and generation of number n, in new lists.
func changed(m api.Imap, n int, p api.Place, gen int) api.Imap {
	m.At, m.Gens = slices.Clone(m.At), slices.Clone(m.Gens)
	m.At[n], m.Gens[n] = p, gen
	return m
}

// taken: a map in which each number has an inode and a generation, no two alike.
func taken() api.Imap {
	m := Fresh()
	for n := range m.At {
		m.At[n], m.Gens[n] = api.Place{Cell: 2 + 2*n, Nth: n % 40}, 1000+n
	}
	return m
}

func same(a, b api.Imap) bool { return slices.Equal(a.At, b.At) && slices.Equal(a.Gens, b.Gens) }

func isMap(t *testing.T, name string, m api.Imap, e api.Errno, want api.Imap, f api.Errno) {
	t.Helper()
	if !same(m, want) || e != f {
		t.Fatalf("%s: %v, %v; want %v, %v", name, m, e, want, f)
	}
}

func checkRead(t *testing.T, s string) api.Errno {
	t.Helper()
	want, f := slowRead(s)
	m, e := Read(s)
	isMap(t, "Read", m, e, want, f)
	return e
}

func isNone(t *testing.T, s string) {
	t.Helper()
	m, e := Read(s)
	isMap(t, "Read", m, e, api.Imap{}, api.ErrForm)
}

// checkAll holds each of the calls but Fresh against its slow version, with one
// number and one place.
func checkAll(t *testing.T, m api.Imap, n int, p api.Place) []api.Errno {
	t.Helper()
	if e := Check(m); e != slowCheck(m) {
		t.Fatalf("Check(%v) = %v", m, e)
	}
	least, took := Take(m)
	if want, f := slowTake(m); least != want || took != f {
		t.Fatalf("Take(%v) = %d, %v; want %d, %v", m, least, took, want, f)
	}
	got, set := Set(m, n, p)
	want, f := slowSet(m, n, p)
	isMap(t, "Set", got, set, want, f)
	got, cut := Cut(m, n)
	want, f = slowCut(m, n)
	isMap(t, "Cut", got, cut, want, f)
	s, written := Write(m)
	if want, f := slowWrite(m); s != want || written != f {
		t.Fatalf("Write(%v) = %q, %v; want %q, %v", m, s, written, want, f)
	}
	checkRead(t, s)
	return []api.Errno{took, set, cut, written}
}

func TestP39Fresh(t *testing.T) {
	m := Fresh()
	if len(m.At) != 48 || len(m.Gens) != 48 {
		t.Fatal(len(m.At), len(m.Gens))
	}
	for n := range 48 {
		if m.At[n] != noPlace || m.Gens[n] != 0 {
			t.Errorf("%d lies at %v, generation %d", n, m.At[n], m.Gens[n])
		}
	}
	if e := Check(m); e != api.OK {
		t.Error(e)
	}
}

// wrongPlaces and wrongGens are those that no map has.
var (
	wrongPlaces = []api.Place{
		{Cell: 1}, {Cell: 1, Nth: 1}, {Nth: 1}, {Nth: 39}, {Nth: -1}, {Cell: -1}, {Cell: -1, Nth: 3}, {Cell: 128}, {Cell: 128, Nth: 39},
		{Cell: 2, Nth: 40}, {Cell: 127, Nth: 40}, {Cell: 2, Nth: -1}, {Cell: 256 + 9, Nth: 3}, {Cell: 9, Nth: 256 + 3},
		{Cell: 1 << 32}, {Cell: 1<<32 + 9, Nth: 3}, {Cell: math.MaxInt}, {Cell: math.MinInt}, {Cell: 9, Nth: math.MaxInt}, {Cell: 9, Nth: math.MinInt},
	}
	wrongGens = []int{-1, -2, 1 << 31, 1<<31 + 1, 1<<32 - 1, 1 << 32, 1<<32 + 5, math.MaxInt, math.MinInt}
)

// wrongMaps: each of them wrong in one thing.
func wrongMaps() []api.Imap {
	f, g := Fresh(), taken()
	l := []api.Imap{
		{}, {At: f.At}, {Gens: f.Gens}, {At: []api.Place{}, Gens: []int{}},
		{At: g.At[:47], Gens: g.Gens}, {At: g.At, Gens: g.Gens[:47]}, {At: g.At[:47], Gens: g.Gens[:47]}, {At: g.At[:1], Gens: g.Gens[:1]},
		{At: append(f.At, aPlace), Gens: f.Gens}, {At: f.At, Gens: append(f.Gens, 1)}, {At: append(f.At, noPlace), Gens: append(f.Gens, 0)},
		{At: make([]api.Place, 48+256), Gens: make([]int, 48+256)}, {At: make([]api.Place, 1<<16), Gens: f.Gens},
	}
	for _, n := range []int{0, 1, 2, 23, 46, 47} {
		for _, p := range wrongPlaces {
			l = append(l, changed(f, n, p, 0), changed(g, n, p, 7))
		}
		for _, gen := range wrongGens {
			l = append(l, changed(f, n, noPlace, gen), changed(g, n, aPlace, gen))
		}
	}
	return l
}

// rightMaps: at the edges, and in the midst.
func rightMaps() []api.Imap {
	f, g := Fresh(), taken()
	l := []api.Imap{f, g, {At: f.At, Gens: g.Gens}, {At: g.At, Gens: f.Gens}, {At: slices.Repeat([]api.Place{aPlace}, 48), Gens: f.Gens}}
	for n := range 48 {
		for _, p := range []api.Place{noPlace, {Cell: 2}, {Cell: 2, Nth: 39}, {Cell: 127}, {Cell: 127, Nth: 39}} {
			for _, gen := range []int{0, 1, 127, 128, math.MaxInt32 - 1, math.MaxInt32} {
				l = append(l, changed(f, n, p, gen), changed(g, n, p, gen))
			}
		}
	}
	return l
}

func TestP39Check(t *testing.T) {
	for _, m := range rightMaps() {
		if e := Check(m); e != api.OK || slowCheck(m) != api.OK {
			t.Errorf("Check(%v) = %v", m, e)
		}
	}
	for _, m := range wrongMaps() {
		if e := Check(m); e != api.ErrForm || slowCheck(m) != api.ErrForm {
			t.Errorf("Check(%v) = %v", m, e)
		}
	}
}

// What is wrong with a map is told ahead of all else.
func TestP39WrongMapsFirst(t *testing.T) {
	for _, m := range wrongMaps() {
		if n, e := Take(m); n != 0 || e != api.ErrForm {
			t.Fatalf("Take(%v) = %d, %v", m, n, e)
		}
		if s, e := Write(m); s != "" || e != api.ErrForm {
			t.Fatalf("Write(%v) = %q, %v", m, s, e)
		}
		for _, n := range []int{-1, 0, 1, 23, 47, 48, math.MaxInt, math.MinInt} {
			got, e := Cut(m, n)
			isMap(t, "Cut", got, e, api.Imap{}, api.ErrForm)
			for _, p := range []api.Place{noPlace, aPlace, {Cell: 1}} {
				got, e = Set(m, n, p)
				isMap(t, "Set", got, e, api.Imap{}, api.ErrForm)
			}
		}
	}
}

// Each number is taken by turns, from 1 on, and number 0 never.
func TestP40TakeInOrder(t *testing.T) {
	m := Fresh()
	for want := 1; want < 48; want++ {
		if n, e := Take(m); n != want || e != api.OK {
			t.Fatalf("%d, %v; want %d", n, e, want)
		}
		m, _ = Set(m, want, aPlace)
	}
	if n, e := Take(m); n != 0 || e != api.ErrMany {
		t.Error(n, e)
	}
	if m.At[0] != noPlace {
		t.Error(m.At[0])
	}
}

func TestP40Take(t *testing.T) {
	const last = math.MaxInt32
	spent := Fresh()
	for n := range 48 {
		spent.Gens[n] = last
	}
	for _, x := range []struct {
		name string
		m    api.Imap
		want int
		e    api.Errno
	}{
		{"fresh", Fresh(), 1, api.OK},
		{"0 lies somewhere", changed(Fresh(), 0, aPlace, 0), 1, api.OK},
		{"all have an inode", taken(), 0, api.ErrMany},
		{"all but 0", changed(taken(), 0, noPlace, 0), 0, api.ErrMany},
		{"all but 1", changed(taken(), 1, noPlace, 0), 1, api.OK},
		{"all but 47", changed(taken(), 47, noPlace, 5), 47, api.OK},
		{"all but 3 and 5", changed(changed(taken(), 5, noPlace, 0), 3, noPlace, 9), 3, api.OK},
		{"1 is spent", changed(Fresh(), 1, noPlace, last), 2, api.OK},
		{"1 is all but spent", changed(Fresh(), 1, noPlace, last-1), 1, api.OK},
		{"1 is spent, and has an inode", changed(Fresh(), 1, aPlace, last), 2, api.OK},
		{"the only one without an inode is spent", changed(taken(), 30, noPlace, last), 0, api.ErrMany},
		{"the only one without an inode is all but spent", changed(taken(), 30, noPlace, last-1), 30, api.OK},
		{"all are spent", spent, 0, api.ErrMany},
		{"all but 0 are spent", changed(spent, 0, noPlace, 0), 0, api.ErrMany},
		{"all but 47 are spent", changed(spent, 47, noPlace, 0), 47, api.OK},
		{"all are spent, and 47 lies somewhere", changed(spent, 47, aPlace, 0), 0, api.ErrMany},
	} {
		if n, e := Take(x.m); n != x.want || e != x.e {
			t.Errorf("%s: %d, %v; want %d, %v", x.name, n, e, x.want, x.e)
		}
	}
}

func TestP40Set(t *testing.T) {
	for _, m := range []api.Imap{Fresh(), taken()} {
		for n := -2; n < 52; n++ {
			for _, p := range []api.Place{aPlace, {Cell: 2}, {Cell: 127, Nth: 39}} {
				got, e := Set(m, n, p)
				if n < 0 || n > 47 {
					isMap(t, "no number", got, e, api.Imap{}, api.ErrArg)
				} else {
					isMap(t, "a number", got, e, changed(m, n, p, m.Gens[n]), api.OK)
				}
			}
			for _, p := range append([]api.Place{noPlace}, wrongPlaces...) {
				got, e := Set(m, n, p)
				isMap(t, "no place", got, e, api.Imap{}, api.ErrArg)
			}
		}
	}
	for _, n := range []int{256 + 1, 1<<32 + 1, math.MaxInt, math.MinInt} {
		got, e := Set(Fresh(), n, aPlace)
		isMap(t, "far from a number", got, e, api.Imap{}, api.ErrArg)
	}
}

// Nothing is refused for a generation.
func TestP40SetSpent(t *testing.T) {
	for _, p := range []api.Place{noPlace, aPlace} {
		m := changed(Fresh(), 5, p, math.MaxInt32)
		got, e := Set(m, 5, api.Place{Cell: 2})
		isMap(t, "spent", got, e, changed(m, 5, api.Place{Cell: 2}, math.MaxInt32), api.OK)
	}
}

func TestP40Cut(t *testing.T) {
	for n := -2; n < 52; n++ {
		got, e := Cut(taken(), n)
		none, f := Cut(Fresh(), n)
		if n < 0 || n > 47 {
			isMap(t, "no number", got, e, api.Imap{}, api.ErrArg)
			isMap(t, "no number", none, f, api.Imap{}, api.ErrArg)
			continue
		}
		isMap(t, "a number", got, e, changed(taken(), n, noPlace, 1001+n), api.OK)
		isMap(t, "no inode", none, f, api.Imap{}, api.ErrNone)
		got, e = Cut(changed(taken(), n, aPlace, math.MaxInt32-1), n)
		isMap(t, "all but spent", got, e, changed(taken(), n, noPlace, math.MaxInt32), api.OK)
		got, e = Cut(changed(taken(), n, aPlace, math.MaxInt32), n)
		isMap(t, "spent", got, e, api.Imap{}, api.ErrMany)
		got, e = Cut(changed(taken(), n, noPlace, math.MaxInt32), n)
		isMap(t, "spent, and no inode", got, e, api.Imap{}, api.ErrNone)
	}
	for _, n := range []int{256 + 1, 1<<32 + 1, math.MaxInt, math.MinInt} {
		got, e := Cut(taken(), n)
		isMap(t, "far from a number", got, e, api.Imap{}, api.ErrArg)
	}
}

func TestP39P40P41EachMap(t *testing.T) {
	for i, m := range append(rightMaps(), wrongMaps()...) {
		for _, n := range []int{-1, 0, 47, 48, i % 48} {
			checkAll(t, m, n, aPlace)
		}
	}
}

func TestP41WriteAndRead(t *testing.T) {
	last := Fresh()
	for n := range 48 {
		last.At[n], last.Gens[n] = api.Place{Cell: 127, Nth: 39}, math.MaxInt32
	}
	for _, x := range []struct {
		name string
		m    api.Imap
		s    string
	}{
		{"fresh", Fresh(), strings.Repeat("\x00\x00\x00", 48)},
		{"0 lies somewhere", changed(Fresh(), 0, aPlace, 0), "\x00\x09\x03" + strings.Repeat("\x00", 141)},
		{"1 lies somewhere", changed(Fresh(), 1, aPlace, 2), "\x00\x00\x00\x02\x09\x03" + strings.Repeat("\x00", 138)},
		{"47 lies somewhere", changed(Fresh(), 47, aPlace, 127), strings.Repeat("\x00", 141) + "\x7f\x09\x03"},
		{"a generation of two bytes", changed(Fresh(), 0, aPlace, 300), "\xac\x02\x09\x03" + strings.Repeat("\x00", 141)},
		{"0 is spent", changed(Fresh(), 0, noPlace, math.MaxInt32), "\xff\xff\xff\xff\x07\x00\x00" + strings.Repeat("\x00", 141)},
		{"all that may be", last, strings.Repeat("\xff\xff\xff\xff\x07\x7f\x27", 48)},
	} {
		if s, e := Write(x.m); s != x.s || e != api.OK {
			t.Errorf("%s: Write is %q, %v; want %q", x.name, s, e, x.s)
		}
		m, e := Read(x.s)
		isMap(t, x.name, m, e, x.m, api.OK)
		for n := range len(x.s) {
			isNone(t, x.s[:n])
		}
		for b := range 256 {
			isNone(t, x.s+string([]byte{byte(b)}))
		}
		isNone(t, x.s+"\x00\x00\x00")
		isNone(t, x.s+x.s)
	}
}

// Each byte, whatever it is, at each place of the first, a middle and the last
// number's bytes.
func TestP41ReadEachByte(t *testing.T) {
	for _, gen := range []int{0, 127, 300, math.MaxInt32} {
		s := slowBytes(changed(changed(changed(Fresh(), 0, aPlace, gen), 23, aPlace, gen), 47, aPlace, gen))
		one := (len(s)-45*3)/3 - 1
		for _, from := range []int{0, one + 1 + 22*3, len(s) - one - 1} {
			for at := from; at <= from+one; at++ {
				for b := range 256 {
					text := []byte(s)
					text[at] = byte(b)
					checkRead(t, string(text))
				}
			}
		}
	}
}

func TestP41ReadWrong(t *testing.T) {
	rest := strings.Repeat("\x00", 141)
	for _, x := range []struct{ name, s string }{
		{"nothing", ""},
		{"one number too few", rest},
		{"one number too many", rest + "\x00\x00\x00\x00\x00\x00"},
		{"0 in two bytes", "\x80\x00\x09\x03" + rest},
		{"1 in two bytes", "\x81\x00\x09\x03" + rest},
		{"a generation one too great", "\x80\x80\x80\x80\x08\x09\x03" + rest},
		{"the greatest in four bytes", "\xff\xff\xff\xff\x0f\x09\x03" + rest},
		{"0 in four bytes", "\x80\x80\x80\x80\x10\x09\x03" + rest},
		{"5 in four bytes", "\x85\x80\x80\x80\x10\x09\x03" + rest},
		{"the greatest there is", "\xff\xff\xff\xff\xff\xff\xff\xff\xff\x01\x09\x03" + rest},
		{"the least below 0", "\x80\x80\x80\x80\x80\x80\x80\x80\x80\x01\x09\x03" + rest},
		{"more than there is", "\xff\xff\xff\xff\xff\xff\xff\xff\xff\x02\x09\x03" + rest},
		{"a generation without end", strings.Repeat("\xff", 144)},
		{"a place in a check point", "\x00\x01\x00" + rest},
		{"a blob of no cell", "\x00\x00\x01" + rest},
		{"a cell too far", "\x00\x80\x00" + rest},
		{"a blob too far", "\x00\x02\x28" + rest},
		{"a last place in a check point", rest + "\x00\x01\x00"},
		{"a last generation one too great", rest + "\x80\x80\x80\x80\x08\x09\x03"},
		{"a last generation torn", rest + "\x80"},
		{"a last place torn", rest + "\x00\x09"},
		{"no last place", rest + "\x00"},
	} {
		t.Run(x.name, func(t *testing.T) { isNone(t, x.s) })
	}
}

func somePlace(r *rand.Rand, wrong int) api.Place {
	if r.Intn(wrong) == 0 {
		return wrongPlaces[r.Intn(len(wrongPlaces))]
	}
	if r.Intn(3) == 0 {
		return noPlace
	}
	return api.Place{Cell: 2 + r.Intn(126), Nth: r.Intn(40)}
}

func someMap(r *rand.Rand, wrong int) api.Imap {
	m := Fresh()
	for n := range m.At {
		m.At[n], m.Gens[n] = somePlace(r, wrong), r.Intn(1<<31)>>r.Intn(31)
		if r.Intn(4) == 0 {
			m.Gens[n] = math.MaxInt32 - r.Intn(2)
		}
		if r.Intn(wrong) == 0 {
			m.Gens[n] = wrongGens[r.Intn(len(wrongGens))]
		}
	}
	if r.Intn(wrong) == 0 {
		m.At = m.At[:r.Intn(48)]
	}
	if r.Intn(wrong) == 0 {
		m.Gens = append(m.Gens, m.Gens[:1+r.Intn(9)]...)
	}
	return m
}

// Each of the ends must come up often, or the test has no worth.
func TestP39P40P41AnyMap(t *testing.T) {
	r := rand.New(rand.NewSource(39))
	var seen [4]map[api.Errno]int
	for i := range seen {
		seen[i] = map[api.Errno]int{}
	}
	for range 10000 {
		for i, e := range checkAll(t, someMap(r, 300), r.Intn(52)-2, somePlace(r, 4)) {
			seen[i][e]++
		}
	}
	for i, ends := range [][]api.Errno{{api.OK, api.ErrForm}, {api.OK, api.ErrForm, api.ErrArg}, {api.OK, api.ErrForm, api.ErrArg, api.ErrNone, api.ErrMany}, {api.OK, api.ErrForm}} {
		for _, e := range ends {
			if seen[i][e] < 200 {
				t.Errorf("call %d: answer %v came %d times", i, e, seen[i][e])
			}
		}
	}
}

// A map goes on from step to step, as it does when inodes come and go.
func TestP40StepByStep(t *testing.T) {
	r := rand.New(rand.NewSource(40))
	for range 20 {
		m, at, gens := Fresh(), map[int]api.Place{}, map[int]int{}
		for range 2000 {
			n, p := r.Intn(48), api.Place{Cell: 2 + r.Intn(126), Nth: r.Intn(40)}
			if r.Intn(3) == 0 {
				got, e := Take(m)
				if e == api.OK {
					n = got
				}
				if _, there := at[n]; e == api.OK && there || e == api.ErrMany && len(at) < 47 {
					t.Fatal(got, e, at)
				}
			}
			if old, there := at[n]; r.Intn(2) == 0 && there {
				gone, e := Cut(m, n)
				if e != api.OK || m.At[n] != old {
					t.Fatal(n, e)
				}
				m = gone
				delete(at, n)
				gens[n]++
			} else {
				set, e := Set(m, n, p)
				if e != api.OK {
					t.Fatal(n, e)
				}
				m, at[n] = set, p
			}
		}
		for n := range 48 {
			if m.At[n] != at[n] || m.Gens[n] != gens[n] {
				t.Fatalf("%d: %v, %d; want %v, %d", n, m.At[n], m.Gens[n], at[n], gens[n])
			}
		}
		s, _ := Write(m)
		back, e := Read(s)
		isMap(t, "in the end", back, e, m, api.OK)
	}
}

func TestP41AnyBytes(t *testing.T) {
	r := rand.New(rand.NewSource(41))
	seen := map[api.Errno]int{}
	for range 20000 {
		b := []byte(slowBytes(someMap(r, 1000)))
		for range r.Intn(3) {
			b[r.Intn(len(b))] = []byte{0, 1, 2, 3, 7, 8, 39, 40, 127, 128, 255}[r.Intn(11)]
		}
		if r.Intn(8) == 0 {
			b = b[:r.Intn(len(b))]
		}
		seen[checkRead(t, string(b))]++
	}
	if seen[api.OK] < 3000 || seen[api.ErrForm] < 3000 {
		t.Error(seen)
	}
}
