package scan

import (
	"encoding/binary"
	"hash/crc32"
	"math"
	"math/rand"
	"slices"
	"strconv"
	"strings"
	"testing"

	"linenpress/api"
)

// sealed: a body of any kind with a sum that fits.
func sealed(kind, serial int, body string) string {
	head := binary.BigEndian.AppendUint32([]byte{byte(kind)}, uint32(serial))
	head = binary.BigEndian.AppendUint16(head, uint16(len(body)))
	s := append(head, body...)
	return string(binary.LittleEndian.AppendUint32(s, crc32.Checksum(s, crc32.MakeTable(crc32.Castagnoli))))
}

// body: the bytes of blobs, each of which has fewer than 128 bytes of text.
func body(last bool, l ...api.Blob) string {
	out := []byte{0, byte(len(l))}
	if last {
		out[0] = 1
	}
	for _, b := range l {
		out = append(out, byte(b.Kind), byte(b.Ino), byte(b.Nth), byte(len(b.Text)))
		out = append(out, b.Text...)
	}
	return string(out)
}

func gone(ino int) api.Blob { return api.Blob{Kind: api.BGone, Ino: ino} }

// part, end: cells of the log of that number, with a blob of it; end has last.
func part(n int) string { return sealed(1, n, body(false, gone(n%48))) }
func end(n int) string  { return sealed(1, n, body(true, gone(n%48))) }

// entry: what is told of part(n), or of end(n), in a cell.
func entry(cell, n int, last bool) api.Entry {
	return api.Entry{Cell: cell, Blobs: []api.Blob{gone(n % 48)}, Last: last}
}

// log: a disk with two cells without a byte, and those behind them.
func log(l ...string) api.Disk {
	return api.Disk{Cells: append([]string{"", ""}, l...)}
}

// waits: d with one write more that waits.
func waits(d api.Disk, cell int, text string) api.Disk {
	return api.Disk{Cells: d.Cells, Wait: append(slices.Clone(d.Wait), api.Put{At: cell, Text: text})}
}

func same(a, b []api.Entry) bool {
	return slices.EqualFunc(a, b, func(x, y api.Entry) bool {
		return x.Cell == y.Cell && x.Last == y.Last && slices.Equal(x.Blobs, y.Blobs)
	})
}

func tells(t *testing.T, name string, d api.Disk, after, greatest int, want ...api.Entry) {
	t.Helper()
	if l, n, e := Run(d, after); !same(l, want) || n != greatest || e != api.OK {
		t.Errorf("%s: after %d: %v, %d, %v; want %v, %d", name, after, l, n, e, want, greatest)
	}
}

func refuses(t *testing.T, name string, d api.Disk, after int, want api.Errno) {
	t.Helper()
	if l, n, e := Run(d, after); len(l) != 0 || n != 0 || e != want {
		t.Errorf("%s: after %d: %v, %d, %v; want %v", name, after, l, n, e, want)
	}
}

// The document's example: of cells 7, 8, 10 behind 6 the first two are told, if 8 has last.
func TestP44Run(t *testing.T) {
	d := log(part(7), end(8), end(10))
	tells(t, "7, 8, 10", d, 6, 10, entry(2, 7, false), entry(3, 8, true))
	tells(t, "8 and 10", d, 7, 10, entry(3, 8, true))
	tells(t, "10", d, 9, 10, entry(4, 10, true))
	for _, after := range []int{0, 5, 8, 10} {
		tells(t, "none is next", d, after, 10)
	}
	tells(t, "all are behind", d, 11, 11)
	tells(t, "the greatest there may be", d, math.MaxInt32, math.MaxInt32)
}

func TestP44InTheOrderOfTheirNumbers(t *testing.T) {
	tells(t, "from the last cell on", log(end(4), part(3), end(2), part(1)), 0, 4,
		entry(5, 1, false), entry(4, 2, true), entry(3, 3, false), entry(2, 4, true))
	d, want := log(), []api.Entry{}
	for i := range 126 { // 5 has no common factor with 126: each number comes once
		d.Cells = append(d.Cells, end(1000+5*i%126))
	}
	for n := range 126 {
		want = append(want, entry(2+n*101%126, 1000+n, true)) // 101 is what undoes the 5
	}
	for after := 999; after < 1125; after++ {
		tells(t, "as many cells as may be", d, after, 1125, want[after-999:]...)
	}
}

func TestP44NoneBehindTheLastOneThatHasLast(t *testing.T) {
	tells(t, "none has last", log(part(7), part(8), part(9)), 6, 9)
	tells(t, "the one at hand has none", log(part(7)), 6, 7)
	tells(t, "the first alone has it", log(end(7), part(8), part(9)), 6, 9, entry(2, 7, true))
	tells(t, "all have it", log(end(7), end(8)), 6, 8, entry(2, 7, true), entry(3, 8, true))
	tells(t, "the last alone has it", log(part(7), part(8), end(9)), 6, 9, entry(2, 7, false), entry(3, 8, false), entry(4, 9, true))
	tells(t, "one in the midst", log(part(7), end(8), part(9)), 6, 9, entry(2, 7, false), entry(3, 8, true))
	tells(t, "two of four", log(end(7), part(8), end(9), part(10)), 6, 10, entry(2, 7, true), entry(3, 8, false), entry(4, 9, true))
	tells(t, "one behind a gap", log(part(7), part(8), end(10)), 6, 10)
	tells(t, "one ahead", log(end(6), part(7), part(8)), 6, 8)
}

func TestP44OneForEach(t *testing.T) {
	tells(t, "the first is not there", log(end(8), end(9)), 6, 9)
	tells(t, "one is not there", log(end(7), end(9), end(10)), 6, 10, entry(2, 7, true))
	tells(t, "one stands ahead of its turn", log(end(9), end(7)), 6, 9, entry(3, 7, true))
	tells(t, "0 is never behind", log(end(0), end(1)), 0, 1, entry(3, 1, true))
	tells(t, "0 alone", log(end(0)), 0, 0)
}

// Of several with one number the one that stands first counts, whatever the
// others have.
func TestP44OfSeveralTheFirst(t *testing.T) {
	other := sealed(1, 7, body(true, gone(30), gone(31)))
	tells(t, "the first of two", log(end(7), other), 6, 7, entry(2, 7, true))
	tells(t, "the first of two, the other way about", log(other, end(7)), 6, 7, api.Entry{Cell: 2, Blobs: []api.Blob{gone(30), gone(31)}, Last: true})
	tells(t, "the first has no last", log(part(7), end(7)), 6, 7)
	tells(t, "the first alone has last", log(end(7), part(7)), 6, 7, entry(2, 7, true))
	tells(t, "the first is none", log("torn", end(7), part(7)), 6, 7, entry(3, 7, true))
	tells(t, "a chain in the midst of others", log(end(8), part(7), part(8), end(7)), 6, 8, entry(3, 7, false), entry(2, 8, true))
	tells(t, "the first of many", log(slices.Repeat([]string{end(7)}, 126)...), 6, 7, entry(2, 7, true))
}

// noCells: texts that are no cells of the log, number 7 among them.
func noCells() []string {
	full := sealed(1, 7, "\x01\x01\x01\x03\x02\x02xy")
	return []string{
		"", "torn", strings.Repeat("\x00", 1024), strings.Repeat("x", 11), full[:len(full)-1], full + "x", "x" + full, full + full,
		sealed(2, 7, body(true, gone(7))), // a check point's seal
		sealed(0, 7, body(true, gone(7))),
		sealed(3, 7, body(true, gone(7))),
		sealed(1, 1<<31, body(true)),
		sealed(1, 1<<31+7, body(true)),
		sealed(1, 1<<32-1, body(true)),
		sealed(1, 7, ""),
		sealed(1, 7, "\x01"),
		sealed(1, 7, "\x02\x00"),                         // last is neither 0 nor 1
		sealed(1, 7, "\x01\x01"),                         // a blob too few
		sealed(1, 7, body(true)+"\x00"),                  // something behind the blobs
		sealed(1, 7, body(true, gone(48))),               // no inode
		sealed(1, 7, body(true, api.Blob{Kind: 4})),      // no kind
		sealed(1, 7, body(true, make([]api.Blob, 1)...)), // no kind either
		sealed(1, 7, body(true, api.Blob{Kind: api.BGone, Text: "x"})),
		sealed(1, 7, body(true, slices.Repeat([]api.Blob{gone(1)}, 41)...)),
		sealed(1, 7, "\x01\x01\x01\x00\x00\x80\x00"), // a length in more bytes than it needs
	}
}

func TestP44WhatIsNoCellOfTheLog(t *testing.T) {
	for i, text := range noCells() {
		name := "text " + strconv.Itoa(i)
		tells(t, name+" alone", log(text), 6, 6)
		tells(t, name+" alone", log(text), 0, 0)
		tells(t, name+" ahead of one", log(text, end(7)), 6, 7, entry(3, 7, true))
		tells(t, name+" between two", log(end(7), text, end(8)), 6, 8, entry(2, 7, true), entry(4, 8, true))
		tells(t, name+" over one", waits(log(end(7), end(8)), 3, text), 6, 7, entry(2, 7, true))
	}
}

// Other packages ask whether one cell is a cell of the log, and what is in it.
func TestP44ReadCell(t *testing.T) {
	none := func(name string, d api.Disk, at int) {
		t.Helper()
		if n, x, ok := ReadCell(d, at); n != 0 || x.Cell != 0 || len(x.Blobs) != 0 || x.Last || ok {
			t.Errorf("%s: cell %d: %d, %v, %v", name, at, n, x, ok)
		}
	}
	d := api.Disk{Cells: []string{end(5), end(6), end(7), part(8)}}
	for at := 2; at < 4; at++ {
		n, x, ok := ReadCell(d, at)
		if n != at+5 || !same([]api.Entry{x}, []api.Entry{entry(at, n, at == 2)}) || !ok {
			t.Error(at, n, x, ok)
		}
	}
	for _, at := range []int{math.MinInt, -1, 0, 1, 4, 128, math.MaxInt} {
		none("no cell for the log", d, at)
	}
	for i, text := range noCells() {
		none("text "+strconv.Itoa(i), log(text), 2)
	}
	none("a wrong disk", waits(d, 4, ""), 2)
}

// What is told of a cell is all that lies in it.
func TestP44Blobs(t *testing.T) {
	for _, blobs := range [][]api.Blob{
		nil,
		{gone(0)},
		{{Kind: api.BData, Ino: 3, Nth: 2, Text: "xy"}, {Kind: api.BInode, Ino: 3, Text: "\x00\xff\n"}, gone(47)},
		{{Kind: api.BData, Ino: 47, Nth: 7}, {Kind: api.BData, Ino: 47, Nth: 7}},
		slices.Repeat([]api.Blob{gone(5)}, 40),
	} {
		tells(t, "blobs", log(part(6), sealed(1, 7, body(true, blobs...))), 6, 7, api.Entry{Cell: 3, Blobs: blobs, Last: true})
		tells(t, "blobs without last", log(sealed(1, 7, body(false, blobs...)), end(8)), 6, 8, api.Entry{Cell: 2, Blobs: blobs}, entry(3, 8, true))
	}
	large := strings.Repeat("l", 600)
	tells(t, "a large blob", log(sealed(1, 7, "\x01\x01\x01\x03\x02\xd8\x04"+large)), 6, 7,
		api.Entry{Cell: 2, Blobs: []api.Blob{{Kind: api.BData, Ino: 3, Nth: 2, Text: large}}, Last: true})
}

// Cells 0 and 1 are no cells of the log, whatever lies there.
func TestP44FromCell2On(t *testing.T) {
	d := api.Disk{Cells: []string{end(7), end(99), end(8)}}
	tells(t, "none is next", d, 6, 8)
	tells(t, "in cell 2", d, 7, 8, entry(2, 8, true))
	tells(t, "one cell", api.Disk{Cells: []string{end(7)}}, 6, 6)
	tells(t, "two cells", api.Disk{Cells: []string{end(7), end(8)}}, 6, 6)
	tells(t, "a write to cell 1", waits(log(end(7)), 1, end(8)), 6, 7, entry(2, 7, true))
}

// What waits counts, the last write to a cell alone.
func TestP44Waiting(t *testing.T) {
	d := log(end(7), end(8), "")
	tells(t, "9 waits", waits(d, 4, end(9)), 7, 9, entry(3, 8, true), entry(4, 9, true))
	tells(t, "9 waits in the place of 7", waits(d, 2, end(9)), 7, 9, entry(3, 8, true), entry(2, 9, true))
	tells(t, "8 is torn", waits(d, 3, "torn"), 6, 7, entry(2, 7, true))
	tells(t, "8 is torn, and written again", waits(waits(d, 3, "torn"), 3, part(8)), 6, 8, entry(2, 7, true))
	tells(t, "20 comes and goes", waits(waits(d, 4, end(20)), 4, ""), 6, 8, entry(2, 7, true), entry(3, 8, true))
}

// The greatest number is that of all cells of the log, told or not.
func TestP44Greatest(t *testing.T) {
	tells(t, "behind a gap", log(end(7), end(500)), 6, 500, entry(2, 7, true))
	tells(t, "not last", log(end(7), part(8)), 6, 8, entry(2, 7, true))
	tells(t, "a later cell of a number that is there", log(part(9), end(9)), 6, 9)
	tells(t, "none is greater", log(end(3), end(5)), 6, 6)
	tells(t, "as great as after", log(end(6)), 6, 6)
	tells(t, "no cell of the log", log("", ""), 6, 6)
	tells(t, "in the first cell of many", log(end(90), end(7), end(50), end(8)), 6, 90, entry(3, 7, true), entry(5, 8, true))
}

func TestP44EdgesOfNumbers(t *testing.T) {
	const most = math.MaxInt32
	d := log(end(most), part(most-1), end(most-2))
	tells(t, "up to the greatest", d, most-3, most, entry(4, most-2, true), entry(3, most-1, false), entry(2, most, true))
	tells(t, "the greatest alone", d, most-1, most, entry(2, most, true))
	tells(t, "none is greater", d, most, most)
	tells(t, "nothing there", log(""), most, most)
	for _, after := range []int{-1, -2, math.MinInt32, math.MinInt, 1 << 31, 1<<31 + 1, 1 << 32, 1<<32 + 6, math.MaxInt} {
		refuses(t, "no number", log(end(7)), after, api.ErrArg)
	}
	refuses(t, "0 behind -1", log(end(0)), -1, api.ErrArg)
}

func TestP44DisksErrorFirst(t *testing.T) {
	large := strings.Repeat("l", 1025)
	for _, after := range []int{6, 0, -1, math.MaxInt32, 1 << 31} {
		refuses(t, "no cell", api.Disk{}, after, api.ErrArg)
		refuses(t, "too many cells", log(slices.Repeat([]string{end(7)}, 127)...), after, api.ErrArg)
		refuses(t, "a large cell", log(end(7), large), after, api.ErrLarge)
		refuses(t, "a large check point", api.Disk{Cells: []string{large, "", end(7)}}, after, api.ErrLarge)
		refuses(t, "a write to no cell", waits(log(end(7)), 3, end(8)), after, api.ErrArg)
		refuses(t, "a large write", waits(log(end(7)), 2, large), after, api.ErrLarge)
		d := log(end(7))
		d.Wait = slices.Repeat([]api.Put{{At: 2, Text: end(8)}}, 401)
		refuses(t, "too many waiting", d, after, api.ErrLarge)
	}
	d := log(end(7))
	d.Wait = slices.Repeat([]api.Put{{At: 2, Text: end(8)}}, 400)
	tells(t, "as many waiting as may be", d, 7, 8, entry(2, 8, true))
}

// lying: a cell as a test lays it: of the log if ok is true.
type lying struct {
	number int
	last   bool
	ok     bool
}

func (x lying) text(r *rand.Rand) string {
	if !x.ok {
		l := noCells()
		return l[r.Intn(len(l))]
	}
	if x.last {
		return end(x.number)
	}
	return part(x.number)
}

// slowRun: number by number, each sought from the first cell on.
func slowRun(l []lying, after int) ([]api.Entry, int) {
	find := func(n int) int {
		return slices.IndexFunc(l, func(x lying) bool { return x.ok && x.number == n })
	}
	greatest, stop := after, after+1
	for _, x := range l {
		if x.ok && x.number > greatest {
			greatest = x.number
		}
	}
	for find(stop) >= 0 {
		stop++
	}
	for stop--; stop > after && !l[find(stop)].last; {
		stop--
	}
	var out []api.Entry
	for n := after + 1; n <= stop; n++ {
		out = append(out, entry(2+find(n), n, l[find(n)].last))
	}
	return out, greatest
}

func TestP44AnyLog(t *testing.T) {
	r := rand.New(rand.NewSource(44))
	long, none := 0, 0
	for range 20000 {
		l, from := make([]lying, r.Intn(12)), r.Intn(1000)
		for i := range l {
			l[i] = lying{from + i, r.Intn(3) == 0, r.Intn(12) != 0}
			if r.Intn(12) == 0 {
				l[i].number = from + r.Intn(14)
			}
		}
		r.Shuffle(len(l), func(i, j int) { l[i], l[j] = l[j], l[i] })
		d := log()
		for i, x := range l {
			d.Cells = append(d.Cells, x.text(r))
			if r.Intn(4) == 0 { // the same to be read, though it waits
				d = waits(waits(d, 2+i, part(r.Intn(1000))), 2+i, d.Cells[2+i])
				d.Cells[2+i] = end(r.Intn(1000))
			}
		}
		after := max(0, from-2+r.Intn(6))
		want, greatest := slowRun(l, after)
		got, n, e := Run(d, after)
		if !same(got, want) || n != greatest || e != api.OK {
			t.Fatalf("Run(%v, %d) = %v, %d, %v; want %v, %d", l, after, got, n, e, want, greatest)
		}
		if len(want) > 2 {
			long++
		} else if len(want) == 0 {
			none++
		}
	}
	if long < 2000 || none < 2000 {
		t.Error(long, none)
	}
}
