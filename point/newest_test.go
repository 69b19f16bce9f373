package point

import (
	"math"
	"math/rand"
	"slices"
	"strings"
	"testing"

	"linenpress/api"
	"linenpress/imap"
)

// marked: a point that is told from others by its Serial, and a map by it.
func marked(serial int) api.Point {
	m := imap.Fresh()
	m.Gens[serial%48] = serial
	return api.Point{Serial: serial, Map: m}
}

// at: the text of a check point of that turn.
func at(turn, serial int) string { return slowWrite(turn, marked(serial)) }

func cells(l ...string) api.Disk { return api.Disk{Cells: l} }

// waits: d with one write more that waits.
func waits(d api.Disk, cell int, text string) api.Disk {
	return api.Disk{Cells: d.Cells, Wait: append(slices.Clone(d.Wait), api.Put{At: cell, Text: text})}
}

func isNewest(t *testing.T, name string, d api.Disk, turn, serial int) {
	t.Helper()
	if n, p, e := Newest(d); n != turn || !same(p, marked(serial)) || e != api.OK {
		t.Errorf("%s: %d, %v, %v; want %d, %d", name, n, p, e, turn, serial)
	}
}

func hasNone(t *testing.T, name string, d api.Disk, want api.Errno) {
	t.Helper()
	if n, p, e := Newest(d); n != 0 || !same(p, api.Point{}) || e != want {
		t.Errorf("%s: %d, %v, %v; want %v", name, n, p, e, want)
	}
}

// torn: texts of which Read makes nothing.
var torn = []string{
	"", "torn", strings.Repeat("\x00", 159), strings.Repeat("x", 1024), at(9, 9)[:158], at(9, 9) + "x",
	sealed(1, 9, slowBody(9, imap.Fresh())), sealed(2, 9, ""), sealed(2, 1<<31, slowBody(9, imap.Fresh())),
	sealed(2, 9, slowBody(1<<31, imap.Fresh())), sealed(2, 9, slowBody(9, imap.Fresh())+"\x00"),
}

// The document's example: with turns 4 and 5 the newest is 5; if its cell is torn it is 4.
func TestP43Newest(t *testing.T) {
	isNewest(t, "5 in cell 1", cells(at(4, 7), at(5, 9)), 5, 9)
	isNewest(t, "5 in cell 0", cells(at(5, 9), at(4, 7), ""), 5, 9)
	for _, text := range torn {
		isNewest(t, "cell 1 is torn", cells(at(4, 7), text, ""), 4, 7)
		isNewest(t, "cell 0 is torn", cells(text, at(4, 7), ""), 4, 7)
		isNewest(t, "turn 0, and cell 1 is torn", cells(at(0, 7), text), 0, 7)
		isNewest(t, "turn 0, and cell 0 is torn", cells(text, at(0, 7)), 0, 7)
		for _, other := range torn {
			hasNone(t, "both are torn", cells(text, other), api.ErrCorrupt)
		}
	}
}

func TestP43EachTurn(t *testing.T) {
	turns := append(serials(), 2, 3, 4, 5)
	for _, a := range turns {
		for _, b := range turns {
			turn, serial := a, 7 // of like turns that in cell 0
			if b > a {
				turn, serial = b, 9
			}
			isNewest(t, "two turns", cells(at(a, 7), at(b, 9), ""), turn, serial)
		}
	}
	isNewest(t, "an older one with a greater Serial", cells(at(8, 99), at(9, 1)), 9, 1)
	isNewest(t, "the same turn, and a greater Serial", cells(at(9, 1), at(9, 99)), 9, 1)
	isNewest(t, "the greatest turn twice", cells(at(math.MaxInt32, 1), at(math.MaxInt32, 2)), math.MaxInt32, 1)
	isNewest(t, "turn 0 twice", cells(at(0, 1), at(0, 2)), 0, 1)
}

// A turn needs not be in the cell into which it would be written.
func TestP43AnyCell(t *testing.T) {
	isNewest(t, "an odd turn in cell 0", cells(at(5, 9), ""), 5, 9)
	isNewest(t, "an even turn in cell 1", cells("", at(4, 7)), 4, 7)
	isNewest(t, "both the other way about", cells(at(5, 9), at(4, 7)), 5, 9)
}

// What waits counts, the last write to a cell alone.
func TestP43Waiting(t *testing.T) {
	d := cells(at(4, 7), at(5, 9), "")
	isNewest(t, "6 waits", waits(d, 0, at(6, 11)), 6, 11)
	isNewest(t, "the newer is torn", waits(d, 1, "torn"), 4, 7)
	isNewest(t, "the older is torn", waits(d, 0, "torn"), 5, 9)
	isNewest(t, "an older one waits", waits(d, 1, at(3, 11)), 4, 7)
	isNewest(t, "torn, and written again", waits(waits(d, 1, "torn"), 1, at(8, 11)), 8, 11)
	isNewest(t, "written again, and torn", waits(waits(d, 1, at(8, 11)), 1, "torn"), 4, 7)
	isNewest(t, "a write to another cell", waits(d, 2, at(8, 11)), 5, 9)
	isNewest(t, "the only one waits", waits(cells("", ""), 1, at(8, 11)), 8, 11)
	hasNone(t, "both are torn", waits(waits(d, 1, "torn"), 0, ""), api.ErrCorrupt)
}

func TestP43OtherCells(t *testing.T) {
	isNewest(t, "a newer one in cell 2", cells(at(4, 7), at(5, 9), at(6, 11), at(7, 13)), 5, 9)
	hasNone(t, "one in cell 2 alone", cells("", "", at(6, 11)), api.ErrCorrupt)
	isNewest(t, "one cell", cells(at(4, 7)), 4, 7)
	isNewest(t, "one cell, turn 0", cells(at(0, 7)), 0, 7)
	hasNone(t, "one cell, torn", cells("torn"), api.ErrCorrupt)
	isNewest(t, "as many cells as may be", cells(append([]string{"", at(4, 7)}, slices.Repeat([]string{at(9, 9)}, 126)...)...), 4, 7)
}

func TestP43DisksError(t *testing.T) {
	d, large := cells(at(4, 7), at(5, 9)), strings.Repeat("l", 1025)
	hasNone(t, "no cell", api.Disk{}, api.ErrArg)
	hasNone(t, "no cell, and a write", waits(api.Disk{}, 0, at(4, 7)), api.ErrArg)
	hasNone(t, "too many cells", cells(append([]string{at(4, 7)}, make([]string, 128)...)...), api.ErrArg)
	hasNone(t, "a large cell", cells(at(4, 7), at(5, 9), large), api.ErrLarge)
	hasNone(t, "a large cell, and no point", cells("", large), api.ErrLarge)
	hasNone(t, "a write to no cell", waits(d, 2, at(6, 11)), api.ErrArg)
	hasNone(t, "a write to no cell, on one", waits(cells(at(4, 7)), 1, at(6, 11)), api.ErrArg)
	hasNone(t, "a write ahead of the first cell", waits(d, -1, ""), api.ErrArg)
	hasNone(t, "a large write", waits(d, 1, large), api.ErrLarge)
	d.Wait = slices.Repeat([]api.Put{{At: 1, Text: at(6, 11)}}, 401)
	hasNone(t, "too many waiting", d, api.ErrLarge)
	d.Wait = d.Wait[:400]
	isNewest(t, "as many waiting as may be", d, 6, 11)
}

// slowNewest: of all that there are the one that is to be told, by their turns.
func slowNewest(d api.Disk) (int, api.Point, api.Errno) {
	turn, found, e := 0, api.Point{}, api.ErrCorrupt
	for cell := min(1, len(d.Cells)-1); cell >= 0; cell-- {
		text := d.Cells[cell]
		for _, w := range d.Wait {
			if w.At == cell {
				text = w.Text
			}
		}
		if n, p, f := Read(text); f == api.OK && (e != api.OK || n >= turn) {
			turn, found, e = n, p, f
		}
	}
	return turn, found, e
}

func TestP43AnyDisk(t *testing.T) {
	r := rand.New(rand.NewSource(43))
	some := func() string {
		if r.Intn(3) == 0 {
			return torn[r.Intn(len(torn))]
		}
		return at(r.Intn(4), 1+r.Intn(500))
	}
	seen := map[api.Errno]int{}
	for range 20000 {
		var d api.Disk
		for range 1 + r.Intn(4) {
			d.Cells = append(d.Cells, some())
		}
		for range r.Intn(4) {
			d.Wait = append(d.Wait, api.Put{At: r.Intn(len(d.Cells)), Text: some()})
		}
		turn, p, e := Newest(d)
		if n, want, f := slowNewest(d); turn != n || !same(p, want) || e != f {
			t.Fatalf("Newest(%v) = %d, %v, %v; want %d, %v, %v", d, turn, p, e, n, want, f)
		}
		seen[e]++
	}
	if seen[api.OK] < 3000 || seen[api.ErrCorrupt] < 3000 {
		t.Error(seen)
	}
}
