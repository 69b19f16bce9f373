package use

import (
	"math"
	"slices"
	"strconv"
	"strings"
	"testing"

	"linenpress/api"
	"linenpress/blob"
	"linenpress/imap"
	"linenpress/inode"
	"linenpress/seal"
)

func data(ino, nth int, text string) api.Blob {
	return api.Blob{Kind: api.BData, Ino: ino, Nth: nth, Text: text}
}

func gone(ino int) api.Blob { return api.Blob{Kind: api.BGone, Ino: ino} }

// text: an inode as bytes, with so many clusters as there are parts.
func text(kind, gen int, parts ...api.Place) string {
	s, e := inode.Write(api.Inode{Kind: kind, Gen: gen, Size: 512 * len(parts), Parts: parts})
	if e != api.OK {
		panic(e)
	}
	return s
}

// node: the blob of a file.
func node(ino, gen int, parts ...api.Place) api.Blob {
	return api.Blob{Kind: api.BInode, Ino: ino, Text: text(api.NFile, gen, parts...)}
}

// sealed: a body, right or wrong, with its seal.
func sealed(kind int, body string) string {
	s, e := seal.Seal(kind, 7, body)
	if e != api.OK {
		panic(e)
	}
	return s
}

// holds: a cell of the log.
func holds(l ...api.Blob) string {
	s, e := blob.Write(l, true)
	if e != api.OK {
		panic(e)
	}
	return sealed(api.SealLog, s)
}

// log: a disk with two cells without a byte, and those behind them.
func log(l ...string) api.Disk { return api.Disk{Cells: append([]string{"", ""}, l...)} }

// waits: d with one write more that waits.
func waits(d api.Disk, cell int, text string) api.Disk {
	return api.Disk{Cells: d.Cells, Wait: append(slices.Clone(d.Wait), api.Put{At: cell, Text: text})}
}

func at(cell, nth int) api.Place { return api.Place{Cell: cell, Nth: nth} }

// torn: texts that are no cells of the log.
func torn() []string {
	s := holds(data(5, 0, "z"))
	return []string{
		"", "torn", strings.Repeat("\x00", 1024), s[:len(s)-1], s + "x", "x" + s[1:],
		sealed(api.SealPoint, "\x01\x01\x01\x05\x00\x01z"), sealed(api.SealLog, ""), sealed(api.SealLog, "\x01\x01"),
		sealed(api.SealLog, "\x02\x00"), sealed(api.SealLog, "\x01\x01\x01\x05\x00\x01zz"), sealed(api.SealLog, "\x01\x01\x01\x30\x00\x01z"),
	}
}

func isAt(t *testing.T, name string, d api.Disk, p api.Place, want api.Blob) {
	t.Helper()
	if b, e := At(d, p); b != want || e != api.OK {
		t.Errorf("%s: At %v: %v, %v; want %v", name, p, b, e, want)
	}
}

func noneAt(t *testing.T, name string, d api.Disk, want api.Errno, l ...api.Place) {
	t.Helper()
	for _, p := range l {
		if b, e := At(d, p); b != (api.Blob{}) || e != want {
			t.Errorf("%s: At %v: %v, %v; want %v", name, p, b, e, want)
		}
	}
}

func TestP45At(t *testing.T) {
	l := []api.Blob{data(3, 2, "xy"), {Kind: api.BInode, Ino: 3, Text: "\x00\xff\n"}, gone(47), data(3, 2, ""), data(0, 7, strings.Repeat("l", 600))}
	d := log("torn", holds(l...), holds(l[1]), holds(slices.Repeat(l[2:3], 40)...))
	for nth, b := range l {
		isAt(t, "each of some blobs", d, at(3, nth), b)
	}
	isAt(t, "the only blob", d, at(4, 0), l[1])
	for nth := range 40 {
		isAt(t, "each of many blobs", d, at(5, nth), gone(47))
	}
	noneAt(t, "behind the blobs", d, api.ErrNone, at(3, 5), at(3, 6), at(3, 40), at(3, math.MaxInt), at(4, 1), at(5, 40), at(5, 41))
	noneAt(t, "no blobs", log(holds()), api.ErrNone, at(2, 0), at(2, 1), at(2, -1))
}

func TestP45LastOfManyCells(t *testing.T) {
	d := log(slices.Repeat([]string{holds(gone(1))}, 126)...)
	d.Cells[127] = holds(gone(2))
	isAt(t, "of 128 cells", d, at(126, 0), gone(1))
	isAt(t, "of 128 cells", d, at(127, 0), gone(2))
	noneAt(t, "of 128 cells", d, api.ErrNone, at(128, 0), at(255, 0), at(258, 0))
}

// Cells 0 and 1 are never asked, whatever lies there.
func TestP45NoSuchCell(t *testing.T) {
	s := holds(gone(1), gone(2))
	no := []api.Place{{}, at(0, 1), at(1, 0), at(1, 1), at(-1, 0), at(-2, 0), at(4, 0), at(5, 0), at(128, 0), at(math.MinInt, 0), at(math.MaxInt, 0)}
	noneAt(t, "two cells more", api.Disk{Cells: []string{s, s, s, s}}, api.ErrNone, no...)
	noneAt(t, "torn cells", api.Disk{Cells: []string{"torn", "torn", "torn", "torn"}}, api.ErrNone, no...)
	noneAt(t, "one cell", api.Disk{Cells: []string{s}}, api.ErrNone, append(no, at(2, 0), at(3, 0))...)
	noneAt(t, "two cells", api.Disk{Cells: []string{s, s}}, api.ErrNone, append(no, at(2, 0), at(3, 0))...)
}

func TestP45WhatIsNoCellOfTheLog(t *testing.T) {
	for i, s := range torn() {
		name := "text " + strconv.Itoa(i)
		d := log(holds(gone(1)), s)
		noneAt(t, name, d, api.ErrCorrupt, at(3, 0), at(3, 1), at(3, 40), at(3, math.MaxInt))
		noneAt(t, name, d, api.ErrNone, at(3, -1), at(3, math.MinInt), at(2, -1), at(1, 0), at(4, 0))
		isAt(t, name, d, at(2, 0), gone(1))
	}
}

// What waits counts, the last write to a cell alone.
func TestP45Waiting(t *testing.T) {
	d := log(holds(gone(1)), "torn")
	isAt(t, "the other cell", waits(d, 3, holds(gone(2))), at(2, 0), gone(1))
	isAt(t, "over a torn one", waits(d, 3, holds(gone(2))), at(3, 0), gone(2))
	isAt(t, "in the place of one", waits(d, 2, holds(gone(2))), at(2, 0), gone(2))
	isAt(t, "the last of two", waits(waits(d, 2, "torn"), 2, holds(gone(3))), at(2, 0), gone(3))
	noneAt(t, "torn", waits(waits(d, 2, holds(gone(3))), 2, "torn"), api.ErrCorrupt, at(2, 0))
}

// wrongDisks: disks, and what disk.Check says of them.
func wrongDisks() map[api.Errno][]api.Disk {
	s, large := holds(gone(1)), strings.Repeat("l", 1025)
	many := log(s)
	many.Wait = slices.Repeat([]api.Put{{At: 2, Text: s}}, 401)
	return map[api.Errno][]api.Disk{
		api.ErrArg:   {{}, log(slices.Repeat([]string{s}, 127)...), waits(log(s), 3, s), waits(log(s), -1, s)},
		api.ErrLarge: {log(s, large), {Cells: []string{large, "", s}}, waits(log(s), 2, large), many},
	}
}

func TestP45DisksErrorFirst(t *testing.T) {
	for want, l := range wrongDisks() {
		for _, d := range l {
			noneAt(t, "a wrong disk", d, want, at(2, 0), at(2, 1), at(2, -1), at(0, 0), at(3, 0), at(200, 0))
		}
	}
	d := log("torn")
	d.Wait = slices.Repeat([]api.Put{{At: 2, Text: holds(gone(1))}}, 400)
	isAt(t, "as many waiting as may be", d, at(2, 0), gone(1))
}

// A place need not be right to be asked for: it is only not there.
func TestP45PlacesThatAreNotRight(t *testing.T) {
	d := log(holds(gone(1)))
	for _, p := range []api.Place{at(2, 40), at(2, -1), at(1, 0), at(0, 5), at(128, 0), at(2, 256), at(2, 1<<32), at(2+1<<32, 0)} {
		if !inode.Right(p) {
			noneAt(t, "not right", d, api.ErrNone, p)
		}
	}
}

// where: a map in which the inodes lie as told, all of generation 0.
func where(l map[int]api.Place) api.Imap {
	m := imap.Fresh()
	for n, p := range l {
		m.At[n] = p
	}
	return m
}

func counts(t *testing.T, name string, d api.Disk, m api.Imap, want ...int) {
	t.Helper()
	if l, e := Count(d, m); !slices.Equal(l, want) || e != api.OK {
		t.Errorf("%s: %v, %v; want %v", name, l, e, want)
	}
}

func refuses(t *testing.T, name string, d api.Disk, m api.Imap, want api.Errno) {
	t.Helper()
	if l, e := Count(d, m); len(l) != 0 || e != want {
		t.Errorf("%s: %v, %v; want %v", name, l, e, want)
	}
}

// The document's example: a file of three pressed bytes has them, and its
// inode, alive.
func TestP46Count(t *testing.T) {
	d := log(holds(data(5, 0, "\x01\x01z"), node(5, 0, at(2, 0))))
	counts(t, "in one cell", d, where(map[int]api.Place{5: at(2, 1)}), 0, 0, 3+9)
	d = log(holds(data(5, 0, "\x01\x01z")), "torn", holds(node(5, 0, at(2, 0))))
	counts(t, "in two cells", d, where(map[int]api.Place{5: at(4, 0)}), 0, 0, 3, 0, 9)
	counts(t, "nothing alive", d, imap.Fresh(), 0, 0, 0, 0, 0)
}

// One number for each cell of the disk, whatever lies there.
func TestP46EachSizeOfDisk(t *testing.T) {
	for n := 1; n <= 128; n++ {
		d := api.Disk{Cells: slices.Repeat([]string{holds(node(0, 0))}, n)}
		counts(t, "nothing alive", d, imap.Fresh(), make([]int, n)...)
		for cell := 2; cell < 128; cell++ {
			m := where(map[int]api.Place{0: at(cell, 0)})
			if cell >= n {
				refuses(t, "no such cell", d, m, api.ErrCorrupt)
				continue
			}
			want := make([]int, n)
			want[cell] = 7
			counts(t, "an inode", d, m, want...)
		}
	}
}

// What no inode of the map leads to is not alive.
func TestP46WhatIsNotAlive(t *testing.T) {
	d := log(
		holds(data(5, 0, "old"), node(5, 0, at(2, 0)), gone(6), data(6, 0, "other")),
		holds(node(6, 0, at(2, 3)), data(5, 0, "newer"), data(5, 1, "behind"), data(5, 0, "newer")),
		holds(node(5, 0, at(3, 1)), node(5, 0, at(3, 1), at(3, 2))),
		"torn",
	)
	counts(t, "the old one", d, where(map[int]api.Place{5: at(2, 1)}), 0, 0, 3+9, 0, 0, 0)
	counts(t, "the newer one", d, where(map[int]api.Place{5: at(4, 0)}), 0, 0, 0, 5, 9, 0)
	counts(t, "the longer one", d, where(map[int]api.Place{5: at(4, 1)}), 0, 0, 0, 5+6, 11, 0)
	counts(t, "the other one", d, where(map[int]api.Place{6: at(3, 0)}), 0, 0, 5, 9, 0, 0)
	counts(t, "both", d, where(map[int]api.Place{5: at(4, 1), 6: at(3, 0)}), 0, 0, 5, 9+5+6, 11, 0)
}

func TestP46PartsAndHoles(t *testing.T) {
	parts, l := make([]api.Place, 8), make([]api.Blob, 8)
	for k := range l {
		l[k] = data(9, k, strings.Repeat("p", 10+k))
	}
	for mask := range 256 {
		want := []int{0, 0, 7 + 2*8, 0}
		for k := range parts {
			parts[k] = api.Place{}
			if mask>>k&1 == 1 {
				parts[k] = at(3, k)
				want[3] += 10 + k
			}
		}
		d := log(holds(gone(1), node(9, 0, parts...)), holds(l...))
		counts(t, "mask "+strconv.Itoa(mask), d, where(map[int]api.Place{9: at(2, 1)}), want...)
	}
}

// A file's size sets how many bytes its inode has, and a blob counts as long as
// it is: what is in it is not looked at.
func TestP46Texts(t *testing.T) {
	m := where(map[int]api.Place{5: at(3, 0)})
	for _, s := range []string{"", "z", "\x00\x00", "\x01\x01z", strings.Repeat("\xff", 600)} {
		d := log(holds(data(5, 0, s)), holds(node(5, 0, at(2, 0))))
		counts(t, "a cluster", d, m, 0, 0, len(s), 9)
	}
	for parts := range 9 {
		d := log("torn", holds(node(5, 0, make([]api.Place, parts)...)))
		counts(t, "holes", d, m, 0, 0, 0, 7+2*parts)
		dir := api.Blob{Kind: api.BInode, Ino: 5, Text: text(api.NDir, 0, make([]api.Place, parts)...)}
		counts(t, "a directory", log("", holds(dir)), m, 0, 0, 0, 7+2*parts)
	}
	s, _ := inode.Write(api.Inode{Kind: api.NFile, Size: 600, Parts: []api.Place{at(2, 0), {}}})
	d := log(holds(data(5, 0, "xy")), holds(api.Blob{Kind: api.BInode, Ino: 5, Text: s}))
	counts(t, "a cluster that is not whole", d, m, 0, 0, 2, 11)
}

// Each number counts, the first and the last, with a generation of its own.
func TestP46AllNumbers(t *testing.T) {
	m, d, want := imap.Fresh(), log(slices.Repeat([]string{""}, 96)...), make([]int, 98)
	for n := range 48 {
		m.At[n], m.Gens[n] = at(2+2*n, 1), math.MaxInt32-n
		d.Cells[2+2*n] = holds(gone(n), node(n, math.MaxInt32-n, at(3+2*n, 2)))
		d.Cells[3+2*n] = holds(gone(n), gone(n), data(n, 0, strings.Repeat("d", n)))
		want[2+2*n], want[3+2*n] = 9, n
	}
	counts(t, "in cells of their own", d, m, want...)

	l := make([]api.Blob, 40)
	for n := range l {
		m.At[n], m.Gens[n], l[n] = at(2, n), n, node(n, n)
	}
	for n := range 8 {
		m.At[40+n], m.Gens[40+n] = api.Place{}, n
	}
	counts(t, "in one cell", log(holds(l...)), m, 0, 0, 7*40)
	counts(t, "in one cell, and one that is not asked", log(holds(l...), "torn"), m, 0, 0, 7*40, 0)
}

func TestP46Waiting(t *testing.T) {
	d := log(holds(data(5, 0, "old"), node(5, 0, at(2, 0))), "torn")
	m := where(map[int]api.Place{5: at(2, 1)})
	counts(t, "over another cell", waits(d, 3, "torn"), m, 0, 0, 3+9, 0)
	counts(t, "in its place", waits(d, 2, holds(data(5, 0, "newer"), node(5, 0, at(2, 0)))), m, 0, 0, 5+9, 0)
	elsewhere := waits(d, 3, holds(data(5, 0, "newer"), node(5, 0, at(2, 0))))
	counts(t, "elsewhere", elsewhere, where(map[int]api.Place{5: at(3, 1)}), 0, 0, 3, 9)
	refuses(t, "torn", waits(d, 2, "torn"), m, api.ErrCorrupt)
	counts(t, "torn, and written again", waits(waits(d, 2, "torn"), 2, d.Cells[2]), m, 0, 0, 3+9, 0)
}

func TestP46ErrorsInTheirOrder(t *testing.T) {
	right := where(map[int]api.Place{5: at(2, 1)})
	missing := where(map[int]api.Place{5: at(120, 0)})
	wrong := []api.Imap{
		{}, {At: right.At}, {Gens: right.Gens},
		{At: right.At[:47], Gens: right.Gens}, {At: right.At, Gens: right.Gens[:47]},
		{At: append(slices.Clone(right.At), api.Place{}), Gens: append(slices.Clone(right.Gens), 0)},
	}
	for _, p := range []api.Place{at(0, 1), at(1, 0), at(-1, 0), at(128, 0), at(2, 40), at(2, -1)} {
		wrong = append(wrong, where(map[int]api.Place{5: at(2, 1), 47: p}))
	}
	for _, gen := range []int{-1, 1 << 31, math.MinInt, math.MaxInt} {
		m := where(nil)
		m.Gens[47] = gen
		wrong = append(wrong, m)
	}
	for want, l := range wrongDisks() {
		for _, d := range l {
			for _, m := range append(wrong, right, missing, imap.Fresh()) {
				refuses(t, "a wrong disk", d, m, want)
			}
		}
	}
	d := log(holds(data(5, 0, "z"), node(5, 0, at(2, 0))))
	for _, m := range wrong {
		refuses(t, "a wrong map", d, m, api.ErrForm)
		refuses(t, "a wrong map of a torn disk", log("torn"), m, api.ErrForm)
	}
	counts(t, "right", d, right, 0, 0, 10)
	refuses(t, "missing", d, missing, api.ErrCorrupt)
}
