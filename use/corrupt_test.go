package use

import (
	"math"
	"math/rand"
	"slices"
	"strconv"
	"testing"

	"linenpress/api"
	"linenpress/imap"
	"linenpress/inode"
)

// right: a disk of five cells in which inode 5, of generation 3, has two parts;
// inode 6 is right too, and stands ahead of what tests make wrong.
func right() (api.Disk, api.Imap) {
	d := log(
		holds(data(5, 0, "zero"), gone(4), node(5, 3, at(2, 0), at(3, 1))),
		holds(data(6, 1, "of 6"), data(5, 1, "one"), data(5, 2, "two"), node(6, 0)),
		"torn",
	)
	m := where(map[int]api.Place{5: at(2, 2), 6: at(3, 3)})
	m.Gens[5] = 3
	return d, m
}

func TestP46RightAsItIs(t *testing.T) {
	d, m := right()
	counts(t, "right", d, m, 0, 0, 4+11, 3+7, 0)
	m.Gens[4], m.Gens[47] = 9, math.MaxInt32 // of numbers without an inode
	counts(t, "other generations", d, m, 0, 0, 4+11, 3+7, 0)
}

func TestP46WhereNoInodeOfTheNumberLies(t *testing.T) {
	d, m := right()
	for _, p := range []api.Place{
		at(4, 0), at(5, 0), at(127, 39), // no cell of the log, or no cell
		at(2, 3), at(2, 39), at(3, 4), // no blob
		at(2, 0), at(3, 1), // its data
		at(2, 1), at(3, 0), // of others
		at(3, 3), // the inode of another
	} {
		m.At[5] = p
		refuses(t, "inode at "+strconv.Itoa(p.Cell)+", "+strconv.Itoa(p.Nth), d, m, api.ErrCorrupt)
	}
	d.Cells[2] = holds(data(5, 0, "zero"), gone(4), gone(5))
	m.At[5] = at(2, 2)
	refuses(t, "it is gone", d, m, api.ErrCorrupt)
	d.Cells[2] = holds(data(5, 0, "zero"), gone(4), data(5, 0, text(api.NFile, 3)))
	refuses(t, "an inode as data", d, m, api.ErrCorrupt)
	for i, s := range torn() {
		d.Cells[2] = s
		refuses(t, "text "+strconv.Itoa(i), d, m, api.ErrCorrupt)
	}
}

// Two numbers never lie at one place, nor two parts.
func TestP46TwoAtOnePlace(t *testing.T) {
	d, m := right()
	m.At[7] = m.At[5]
	refuses(t, "two inodes", d, m, api.ErrCorrupt)
	m.Gens[7] = m.Gens[5]
	refuses(t, "two inodes of one generation", d, m, api.ErrCorrupt)
	d, m = right()
	d.Cells[2] = holds(data(5, 0, "zero"), gone(4), node(5, 3, at(2, 0), at(2, 0)))
	refuses(t, "two parts", d, m, api.ErrCorrupt)
	d.Cells[3] = holds(data(6, 1, "of 6"), data(5, 1, "one"), node(6, 0, api.Place{}, at(3, 0)), node(6, 0, at(2, 0)))
	d.Cells[2] = holds(data(5, 0, "zero"), gone(4), node(5, 3, at(2, 0), at(3, 1)))
	refuses(t, "parts of two inodes", d, m, api.ErrCorrupt)
	m.At[6] = at(3, 2)
	counts(t, "parts of their own", d, m, 0, 0, 4+11, 3+4+11, 0)
}

func TestP46Generations(t *testing.T) {
	d, m := right()
	for _, gen := range []int{0, 1, 2, 4, 3 + 1<<8, 3 + 1<<16, 3 + 1<<24, math.MaxInt32} {
		m.Gens[5] = gen
		refuses(t, "of another generation", d, m, api.ErrCorrupt)
	}
	m.Gens[5] = 3
	m.Gens[6] = 1
	refuses(t, "another one of another generation", d, m, api.ErrCorrupt)
	for _, gen := range []int{0, 1, 256, math.MaxInt32 - 1, math.MaxInt32} {
		m := where(map[int]api.Place{47: at(2, 0)})
		m.Gens[47] = gen
		counts(t, "of its generation", log(holds(node(47, gen))), m, 0, 0, 7)
	}
}

func TestP46InodesThatAreNotRead(t *testing.T) {
	good := text(api.NFile, 0, api.Place{}, api.Place{})
	for i, s := range []string{
		"", "z", good[:7], good[:9], good[:10], good + "\x00", good + "\x00\x00",
		"\x00" + good[1:], "\x03" + good[1:], "\x01\x80" + good[2:], good[:5] + "\x02\x00" + good[7:],
		good[:7] + "\x01\x00\x00\x00", good[:7] + "\x00\x01\x00\x00", good[:7] + "\x80\x00\x00\x00", good[:7] + "\x02\x28\x00\x00",
	} {
		d := log(holds(api.Blob{Kind: api.BInode, Ino: 5, Text: s}))
		refuses(t, "inode "+strconv.Itoa(i), d, where(map[int]api.Place{5: at(2, 0)}), api.ErrCorrupt)
		counts(t, "inode that is not alive "+strconv.Itoa(i), d, imap.Fresh(), 0, 0, 0)
	}
}

// Each part must be as it must be, the first, one in the midst, and the last.
func TestP46WhereNoPartLies(t *testing.T) {
	for k := range 8 {
		for _, wrong := range []struct {
			name string
			at   api.Place
			b    api.Blob
		}{
			{"no cell", at(5, 0), data(5, k, "z")},
			{"no cell of any disk", at(127, 39), data(5, k, "z")},
			{"no cell of the log", at(4, 0), data(5, k, "z")},
			{"no blob", at(3, 8), data(5, k, "z")},
			{"an inode", at(3, k), node(5, 0)},
			{"gone", at(3, k), gone(5)},
			{"of another inode", at(3, k), data(6, k, "z")},
			{"of another inode", at(3, k), data(0, k, "z")},
			{"another part", at(3, k), data(5, (k+1)%8, "z")},
			{"another part", at(3, k), data(5, (k+7)%8, "z")},
		} {
			parts, l := make([]api.Place, 8), make([]api.Blob, 8)
			for i := range parts {
				parts[i], l[i] = at(3, i), data(5, i, "z")
			}
			m := where(map[int]api.Place{5: at(2, 0), 7: at(2, 1)})
			d := log(holds(node(5, 0, parts...), node(7, 0)), holds(l...), "torn")
			counts(t, wrong.name+", righted", d, m, 0, 0, 23+7, 8, 0)
			parts[k], l[k] = wrong.at, wrong.b
			d = log(holds(node(5, 0, parts...), node(7, 0)), holds(l...), "torn")
			refuses(t, wrong.name, d, m, api.ErrCorrupt)
			parts[k] = api.Place{}
			d = log(holds(node(5, 0, parts...), node(7, 0)), holds(l...), "torn")
			counts(t, wrong.name+", a hole", d, m, 0, 0, 23+7, 7, 0)
		}
	}
}

// slowCount: first which places are alive, then what each blob there has.
func slowCount(cells [][]api.Blob, m api.Imap) ([]int, bool) {
	alive := map[api.Place]bool{}
	lies := func(p api.Place, kind, ino, nth int) string {
		if p.Cell < len(cells) && p.Nth < len(cells[p.Cell]) {
			b := cells[p.Cell][p.Nth]
			alive[p] = b.Kind == kind && b.Ino == ino && b.Nth == nth
			return b.Text
		}
		alive[p] = false
		return ""
	}
	for n, p := range m.At {
		if p == (api.Place{}) {
			continue
		}
		x, e := inode.Read(lies(p, api.BInode, n, 0))
		if !alive[p] || e != api.OK || x.Gen != m.Gens[n] {
			return nil, false
		}
		for k, part := range x.Parts {
			if lies(part, api.BData, n, k); part == (api.Place{}) {
				delete(alive, part)
			} else if !alive[part] {
				return nil, false
			}
		}
	}
	out := make([]int, len(cells))
	for cell, l := range cells {
		for nth, b := range l {
			if alive[at(cell, nth)] {
				out[cell] += len(b.Text)
			}
		}
	}
	return out, true
}

// some: a disk as lists of blobs, and a map: inodes with parts here and there,
// and what is left of others.
func some(r *rand.Rand) ([][]api.Blob, api.Imap) {
	cells, m := make([][]api.Blob, 3+r.Intn(20)), imap.Fresh()
	put := func(b api.Blob) api.Place {
		cell := 2 + r.Intn(len(cells)-2)
		if len(cells[cell]) > 8 {
			return api.Place{}
		}
		cells[cell] = append(cells[cell], b)
		return at(cell, len(cells[cell])-1)
	}
	for range r.Intn(30) {
		n := r.Intn(48)
		m.Gens[n] = r.Intn(300)
		parts := make([]api.Place, r.Intn(9))
		for k := range parts {
			if r.Intn(4) != 0 {
				parts[k] = put(data(n, k, string(make([]byte, r.Intn(60)))))
			}
		}
		m.At[n] = put(node(n, m.Gens[n], parts...))
		if r.Intn(6) == 0 {
			put(gone(n))
		}
	}
	return cells, m
}

// harm: one thing that is not as it was.
func harm(r *rand.Rand, cells [][]api.Blob, m api.Imap) {
	cell, n := 2+r.Intn(len(cells)-2), r.Intn(48)
	l := cells[cell]
	switch k := r.Intn(6); {
	case k == 0:
		m.Gens[n]++
	case k == 1:
		m.At[n] = at(2+r.Intn(len(cells)), r.Intn(10))
	case len(l) == 0:
	case k == 2:
		cells[cell] = l[1:]
	case k == 3:
		l[r.Intn(len(l))] = gone(n)
	case k == 4:
		l[r.Intn(len(l))].Ino = n
	default:
		cells[cell] = nil
	}
}

func TestP45P46AnyDisk(t *testing.T) {
	r := rand.New(rand.NewSource(46))
	right, wrong := 0, 0
	for range 6000 {
		cells, m := some(r)
		for range r.Intn(3) {
			harm(r, cells, m)
		}
		d := api.Disk{Cells: make([]string, len(cells))}
		for i, l := range cells {
			d.Cells[i] = holds(l...)
			if l == nil && r.Intn(2) == 0 { // without a blob it is all one whether it is torn
				d.Cells[i] = "torn"
			}
			for nth, b := range l {
				isAt(t, "any", api.Disk{Cells: d.Cells[:i+1]}, at(i, nth), b)
			}
		}
		if cell := r.Intn(len(cells)); r.Intn(4) == 0 { // the same to be read, though it waits
			d = waits(d, cell, d.Cells[cell])
			d.Cells = slices.Clone(d.Cells)
			d.Cells[cell] = "torn"
		}
		if want, ok := slowCount(cells, m); ok {
			counts(t, "any", d, m, want...)
			right++
		} else {
			refuses(t, "any", d, m, api.ErrCorrupt)
			wrong++
		}
	}
	if right < 1500 || wrong < 1500 {
		t.Error(right, wrong)
	}
}
