package disk

import (
	"math"
	"math/rand"
	"slices"
	"strconv"
	"strings"
	"testing"

	"linenpress/api"
)

var (
	full  = strings.Repeat("f", 1024)
	large = strings.Repeat("l", 1025)
)

// cells: a disk on which these lie, and nothing waits.
func cells(l ...string) api.Disk { return api.Disk{Cells: l} }

// waits: d with one write more that waits, without a look at it.
func waits(d api.Disk, at int, text string) api.Disk {
	return api.Disk{Cells: d.Cells, Wait: append(slices.Clone(d.Wait), api.Put{At: at, Text: text})}
}

// many: a disk of two cells on which n writes wait, no two alike.
func many(n int) api.Disk {
	d := cells("zero", "one")
	for i := range n {
		d.Wait = append(d.Wait, api.Put{At: i % 2, Text: strconv.Itoa(i)})
	}
	return d
}

func same(a, b api.Disk) bool {
	return slices.Equal(a.Cells, b.Cells) && slices.Equal(a.Wait, b.Wait)
}

func isZero(d api.Disk) bool { return len(d.Cells) == 0 && len(d.Wait) == 0 }

// slowCheck is the chapter's words: all that is wrong, in their order, of which
// the first is told.
func slowCheck(d api.Disk) api.Errno {
	wrong := []api.Errno{}
	add := func(is bool, e api.Errno) {
		if is {
			wrong = append(wrong, e)
		}
	}
	add(len(d.Cells) == 0 || len(d.Cells) > 128, api.ErrArg)
	for _, c := range d.Cells {
		add(len(c) > 1024, api.ErrLarge)
	}
	for _, p := range d.Wait {
		add(p.At < 0 || p.At > len(d.Cells)-1, api.ErrArg)
		add(len(p.Text) > 1024, api.ErrLarge)
	}
	add(len(d.Wait) > 400, api.ErrLarge)
	return append(wrong, api.OK)[0]
}

// slowCell: what lies in a cell when those writes have landed of which kept is
// true, the last one first.
func slowCell(d api.Disk, at int, kept func(i int) bool) string {
	for i := len(d.Wait) - 1; i >= 0; i-- {
		if d.Wait[i].At == at && kept(i) {
			return d.Wait[i].Text
		}
	}
	return d.Cells[at]
}

func slowLanded(d api.Disk, kept func(i int) bool) api.Disk {
	var out api.Disk
	for at := range d.Cells {
		out.Cells = append(out.Cells, slowCell(d, at, kept))
	}
	return out
}

func all(int) bool { return true }

func TestP27Make(t *testing.T) {
	for n := 1; n <= 128; n++ {
		d, e := Make(n)
		if e != api.OK || !same(d, cells(make([]string, n)...)) || Check(d) != api.OK {
			t.Errorf("Make(%d) = %v, %v", n, d, e)
		}
	}
}

func TestP27MakeWrong(t *testing.T) {
	for _, n := range []int{0, -1, -128, 129, 130, 256 + 1, 1<<32 + 1, math.MinInt, math.MaxInt} {
		if d, e := Make(n); !isZero(d) || e != api.ErrArg {
			t.Errorf("Make(%d) = %v, %v", n, d, e)
		}
	}
}

// disks: those that are right and those that are not, with what Check answers.
var disks = []struct {
	name string
	d    api.Disk
	want api.Errno
}{
	{"one cell", cells(""), api.OK},
	{"lists without anything", api.Disk{Cells: []string{"a"}, Wait: []api.Put{}}, api.OK},
	{"as many cells as may be", cells(make([]string, 128)...), api.OK},
	{"full cells", cells(full, full), api.OK},
	{"any bytes", waits(cells("\x00\xff\n"), 0, "\xfe\x00"), api.OK},
	{"a full write to the first cell", waits(cells("", "", ""), 0, full), api.OK},
	{"a full write to the last cell", waits(cells("", "", ""), 2, full), api.OK},
	{"a write of nothing", waits(cells("a"), 0, ""), api.OK},
	{"as many waiting as may be", many(400), api.OK},
	{"nothing at all", api.Disk{}, api.ErrArg},
	{"no cell", cells([]string{}...), api.ErrArg},
	{"no cell for a write", waits(api.Disk{}, 0, ""), api.ErrArg},
	{"no cell, and a large write", waits(api.Disk{}, 0, large), api.ErrArg},
	{"no cell, and too many waiting", api.Disk{Wait: make([]api.Put, 401)}, api.ErrArg},
	{"a cell too many", cells(make([]string, 129)...), api.ErrArg},
	{"far too many cells", cells(make([]string, 100000)...), api.ErrArg},
	{"a cell too many, and a large one", cells(append(make([]string, 128), large)...), api.ErrArg},
	{"a large cell", cells(large), api.ErrLarge},
	{"a large cell that is the last", cells("", full, large), api.ErrLarge},
	{"a large cell, over which a write waits", waits(cells(large), 0, "a"), api.ErrLarge},
	{"a large cell ahead of a write to none", waits(cells("", large), 2, ""), api.ErrLarge},
	{"a write just behind the last cell", waits(cells("", ""), 2, ""), api.ErrArg},
	{"a write ahead of the first cell", waits(cells("", ""), -1, ""), api.ErrArg},
	{"a write far behind", waits(cells("", ""), math.MaxInt, ""), api.ErrArg},
	{"a write far ahead", waits(cells("", ""), math.MinInt, ""), api.ErrArg},
	{"a write to none, behind others", waits(many(399), 2, ""), api.ErrArg},
	{"a large write", waits(cells("", ""), 1, large), api.ErrLarge},
	{"a large write, behind others", waits(many(399), 1, large), api.ErrLarge},
	{"a large write to no cell", waits(cells("", ""), 2, large), api.ErrArg},
	{"a large write ahead of one to none", waits(waits(cells(""), 0, large), 1, ""), api.ErrLarge},
	{"a write to none ahead of a large one", waits(waits(cells(""), 1, ""), 0, large), api.ErrArg},
	{"one too many waiting", many(401), api.ErrLarge},
	{"far too many waiting", many(100000), api.ErrLarge},
	{"one too many waiting, to no cell", waits(many(400), 2, ""), api.ErrArg},
	{"far too many waiting, the last to no cell", waits(many(10000), -1, large), api.ErrArg},
}

func TestP27Check(t *testing.T) {
	for _, x := range disks {
		if e := Check(x.d); e != x.want || e != slowCheck(x.d) {
			t.Errorf("%s: %v; want %v, and slowly %v", x.name, e, x.want, slowCheck(x.d))
		}
	}
}

// Each call answers Check's error ahead of its own.
func TestP27ChecksErrorFirst(t *testing.T) {
	for _, x := range disks {
		if x.want == api.OK {
			continue
		}
		for _, at := range []int{0, -1, 128, math.MaxInt} {
			for _, text := range []string{"", large} {
				if d, e := Write(x.d, at, text); !isZero(d) || e != x.want {
					t.Errorf("%s: Write at %d of %d bytes: %v", x.name, at, len(text), e)
				}
			}
			if s, e := Read(x.d, at); s != "" || e != x.want {
				t.Errorf("%s: Read at %d: %q, %v", x.name, at, s, e)
			}
		}
		if d, e := Sync(x.d); !isZero(d) || e != x.want {
			t.Errorf("%s: Sync: %v", x.name, e)
		}
		for _, keep := range [][]bool{nil, {true}, make([]bool, 500)} {
			if d, e := Crash(x.d, keep); !isZero(d) || e != x.want {
				t.Errorf("%s: Crash: %v", x.name, e)
			}
		}
		if w, e := Begin(x.d); w != nil || e != x.want {
			t.Errorf("%s: Begin: %v", x.name, e)
		}
	}
}

func TestP28WriteWaitsBehindTheOthers(t *testing.T) {
	d, want := cells("a", "b", "c"), cells("a", "b", "c")
	for i, p := range []api.Put{{At: 1, Text: "x"}, {At: 1, Text: "y"}, {At: 0, Text: ""}, {At: 2, Text: full}, {At: 1, Text: "x"}, {At: 2, Text: "\x00\xff"}} {
		want = waits(want, p.At, p.Text)
		var e api.Errno
		if d, e = Write(d, p.At, p.Text); e != api.OK || !same(d, want) {
			t.Fatalf("write %d: %v, %v; want %v", i, d, e, want)
		}
	}
}

func TestP28WriteToEachCell(t *testing.T) {
	d, _ := Make(128)
	for at := range 128 {
		if x, e := Write(d, at, "t"); e != api.OK || !same(x, waits(d, at, "t")) {
			t.Errorf("cell %d: %v, %v", at, x, e)
		}
	}
}

func TestP28WriteWrong(t *testing.T) {
	for _, x := range []struct {
		name string
		d    api.Disk
		at   int
		text string
		want api.Errno
	}{
		{"the last that may wait", many(399), 1, full, api.OK},
		{"one too many", many(400), 1, "", api.ErrFull},
		{"behind the last cell", cells("", ""), 2, "", api.ErrArg},
		{"ahead of the first", cells("", ""), -1, "", api.ErrArg},
		{"far behind", cells("", ""), math.MaxInt, "", api.ErrArg},
		{"far ahead", cells("", ""), math.MinInt, "", api.ErrArg},
		{"by 2^32 behind", cells("", ""), 1 << 32, "", api.ErrArg},
		{"a byte too many", cells("", ""), 1, large, api.ErrLarge},
		{"far too many", cells("", ""), 0, strings.Repeat("x", 1<<20), api.ErrLarge},
		{"no cell, a byte too many", cells(""), 1, large, api.ErrArg},
		{"no cell, too many waiting", many(400), 2, "", api.ErrArg},
		{"no cell, a byte too many, too many waiting", many(400), -1, large, api.ErrArg},
		{"a byte too many, too many waiting", many(400), 0, large, api.ErrLarge},
	} {
		want := api.Disk{}
		if x.want == api.OK {
			want = waits(x.d, x.at, x.text)
		}
		if d, e := Write(x.d, x.at, x.text); e != x.want || !same(d, want) {
			t.Errorf("%s: %v, %v; want %v", x.name, d, e, x.want)
		}
	}
}

func TestP28Read(t *testing.T) {
	d := cells("a", "b", "c", "d")
	for _, p := range []api.Put{{At: 1, Text: "x"}, {At: 2, Text: "u"}, {At: 1, Text: "y"}, {At: 2, Text: ""}, {At: 3, Text: full}} {
		d.Wait = append(d.Wait, p)
	}
	for at, want := range []string{"a", "y", "", full} {
		if s, e := Read(d, at); s != want || e != api.OK {
			t.Errorf("cell %d: %q, %v; want %q", at, s, e, want)
		}
	}
	for _, n := range []int{1, 2, 399, 400} {
		d := many(n)
		for at := range 2 {
			if s, e := Read(d, at); s != slowCell(d, at, all) || e != api.OK {
				t.Errorf("%d waiting, cell %d: %q, %v", n, at, s, e)
			}
		}
	}
}

func TestP28ReadWrong(t *testing.T) {
	for _, d := range []api.Disk{cells("a", "b"), many(400)} {
		for _, at := range []int{2, 3, 127, 128, -1, -2, 1 << 32, math.MaxInt, math.MinInt} {
			if s, e := Read(d, at); s != "" || e != api.ErrArg {
				t.Errorf("cell %d: %q, %v", at, s, e)
			}
		}
	}
}

func TestP29Sync(t *testing.T) {
	d := cells("a", "b", "c", "d")
	if x, e := Sync(d); e != api.OK || !same(x, d) {
		t.Errorf("nothing waits: %v, %v", x, e)
	}
	d = waits(waits(waits(waits(d, 1, "x"), 3, "z"), 1, "y"), 3, "")
	x, e := Sync(d)
	if want := cells("a", "y", "c", ""); e != api.OK || !same(x, want) {
		t.Errorf("%v, %v; want %v", x, e, want)
	}
	if again, e := Sync(x); e != api.OK || !same(again, x) {
		t.Errorf("again: %v, %v", again, e)
	}
	if x, e := Sync(many(400)); e != api.OK || !same(x, cells("398", "399")) {
		t.Errorf("400 waiting: %v, %v", x, e)
	}
}

func TestP29Crash(t *testing.T) {
	d := waits(waits(waits(cells("a", "b"), 0, "x"), 1, "y"), 0, "z")
	for _, x := range []struct {
		keep []bool
		want api.Disk
	}{
		{nil, cells("a", "b")},
		{[]bool{}, cells("a", "b")},
		{[]bool{false, false, false}, cells("a", "b")},
		{[]bool{true}, cells("x", "b")},
		{[]bool{true, false}, cells("x", "b")},
		{[]bool{false, true}, cells("a", "y")},
		{[]bool{true, true}, cells("x", "y")},
		{[]bool{false, false, true}, cells("z", "b")},
		{[]bool{true, false, true}, cells("z", "b")},
		{[]bool{true, true, true}, cells("z", "y")},
		{[]bool{true, true, false}, cells("x", "y")},
		{[]bool{true, true, false, true, true, true}, cells("x", "y")},
		{append(make([]bool, 3), slices.Repeat([]bool{true}, 1000)...), cells("a", "b")},
	} {
		if c, e := Crash(d, x.keep); e != api.OK || !same(c, x.want) {
			t.Errorf("keep %v: %v, %v; want %v", x.keep, c, e, x.want)
		}
	}
	if c, e := Crash(cells("a"), []bool{true, true}); e != api.OK || !same(c, cells("a")) {
		t.Errorf("nothing waits: %v, %v", c, e)
	}
}

// The document's example: of two writes that wait the second alone may land.
func TestP29TheSecondAlone(t *testing.T) {
	for _, at := range []int{0, 1} {
		d := waits(waits(cells("", ""), 0, "first"), at, "second")
		want := cells("", "")
		want.Cells[at] = "second"
		if c, e := Crash(d, []bool{false, true}); e != api.OK || !same(c, want) {
			t.Errorf("%v, %v; want %v", c, e, want)
		}
	}
}

// A crash that keeps all is a sync; one that keeps the 400th alone has it land.
func TestP29CrashOfManyWrites(t *testing.T) {
	keep := slices.Repeat([]bool{true}, 400)
	if c, e := Crash(many(400), keep); e != api.OK || !same(c, cells("398", "399")) {
		t.Errorf("%v, %v", c, e)
	}
	clear(keep[:399])
	if c, e := Crash(many(400), keep); e != api.OK || !same(c, cells("zero", "399")) {
		t.Errorf("%v, %v", c, e)
	}
}

func someDisk(r *rand.Rand) api.Disk {
	var d api.Disk
	for range 1 + r.Intn(5) {
		d.Cells = append(d.Cells, strconv.Itoa(r.Intn(1000)))
	}
	for range r.Intn(12) {
		d.Wait = append(d.Wait, api.Put{At: r.Intn(len(d.Cells)), Text: strconv.Itoa(r.Intn(1000))})
	}
	return d
}

func someKeep(r *rand.Rand, most int) []bool {
	keep := make([]bool, r.Intn(most+1))
	for i := range keep {
		keep[i] = r.Intn(2) == 0
	}
	return keep
}

func TestP27ToP29AnyDisk(t *testing.T) {
	r := rand.New(rand.NewSource(29))
	for range 5000 {
		d, keep := someDisk(r), someKeep(r, 14)
		if e := Check(d); e != api.OK {
			t.Fatal(d, e)
		}
		for at := range d.Cells {
			if s, e := Read(d, at); s != slowCell(d, at, all) || e != api.OK {
				t.Fatalf("Read(%v, %d) = %q, %v", d, at, s, e)
			}
		}
		if x, e := Sync(d); e != api.OK || !same(x, slowLanded(d, all)) {
			t.Fatalf("Sync(%v) = %v, %v", d, x, e)
		}
		kept := func(i int) bool { return i < len(keep) && keep[i] }
		if x, e := Crash(d, keep); e != api.OK || !same(x, slowLanded(d, kept)) {
			t.Fatalf("Crash(%v, %v) = %v, %v", d, keep, x, e)
		}
	}
}
