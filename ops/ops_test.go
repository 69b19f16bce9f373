package ops

import (
	"math"
	"math/rand"
	"slices"
	"strconv"
	"strings"
	"testing"

	"linenpress/api"
	"linenpress/disk"
)

var large = strings.Repeat("l", 1025)

func put(at int, text string) api.Op { return api.Op{Kind: api.OWrite, At: at, Text: text} }

func sync() api.Op { return api.Op{Kind: api.OSync} }

func cells(l ...string) api.Disk { return api.Disk{Cells: l} }

// puts: n writes, no two alike, by turns to cells 0 and 1.
func puts(n int) []api.Op {
	var l []api.Op
	for i := range n {
		l = append(l, put(i%2, strconv.Itoa(i)))
	}
	return l
}

func same(a, b api.Disk) bool {
	return slices.Equal(a.Cells, b.Cells) && slices.Equal(a.Wait, b.Wait)
}

func isZero(d api.Disk) bool { return len(d.Cells) == 0 && len(d.Wait) == 0 }

// slowPlay is the chapter's words: disk's own calls, one by one.
func slowPlay(d api.Disk, l []api.Op) (api.Disk, api.Errno) {
	if e := disk.Check(d); e != api.OK {
		return api.Disk{}, e
	}
	for _, o := range l {
		e := api.ErrForm
		switch {
		case o.Kind == 1:
			d, e = disk.Write(d, o.At, o.Text)
		case o.Kind == 2 && o.At == 0 && o.Text == "":
			d, e = disk.Sync(d)
		}
		if e != api.OK {
			return api.Disk{}, e
		}
	}
	return d, api.OK
}

// slowUntil is the chapter's words.
func slowUntil(d api.Disk, l []api.Op, n int, keep []bool) (api.Disk, api.Errno) {
	if n < 0 {
		return api.Disk{}, api.ErrArg
	}
	if n < len(l) {
		l = l[:n]
	}
	d, e := slowPlay(d, l)
	if e != api.OK {
		return api.Disk{}, e
	}
	return disk.Crash(d, keep)
}

// slowLean is the chapter's words: of each write all that is behind it is looked
// through, up to the next op that is no write.
func slowLean(l []api.Op) []api.Op {
	var out []api.Op
	for i, o := range l {
		again := false
		for j := i + 1; j < len(l) && l[j].Kind == 1; j++ {
			again = again || l[j].At == o.At
		}
		if o.Kind != 1 || !again {
			out = append(out, o)
		}
	}
	return out
}

func TestP30Play(t *testing.T) {
	for _, x := range []struct {
		name string
		d    api.Disk
		l    []api.Op
		want api.Disk
	}{
		{"nothing", cells("a"), nil, cells("a")},
		{"no ops", cells("a"), []api.Op{}, cells("a")},
		{"a write", cells("a", "b"), []api.Op{put(1, "x")}, api.Disk{Cells: []string{"a", "b"}, Wait: []api.Put{{At: 1, Text: "x"}}}},
		{"a write of nothing", cells("a"), []api.Op{put(0, "")}, api.Disk{Cells: []string{"a"}, Wait: []api.Put{{}}}},
		{"a sync alone", cells("a"), []api.Op{sync()}, cells("a")},
		{"a write and a sync", cells("a", "b"), []api.Op{put(1, "x"), sync()}, cells("a", "x")},
		{"the last of two lands", cells("a", "b"), []api.Op{put(1, "x"), put(1, "y"), sync(), sync()}, cells("a", "y")},
		{"behind a sync it waits", cells("a"), []api.Op{put(0, "x"), sync(), put(0, "y"), put(0, "z")}, api.Disk{Cells: []string{"x"}, Wait: []api.Put{{Text: "y"}, {Text: "z"}}}},
		{"behind what waits already", api.Disk{Cells: []string{"a"}, Wait: []api.Put{{Text: "w"}}}, []api.Op{put(0, "x")}, api.Disk{Cells: []string{"a"}, Wait: []api.Put{{Text: "w"}, {Text: "x"}}}},
		{"what waits already lands", api.Disk{Cells: []string{"a"}, Wait: []api.Put{{Text: "w"}}}, []api.Op{sync()}, cells("w")},
		{"400 and again 400", cells("a", "b"), slices.Concat(puts(400), []api.Op{sync()}, puts(400), []api.Op{sync()}), cells("398", "399")},
	} {
		if d, e := Play(x.d, x.l); e != api.OK || !same(d, x.want) {
			t.Errorf("%s: %v, %v; want %v", x.name, d, e, x.want)
		}
	}
}

// wrong: lists that are refused on a disk of two cells, at which op, and why.
var wrong = []struct {
	name string
	l    []api.Op
	at   int
	want api.Errno
}{
	{"kind 0", []api.Op{{}}, 0, api.ErrForm},
	{"kind 3", []api.Op{{Kind: 3}}, 0, api.ErrForm},
	{"kind -1", []api.Op{{Kind: -1}}, 0, api.ErrForm},
	{"kinds that are 1 and 2 in fewer bits", []api.Op{{Kind: 1<<32 + 1}, {Kind: 1<<32 + 2}}, 0, api.ErrForm},
	{"the greatest kind", []api.Op{{Kind: math.MaxInt}}, 0, api.ErrForm},
	{"the least kind, large", []api.Op{{Kind: math.MinInt, At: -1, Text: large}}, 0, api.ErrForm},
	{"a sync at 1", []api.Op{{Kind: api.OSync, At: 1}}, 0, api.ErrForm},
	{"a sync at -1", []api.Op{{Kind: api.OSync, At: -1}}, 0, api.ErrForm},
	{"a sync with a text", []api.Op{{Kind: api.OSync, Text: "x"}}, 0, api.ErrForm},
	{"a sync with a large text", []api.Op{{Kind: api.OSync, At: 5, Text: large}}, 0, api.ErrForm},
	{"a write to no cell", []api.Op{put(2, "x")}, 0, api.ErrArg},
	{"a write ahead of all cells", []api.Op{put(-1, "x")}, 0, api.ErrArg},
	{"a large write", []api.Op{put(1, large)}, 0, api.ErrLarge},
	{"a large write to no cell", []api.Op{put(2, large)}, 0, api.ErrArg},
	{"a write too many", puts(401), 400, api.ErrFull},
	{"a write too many, ahead of a sync", append(puts(401), sync()), 400, api.ErrFull},
	{"a write too many behind a sync", slices.Concat(puts(1), []api.Op{sync()}, puts(401)), 402, api.ErrFull},
	{"too many, to no cell", append(puts(400), put(2, "x")), 400, api.ErrArg},
	{"too many, and large", append(puts(400), put(1, large)), 400, api.ErrLarge},
	{"the first that is refused, form", []api.Op{put(0, "x"), {}, put(2, "x"), put(0, large)}, 1, api.ErrForm},
	{"the first that is refused, cell", []api.Op{put(0, "x"), sync(), put(2, "x"), {}, put(0, large)}, 2, api.ErrArg},
	{"the first that is refused, large", []api.Op{put(0, large), {}, put(2, "x")}, 0, api.ErrLarge},
	{"the first that is refused, full", append(puts(401), api.Op{}), 400, api.ErrFull},
	{"the last", append(puts(20), sync(), api.Op{Kind: 3}), 21, api.ErrForm},
}

func TestP30PlayWrong(t *testing.T) {
	for _, x := range wrong {
		if d, e := Play(cells("a", "b"), x.l); !isZero(d) || e != x.want {
			t.Errorf("%s: %v, %v; want %v", x.name, d, e, x.want)
		}
	}
}

// badDisks: disks that disk.Check refuses, one with each of its errors' causes.
func badDisks() []api.Disk {
	return []api.Disk{
		{},
		cells(make([]string, 129)...),
		cells("", large),
		{Cells: []string{""}, Wait: []api.Put{{At: 1}}},
		{Cells: []string{""}, Wait: []api.Put{{Text: large}}},
		{Cells: []string{""}, Wait: make([]api.Put, 401)},
	}
}

// disk.Check's error comes ahead of what is wrong with an op, whatever would be
// done; below 0 alone comes ahead of it.
func TestP30ChecksError(t *testing.T) {
	for i, d := range badDisks() {
		want := disk.Check(d)
		for _, l := range [][]api.Op{nil, {sync()}, {{}}, {put(-1, large)}} {
			if x, e := Play(d, l); !isZero(x) || e != want || e == api.OK {
				t.Errorf("disk %d: Play of %v: %v, %v; want %v", i, l, x, e, want)
			}
			for n := range 3 {
				if x, e := Until(d, l, n, []bool{true}); !isZero(x) || e != want {
					t.Errorf("disk %d: Until of %v, %d: %v, %v; want %v", i, l, n, x, e, want)
				}
			}
			if x, e := Until(d, l, -1, nil); !isZero(x) || e != api.ErrArg {
				t.Errorf("disk %d: Until below 0: %v, %v", i, x, e)
			}
		}
	}
}

func TestP30Until(t *testing.T) {
	l := []api.Op{put(0, "w"), put(1, "x"), sync(), put(0, "y"), put(0, "z")}
	yes, no := true, false
	for _, x := range []struct {
		n    int
		keep []bool
		want api.Disk
	}{
		{0, nil, cells("a", "b")},
		{0, []bool{yes, yes}, cells("a", "b")},
		{1, nil, cells("a", "b")},
		{1, []bool{yes}, cells("w", "b")},
		{2, []bool{yes}, cells("w", "b")},
		{2, []bool{no, yes}, cells("a", "x")},
		{2, []bool{yes, yes, yes}, cells("w", "x")},
		{3, nil, cells("w", "x")},
		{4, nil, cells("w", "x")},
		{4, []bool{yes}, cells("y", "x")},
		{5, []bool{yes, no}, cells("y", "x")},
		{5, []bool{no, yes}, cells("z", "x")},
		{5, []bool{yes, yes}, cells("z", "x")},
		{6, []bool{yes}, cells("y", "x")},
		{math.MaxInt, []bool{no, yes}, cells("z", "x")},
	} {
		if d, e := Until(cells("a", "b"), l, x.n, x.keep); e != api.OK || !same(d, x.want) {
			t.Errorf("%d, keep %v: %v, %v; want %v", x.n, x.keep, d, e, x.want)
		}
	}
}

// What waited ahead of all ops is the first of what keep tells.
func TestP30UntilOfWhatWaited(t *testing.T) {
	d := api.Disk{Cells: []string{"a", "b"}, Wait: []api.Put{{At: 0, Text: "v"}}}
	for n, want := range []api.Disk{cells("a", "b"), cells("a", "w")} {
		if x, e := Until(d, []api.Op{put(1, "w")}, n, []bool{false, true}); e != api.OK || !same(x, want) {
			t.Errorf("%d: %v, %v; want %v", n, x, e, want)
		}
	}
}

// Of the ops behind the first n nothing is seen, also of what is wrong with them.
func TestP30UntilWrong(t *testing.T) {
	for _, x := range wrong {
		for _, n := range []int{-1, -2, math.MinInt} {
			if d, e := Until(cells("a", "b"), x.l, n, []bool{true}); !isZero(d) || e != api.ErrArg {
				t.Errorf("%s, below 0: %v, %v", x.name, d, e)
			}
		}
		if d, e := Until(cells("a", "b"), x.l, x.at, nil); e != api.OK || len(d.Cells) != 2 || len(d.Wait) != 0 {
			t.Errorf("%s, just ahead of it: %v, %v", x.name, d, e)
		}
		for _, n := range []int{x.at + 1, len(x.l), len(x.l) + 1, math.MaxInt} {
			if d, e := Until(cells("a", "b"), x.l, n, []bool{true}); !isZero(d) || e != x.want {
				t.Errorf("%s, the first %d: %v, %v; want %v", x.name, n, d, e, x.want)
			}
		}
	}
}

func TestP31Lean(t *testing.T) {
	none, three := api.Op{At: 1, Text: "n"}, api.Op{Kind: 3, At: 1, Text: "t"}
	badSync := api.Op{Kind: api.OSync, At: 1, Text: "s"}
	a, b, c, d := put(1, "a"), put(1, "b"), put(2, "c"), put(2, "d")
	for _, x := range []struct {
		name    string
		l, want []api.Op
	}{
		{"nothing", nil, nil},
		{"no ops", []api.Op{}, nil},
		{"one", []api.Op{a}, []api.Op{a}},
		{"two to one cell", []api.Op{a, b}, []api.Op{b}},
		{"two to two cells", []api.Op{a, c}, []api.Op{a, c}},
		{"the document's", []api.Op{a, b, sync()}, []api.Op{b, sync()}},
		{"the same twice", []api.Op{a, a}, []api.Op{a}},
		{"three to one cell", []api.Op{a, b, a}, []api.Op{a}},
		{"by turns", []api.Op{a, c, b, d}, []api.Op{b, d}},
		{"one within two", []api.Op{a, c, b}, []api.Op{c, b}},
		{"a sync between", []api.Op{a, sync(), b}, []api.Op{a, sync(), b}},
		{"syncs stay", []api.Op{sync(), sync(), a, sync(), sync()}, []api.Op{sync(), sync(), a, sync(), sync()}},
		{"on both sides of a sync", []api.Op{a, b, sync(), c, d, sync(), b, a}, []api.Op{b, sync(), d, sync(), a}},
		{"only up to the next sync", []api.Op{a, c, sync(), b, sync(), d}, []api.Op{a, c, sync(), b, sync(), d}},
		{"a sync at 1 between", []api.Op{a, badSync, b}, []api.Op{a, badSync, b}},
		{"a kind that is none between", []api.Op{a, none, b, three, a}, []api.Op{a, none, b, three, a}},
		{"kinds that are none are no writes", []api.Op{none, none, three, three, a, none}, []api.Op{none, none, three, three, a, none}},
		{"cells that are none", []api.Op{put(-1, "x"), put(math.MaxInt, "y"), put(-1, large), put(math.MaxInt, "")}, []api.Op{put(-1, large), put(math.MaxInt, "")}},
		{"cells far from each other", []api.Op{put(0, "x"), put(1<<32, "y"), put(256, "z"), put(math.MinInt, "")}, []api.Op{put(0, "x"), put(1<<32, "y"), put(256, "z"), put(math.MinInt, "")}},
	} {
		if got := Lean(x.l); !slices.Equal(got, x.want) || !slices.Equal(got, slowLean(x.l)) {
			t.Errorf("%s: %v; want %v", x.name, got, x.want)
		}
	}
}

func someOps(r *rand.Rand, n int) []api.Op {
	var l []api.Op
	for range r.Intn(n + 1) {
		o := put(r.Intn(3), strconv.Itoa(r.Intn(100)))
		switch r.Intn(40) {
		case 0, 1, 2, 3, 4, 5, 6:
			o = sync()
		case 7:
			o = api.Op{Kind: r.Intn(5) - 1, At: r.Intn(3), Text: o.Text}
		case 8:
			o.At = r.Intn(6) - 1
		}
		l = append(l, o)
	}
	return l
}

// Each of the ends must come up often, or the test has no worth.
func TestP30P31AnyOps(t *testing.T) {
	r := rand.New(rand.NewSource(30))
	seen := map[api.Errno]int{}
	for range 5000 {
		l, n := someOps(r, 25), r.Intn(28)-1
		d := api.Disk{Cells: []string{"a", "b", "c"}, Wait: make([]api.Put, r.Intn(3))}
		keep := make([]bool, r.Intn(20))
		for i := range keep {
			keep[i] = r.Intn(2) == 0
		}
		got, e := Play(d, l)
		if want, f := slowPlay(d, l); e != f || !same(got, want) {
			t.Fatalf("Play(%v, %v) = %v, %v; want %v, %v", d, l, got, e, want, f)
		}
		seen[e]++
		got, e = Until(d, l, n, keep)
		if want, f := slowUntil(d, l, n, keep); e != f || !same(got, want) {
			t.Fatalf("Until(%v, %v, %d, %v) = %v, %v; want %v, %v", d, l, n, keep, got, e, want, f)
		}
		if lean := Lean(l); !slices.Equal(lean, slowLean(l)) {
			t.Fatalf("Lean(%v) = %v; want %v", l, lean, slowLean(l))
		}
	}
	for _, e := range []api.Errno{api.OK, api.ErrForm, api.ErrArg} {
		if seen[e] < 200 {
			t.Errorf("answer %v came %d times", e, seen[e])
		}
	}
}

// crashes: what is on the disk behind each crash that may come on the way of l.
func crashes(t *testing.T, d api.Disk, l []api.Op) map[string]int {
	t.Helper()
	left := map[string]int{}
	for n := range len(l) + 1 {
		for kept := range 1 << n {
			keep := make([]bool, n)
			for i := range keep {
				keep[i] = kept>>i&1 == 1
			}
			x, e := Until(d, l, n, keep)
			if e != api.OK {
				t.Fatalf("Until(%v, %v, %d): %v", d, l, n, e)
			}
			left[strings.Join(x.Cells, "|")]++
		}
	}
	return left
}

// What Play leaves reads the same, and no crash leaves what none left ahead.
func TestP31WhatLeanLeaves(t *testing.T) {
	r := rand.New(rand.NewSource(31))
	d := cells("a", "b")
	for range 300 {
		l := puts(r.Intn(7))
		for i := range l {
			if l[i].At = r.Intn(2); r.Intn(4) == 0 {
				l[i] = sync()
			}
		}
		lean := Lean(l)
		x, e := Play(d, l)
		y, f := Play(d, lean)
		if e != api.OK || f != api.OK {
			t.Fatal(l, e, lean, f)
		}
		for at := range 2 {
			s, _ := disk.Read(x, at)
			if got, _ := disk.Read(y, at); got != s {
				t.Fatalf("%v, lean %v: cell %d is %q; want %q", l, lean, at, got, s)
			}
		}
		may := crashes(t, d, l)
		for left := range crashes(t, d, lean) {
			if may[left] == 0 {
				t.Fatalf("%v, lean %v: a crash leaves %s", l, lean, left)
			}
		}
	}
}
