package disk

import (
	"slices"
	"strings"
	"testing"
	"unsafe"

	"linenpress/api"
)

// roomy: a disk behind whose lists there is room, and the room's texts.
func roomy() api.Disk {
	return api.Disk{
		Cells: []string{"a", "b", "behind", "behind"},
		Wait:  []api.Put{{At: 0, Text: "w"}, {At: 1, Text: "x"}, {At: 0, Text: "y"}, {At: 7, Text: "behind"}, {At: 8, Text: "behind"}},
	}
}

// spoil writes over all of a disk, the room behind its lists included.
func spoil(d api.Disk) {
	for i := range d.Cells[:cap(d.Cells)] {
		d.Cells[:cap(d.Cells)][i] = "spoilt"
	}
	for i := range d.Wait[:cap(d.Wait)] {
		d.Wait[:cap(d.Wait)][i] = api.Put{At: 99, Text: "spoilt"}
	}
}

func texts(d api.Disk) []string {
	l := slices.Clone(d.Cells)
	for _, p := range d.Wait {
		l = append(l, p.Text)
	}
	return l
}

// sharesText: whether s is given as a piece of whole's memory.
func sharesText(s, whole string) bool {
	if s == "" || whole == "" {
		return false
	}
	from, at := uintptr(unsafe.Pointer(unsafe.StringData(whole))), uintptr(unsafe.Pointer(unsafe.StringData(s)))
	return from <= at && at < from+uintptr(len(whole))
}

// calls: each call that makes a disk of another.
var calls = []struct {
	name string
	do   func(api.Disk) (api.Disk, api.Errno)
}{
	{"Write", func(d api.Disk) (api.Disk, api.Errno) { return Write(d, 1, "new") }},
	{"Write to no cell", func(d api.Disk) (api.Disk, api.Errno) { return Write(d, 2, "new") }},
	{"Sync", Sync},
	{"Crash", func(d api.Disk) (api.Disk, api.Errno) { return Crash(d, []bool{true, false, true}) }},
	{"Crash that loses all", func(d api.Disk) (api.Disk, api.Errno) { return Crash(d, nil) }},
}

func TestP2DisksStayAsTheyWere(t *testing.T) {
	for _, c := range calls {
		whole := roomy()
		d := api.Disk{Cells: whole.Cells[:2], Wait: whole.Wait[:3]}
		out, _ := c.do(d)
		if !same(whole, roomy()) {
			t.Errorf("%s changed what was handed in: %v", c.name, whole)
		}
		spoil(out)
		if !same(whole, roomy()) {
			t.Errorf("%s: the answer's memory is the argument's: %v", c.name, whole)
		}
	}
	whole := roomy()
	Read(api.Disk{Cells: whole.Cells[:2], Wait: whole.Wait[:3]}, 0)
	Check(api.Disk{Cells: whole.Cells[:2], Wait: whole.Wait[:3]})
	if !same(whole, roomy()) {
		t.Errorf("Read or Check changed what was handed in: %v", whole)
	}
}

func TestP2KeepStaysAsItWas(t *testing.T) {
	keep := []bool{true, false, true, false, true}
	was := slices.Clone(keep)
	for n := range len(keep) + 1 {
		if Crash(many(4), keep[:n]); !slices.Equal(keep, was) {
			t.Fatal(keep)
		}
	}
}

// What is done to a disk later is not to be seen in one that was answered.
func TestP2DisksGoTheirOwnWays(t *testing.T) {
	first, _ := Write(cells("a", "b"), 0, "x")
	one, _ := Write(first, 1, "one")
	two, _ := Write(first, 1, "two")
	if !same(one, waits(first, 1, "one")) || !same(two, waits(first, 1, "two")) || len(first.Wait) != 1 {
		t.Error(first, one, two)
	}
	synced, _ := Sync(one)
	spoil(one)
	if !same(synced, cells("x", "one")) || !same(two, waits(first, 1, "two")) {
		t.Error(synced, two)
	}
}

func TestP2TextsAreNew(t *testing.T) {
	text := strings.Repeat("t", 40)
	d := waits(waits(cells(strings.Repeat("a", 20), strings.Repeat("b", 20)), 1, strings.Repeat("w", 20)), 0, strings.Repeat("x", 20))
	written, _ := Write(d, 1, text[:30])
	synced, _ := Sync(d)
	crashed, _ := Crash(d, []bool{true})
	read, _ := Read(d, 0)
	cell, _ := Read(cells(text), 0)
	all := append(slices.Concat(texts(written), texts(synced), texts(crashed)), read, cell)
	for i, s := range all {
		for _, whole := range append(texts(d), text) {
			if sharesText(s, whole) {
				t.Errorf("text %d, %q, is a piece of one that was handed in", i, s)
			}
		}
		for j, other := range all {
			if i != j && sharesText(s, other) {
				t.Errorf("texts %d and %d share memory", i, j)
			}
		}
	}
}

func TestP2MakeIsNew(t *testing.T) {
	a, _ := Make(3)
	spoil(a)
	if b, e := Make(3); e != api.OK || !same(b, cells("", "", "")) {
		t.Error(b, e)
	}
}

// Step by step in place is as call by call.
func TestP28P29WorkIsAsTheCallsAre(t *testing.T) {
	d := many(3)
	w, e := Begin(d)
	if e != api.OK {
		t.Fatal(e)
	}
	d, _ = Write(d, 1, "x")
	if e := w.Write(1, "x"); e != api.OK {
		t.Error(e)
	}
	for _, x := range []struct {
		at   int
		text string
		want api.Errno
	}{{2, "", api.ErrArg}, {-1, large, api.ErrArg}, {0, large, api.ErrLarge}} {
		if e := w.Write(x.at, x.text); e != x.want {
			t.Errorf("Write at %d: %v; want %v", x.at, e, x.want)
		}
	}
	d, _ = Sync(d)
	w.Sync()
	for _, text := range []string{"p", "q", "r"} {
		d, _ = Write(d, 0, text)
		w.Write(0, text)
	}
	d, _ = Crash(d, []bool{true, true})
	w.Crash([]bool{true, true})
	if got := w.End(); !same(got, d) || !same(got, cells("q", "x")) {
		t.Errorf("%v; want %v", got, d)
	}
	if e := w.Write(0, ""); e != api.ErrArg || !isZero(w.End()) {
		t.Error("what was handed over is worked on")
	}
}
