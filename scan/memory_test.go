package scan

import (
	"slices"
	"strings"
	"testing"
	"unsafe"

	"linenpress/api"
)

// big: a cell of the log with two blobs, the first with a text of 100 bytes.
func big(n int, last bool) string {
	return sealed(1, n, body(last, api.Blob{Kind: api.BData, Ino: 3, Nth: 2, Text: strings.Repeat("b", 100)}, gone(1)))
}

// whole: a disk, with room behind both of its lists.
func whole() api.Disk {
	d := waits(log(big(7, false), big(8, true), "torn", big(10, true), "behind", big(9, true)), 4, big(9, false))
	return waits(d, 77, "behind")
}

func cut(d api.Disk, cells, wait int) api.Disk {
	return api.Disk{Cells: d.Cells[:cells], Wait: d.Wait[:wait]}
}

func runs(t *testing.T, d api.Disk, after int) []api.Entry {
	t.Helper()
	l, _, e := Run(d, after)
	if e != api.OK {
		t.Error(e)
	}
	return l
}

func TestP2DisksStayAsTheyWere(t *testing.T) {
	d, was := whole(), whole()
	for cells := range len(d.Cells) + 1 {
		for wait := range len(d.Wait) + 1 {
			for _, after := range []int{-1, 6, 8, 99} {
				Run(cut(d, cells, wait), after)
			}
		}
	}
	if !slices.Equal(d.Cells, was.Cells) || !slices.Equal(d.Wait, was.Wait) {
		t.Error(d)
	}
}

// A list is handed out without room behind it: what is behind the end of what
// counts is not to be got at.
func TestP44NoRoomBehind(t *testing.T) {
	for n := range 12 {
		d := log()
		for i := range 12 {
			text := part(i + 1)
			if i < n {
				text = end(i + 1)
			}
			d.Cells = append(d.Cells, text)
		}
		l, _, _ := Run(d, 0)
		if len(l) != n || cap(l) != n {
			t.Errorf("%d cells, and room for %d; want %d", len(l), cap(l), n)
		}
		for _, x := range l {
			if cap(x.Blobs) != len(x.Blobs) {
				t.Errorf("%d blobs, and room for %d", len(x.Blobs), cap(x.Blobs))
			}
		}
	}
}

func TestP2ListsAreNew(t *testing.T) {
	d := cut(whole(), 6, 1)
	first, second := runs(t, d, 6), runs(t, d, 6)
	if len(first) != 4 {
		t.Fatal(first)
	}
	for i := range first {
		blobs := first[i].Blobs[:cap(first[i].Blobs)]
		for k := range blobs {
			blobs[k] = gone(40 + i)
		}
		for k, x := range first { // a list of its own for each cell
			if is := x.Blobs[0] == gone(40+k); is != (k <= i) {
				t.Fatal(first)
			}
		}
	}
	clear(first)
	third := runs(t, d, 6)
	if !same(second, third) || third[0].Cell != 2 || len(third[0].Blobs) != 2 {
		t.Error(second, third)
	}
}

// sharesText: whether s is given as a piece of whole's memory.
func sharesText(s, whole string) bool {
	if s == "" || whole == "" {
		return false
	}
	from, at := uintptr(unsafe.Pointer(unsafe.StringData(whole))), uintptr(unsafe.Pointer(unsafe.StringData(s)))
	return from <= at && at < from+uintptr(len(whole))
}

func TestP2TextsAreNew(t *testing.T) {
	d := cut(whole(), 6, 1)
	var told []string
	for _, x := range slices.Concat(runs(t, d, 6), runs(t, d, 6)) {
		told = append(told, x.Blobs[0].Text)
	}
	if len(told) != 8 {
		t.Fatal(told)
	}
	for i, s := range told {
		for _, lies := range append(slices.Clone(d.Cells), d.Wait[0].Text) {
			if sharesText(s, lies) {
				t.Errorf("text %d is a piece of the disk", i)
			}
		}
		for k, other := range told {
			if i != k && sharesText(s, other) {
				t.Errorf("texts %d and %d share memory", i, k)
			}
		}
	}
}

// What is told hangs on no order but that of the numbers and the cells.
func TestP2AlwaysTheSame(t *testing.T) {
	d := log(end(9), end(8), part(7), end(7), end(9), part(10), end(30), end(20))
	for range 200 {
		tells(t, "again", d, 6, 30, entry(4, 7, false), entry(3, 8, true), entry(2, 9, true))
	}
}
