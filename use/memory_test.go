package use

import (
	"math"
	"slices"
	"testing"
	"unsafe"

	"linenpress/api"
)

// roomy: a disk and a map that are right, with room behind their lists.
func roomy() (api.Disk, api.Imap) {
	d, m := right()
	d.Cells[4] = d.Cells[2]
	d = waits(waits(d, 2, d.Cells[2]), 77, "behind")
	d.Cells = append(d.Cells, "behind")
	m.At = append(m.At, at(2, 2), at(-1, 77))
	m.Gens = append(m.Gens, 5, math.MinInt)
	return d, m
}

// cut: those without the room's content.
func cut(d api.Disk, m api.Imap) (api.Disk, api.Imap) {
	return api.Disk{Cells: d.Cells[:5], Wait: d.Wait[:1]}, api.Imap{At: m.At[:48], Gens: m.Gens[:48]}
}

func TestP2WhatIsHandedInStaysAsItWas(t *testing.T) {
	d, m := roomy()
	for cells := range len(d.Cells) + 1 {
		for wait := range len(d.Wait) + 1 {
			part := api.Disk{Cells: d.Cells[:cells], Wait: d.Wait[:wait]}
			for n := 46; n <= 50; n++ {
				Count(part, api.Imap{At: m.At[:n], Gens: m.Gens[:n]})
				At(part, m.At[n-1])
			}
			At(part, at(2, 0))
		}
	}
	was, wasMap := roomy()
	if !slices.Equal(d.Cells, was.Cells) || !slices.Equal(d.Wait, was.Wait) {
		t.Error(d)
	}
	if !slices.Equal(m.At, wasMap.At) || !slices.Equal(m.Gens, wasMap.Gens) {
		t.Error(m)
	}
}

func TestP2ListsAreNew(t *testing.T) {
	d, m := cut(roomy())
	first, _ := Count(d, m)
	second, _ := Count(d, m)
	first = first[:cap(first)]
	for i := range first {
		first[i] = -1
	}
	third, e := Count(d, m)
	want := []int{0, 0, 4 + 11, 3 + 7, 0}
	if !slices.Equal(second, want) || !slices.Equal(third, want) || e != api.OK {
		t.Error(second, third, e)
	}
}

// sharesText: whether s is given as a piece of whole's memory.
func sharesText(s, whole string) bool {
	from, at := uintptr(unsafe.Pointer(unsafe.StringData(whole))), uintptr(unsafe.Pointer(unsafe.StringData(s)))
	return from <= at && at < from+uintptr(len(whole))
}

func TestP2TextsAreNew(t *testing.T) {
	d, _ := cut(roomy())
	for _, p := range []api.Place{at(2, 0), at(2, 2), at(3, 1), at(4, 0)} {
		first, _ := At(d, p)
		second, e := At(d, p)
		if first.Text == "" || first != second || e != api.OK {
			t.Fatal(first, second, e)
		}
		if sharesText(first.Text, second.Text) || sharesText(first.Text, d.Wait[0].Text) {
			t.Errorf("%v: shares memory", p)
		}
		for _, s := range d.Cells {
			if sharesText(first.Text, s) {
				t.Errorf("%v: is a piece of the disk", p)
			}
		}
	}
}

func TestP2AlwaysTheSame(t *testing.T) {
	d, m := cut(roomy())
	for range 200 {
		counts(t, "again", d, m, 0, 0, 4+11, 3+7, 0)
	}
	m.At[9] = at(2, 2)
	for range 200 {
		refuses(t, "again", d, m, api.ErrCorrupt)
	}
}
