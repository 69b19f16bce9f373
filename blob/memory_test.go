package blob

import (
	"slices"
	"strings"
	"testing"
	"unsafe"

	"linenpress/api"
)

// roomy: a list, the last two of which are to be the room behind it.
func roomy() []api.Blob {
	return []api.Blob{data(3, 2, "xy"), gone(7), inode(4, strings.Repeat("i", 40)), data(1, 1, "behind"), {Kind: 99, Text: "behind"}}
}

func TestP2ListsStayAsTheyWere(t *testing.T) {
	l := roomy()
	for n := range len(l) + 1 {
		for _, b := range l[:n] {
			Check(b)
		}
		Write(l[:n], true)
		Write(l[:n], false)
		Split(l[:n])
		if !slices.Equal(l, roomy()) {
			t.Fatalf("the first %d: %v", n, l)
		}
	}
}

func TestP2ListsAreNew(t *testing.T) {
	l := roomy()[:3]
	s, _ := Write(l, true)
	first, _, _ := Read(s)
	second, _, _ := Read(s)
	for i := range first[:cap(first)] {
		first[:cap(first)][i] = api.Blob{Kind: 77, Text: "spoilt"}
	}
	checkRead(t, s, l, true)
	if !slices.Equal(second, l) {
		t.Error(second)
	}
	cells, _ := Split(l)
	for i := range cells[:cap(cells)] {
		cells[:cap(cells)][i] = -1
	}
	if again, e := Split(l); e != api.OK || !slices.Equal(again, []int{3}) {
		t.Error(again, e)
	}
}

// sharesText: whether s is given as a piece of whole's memory.
func sharesText(s, whole string) bool {
	if s == "" || whole == "" {
		return false
	}
	from, at := uintptr(unsafe.Pointer(unsafe.StringData(whole))), uintptr(unsafe.Pointer(unsafe.StringData(s)))
	return from <= at && at < from+uintptr(len(whole))
}

func TestP2TextsAreNew(t *testing.T) {
	l := []api.Blob{data(1, 0, strings.Repeat("a", 100)), inode(1, "b"), data(1, 1, strings.Repeat("a", 100)), data(2, 1, full)}
	s, _ := Write(l, false)
	first, _, _ := Read(s)
	second, _, _ := Read(s)
	all := slices.Concat(l, first, second)
	for i, b := range all {
		if sharesText(b.Text, s) || sharesText(s, b.Text) {
			t.Errorf("text %d is a piece of the cell", i)
		}
		for j, other := range all {
			if i != j && sharesText(b.Text, other.Text) {
				t.Errorf("texts %d and %d share memory", i, j)
			}
		}
	}
}
