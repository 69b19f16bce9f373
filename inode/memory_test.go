package inode

import (
	"math"
	"slices"
	"testing"
	"unsafe"

	"linenpress/api"
)

// roomy: places, the last two of which are to be the room behind them.
func roomy() []api.Place {
	return []api.Place{{Cell: 4, Nth: 5}, {}, {Cell: 127, Nth: 39}, {Cell: 77, Nth: 7}, {Cell: -1, Nth: math.MaxInt}}
}

func TestP2ListsStayAsTheyWere(t *testing.T) {
	l := roomy()
	for n := range len(l) + 1 {
		for _, size := range []int{0, 1, 513, 1025, 1537, 2049, 4096, 4097} {
			in := api.Inode{Kind: api.NFile, Gen: 3, Size: size, Parts: l[:n]}
			Check(in)
			Write(in)
			if !slices.Equal(l, roomy()) {
				t.Fatalf("the first %d, %d bytes: %v", n, size, l)
			}
		}
	}
}

func TestP2ListsAreNew(t *testing.T) {
	for _, size := range []int{1, 1025, 2049, 4096} {
		want := of(api.NDir, 3, size)
		s, _ := Write(want)
		first, _ := Read(s)
		second, _ := Read(s)
		room := first.Parts[:cap(first.Parts)]
		for i := range room {
			room[i] = api.Place{Cell: 99, Nth: 99}
		}
		if !same(second, want) {
			t.Fatal(second)
		}
		for i := range second.Parts {
			second.Parts[i] = api.Place{Cell: 98, Nth: 98}
		}
		if third, e := Read(s); !same(third, want) || e != api.OK || slices.Contains(room, api.Place{Cell: 98, Nth: 98}) {
			t.Fatal(third, e)
		}
	}
}

func TestP2TextsAreNew(t *testing.T) {
	n := of(api.NFile, 3, 4096)
	first, _ := Write(n)
	second, _ := Write(n)
	if first != second || unsafe.StringData(first) == unsafe.StringData(second) {
		t.Errorf("%q and %q share memory", first, second)
	}
}
