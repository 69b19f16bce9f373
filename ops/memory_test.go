package ops

import (
	"slices"
	"strings"
	"testing"
	"time"
	"unsafe"

	"linenpress/api"
)

func roomyOps() []api.Op {
	return []api.Op{put(0, "x"), put(1, "y"), put(0, "z"), sync(), put(1, "u"), put(1, "v"), put(1, "behind"), {Kind: 9, Text: "behind"}}
}

func roomyDisk() api.Disk {
	return api.Disk{Cells: []string{"a", "b", "behind"}, Wait: []api.Put{{Text: "w"}, {At: 9, Text: "behind"}, {At: 9, Text: "behind"}}}
}

func spoil(d api.Disk) {
	for i := range d.Cells[:cap(d.Cells)] {
		d.Cells[:cap(d.Cells)][i] = "spoilt"
	}
	for i := range d.Wait[:cap(d.Wait)] {
		d.Wait[:cap(d.Wait)][i] = api.Put{At: 99, Text: "spoilt"}
	}
}

func TestP2ListsStayAsTheyWere(t *testing.T) {
	ops, whole := roomyOps(), roomyDisk()
	keep := []bool{true, false, true, true}
	for n := range len(ops) + 1 {
		d := api.Disk{Cells: whole.Cells[:2], Wait: whole.Wait[:1]}
		played, _ := Play(d, ops[:n])
		until, _ := Until(d, ops[:n], n, keep[:2])
		lean := Lean(ops[:n])
		spoil(played)
		spoil(until)
		for i := range lean[:cap(lean)] {
			lean[:cap(lean)][i] = api.Op{Kind: 77, Text: "spoilt"}
		}
		if !slices.Equal(ops, roomyOps()) || !same(whole, roomyDisk()) || !slices.Equal(keep, []bool{true, false, true, true}) {
			t.Fatalf("the first %d: %v, %v, %v", n, ops, whole, keep)
		}
	}
}

// sharesText: whether s is given as a piece of whole's memory.
func sharesText(s, whole string) bool {
	if s == "" || whole == "" {
		return false
	}
	from, at := uintptr(unsafe.Pointer(unsafe.StringData(whole))), uintptr(unsafe.Pointer(unsafe.StringData(s)))
	return from <= at && at < from+uintptr(len(whole))
}

func TestP2TextsAreNew(t *testing.T) {
	d := cells(strings.Repeat("a", 20), strings.Repeat("b", 20), strings.Repeat("c", 20))
	l := []api.Op{put(0, strings.Repeat("x", 20)), sync(), put(1, strings.Repeat("y", 20)), {Kind: 3, Text: strings.Repeat("z", 20)}}
	played, _ := Play(d, l[:3])
	until, _ := Until(d, l, 3, []bool{true})
	given, answered := slices.Clone(d.Cells), slices.Concat(played.Cells, until.Cells, []string{played.Wait[0].Text})
	for _, o := range l {
		given = append(given, o.Text)
	}
	for _, o := range Lean(l) {
		answered = append(answered, o.Text)
	}
	for i, s := range answered {
		for _, whole := range given {
			if sharesText(s, whole) {
				t.Errorf("text %d, %q, is a piece of one that was handed in", i, s)
			}
		}
	}
}

// Long lists take their time once, not once for each op: a full disk is not
// copied, nor all that is behind a write looked through, at each step.
func TestP30P31LongLists(t *testing.T) {
	began := time.Now()
	d := cells(slices.Repeat([]string{strings.Repeat("c", 1024)}, 128)...)
	var l []api.Op
	for i := range 300000 {
		if l = append(l, put(i%128, "t")); i%300 == 299 {
			l = append(l, sync())
		}
	}
	want := cells(slices.Repeat([]string{"t"}, 128)...)
	if x, e := Play(d, l); e != api.OK || !same(x, want) {
		t.Error(e)
	}
	if x, e := Until(d, l, len(l), nil); e != api.OK || !same(x, want) {
		t.Error(e)
	}
	if lean := Lean(l); len(lean) != 1000*129 {
		t.Error(len(lean))
	}
	far := []api.Op{}
	for i := range 200000 {
		far = append(far, put(i, ""))
	}
	for range 100000 {
		far = append(far, sync(), put(7, ""))
	}
	if lean := Lean(far); !slices.Equal(lean, far) {
		t.Error(len(lean))
	}
	if took := time.Since(began); took > 20*time.Second {
		t.Errorf("it took %v", took)
	}
}
