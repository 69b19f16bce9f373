package point

import (
	"math"
	"slices"
	"testing"
	"unsafe"

	"linenpress/api"
)

// roomy: a map with room behind both of its lists.
func roomy() api.Imap {
	m := taken()
	m.At = append(m.At, api.Place{Cell: 9, Nth: 3}, api.Place{Cell: -1, Nth: 77})
	m.Gens = append(m.Gens, 5, math.MinInt)
	return m
}

func TestP2MapsStayAsTheyWere(t *testing.T) {
	m := roomy()
	for _, n := range []int{0, 47, 48, 49, 50} {
		for _, serial := range []int{-1, 0, 7} {
			Write(serial, api.Point{Serial: 7, Map: api.Imap{At: m.At[:n], Gens: m.Gens[:n]}})
			Write(7, api.Point{Serial: serial, Map: api.Imap{At: m.At[:n], Gens: m.Gens[:48]}})
		}
	}
	if !same(api.Point{Map: m}, api.Point{Map: roomy()}) {
		t.Error(m)
	}
}

// spoil writes over all that a map has, its spare room included.
func spoil(m api.Imap) {
	at, gens := m.At[:cap(m.At)], m.Gens[:cap(m.Gens)]
	for i := range at {
		at[i] = api.Place{Cell: 99, Nth: 99}
	}
	for i := range gens {
		gens[i] = 99
	}
}

func TestP2MapsAreNew(t *testing.T) {
	want := api.Point{Serial: 7, Map: taken()}
	s := slowWrite(4, want)
	d := cells(s, s)
	for _, call := range []func() (int, api.Point, api.Errno){
		func() (int, api.Point, api.Errno) { return Read(s) },
		func() (int, api.Point, api.Errno) { return Newest(d) },
	} {
		_, first, _ := call()
		_, second, _ := call()
		spoil(first.Map)
		turn, third, e := call()
		if !same(second, want) || !same(third, want) || turn != 4 || e != api.OK {
			t.Error(second, third, turn, e)
		}
	}
}

func TestP2TextsAreNew(t *testing.T) {
	p := api.Point{Serial: 7, Map: taken()}
	first, _ := Write(4, p)
	second, _ := Write(4, p)
	if first != second || unsafe.StringData(first) == unsafe.StringData(second) {
		t.Errorf("%q and %q share memory", first, second)
	}
}

func TestP2DisksStayAsTheyWere(t *testing.T) {
	whole := func() api.Disk {
		return api.Disk{
			Cells: []string{at(4, 7), "torn", at(9, 9), "behind"},
			Wait:  []api.Put{{At: 1, Text: at(5, 9)}, {At: 0, Text: "torn"}, {At: 7, Text: "behind"}},
		}
	}
	d := whole()
	for n := range 5 {
		for k := range 4 {
			Newest(api.Disk{Cells: d.Cells[:n], Wait: d.Wait[:k]})
		}
	}
	if was := whole(); !slices.Equal(d.Cells, was.Cells) || !slices.Equal(d.Wait, was.Wait) {
		t.Error(d)
	}
}
