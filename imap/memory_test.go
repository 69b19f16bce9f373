package imap

import (
	"math"
	"slices"
	"testing"
	"unsafe"

	"linenpress/api"
)

// roomy: a map with so many places and generations, and room behind them.
func roomy(places, gens int) api.Imap {
	m := taken()
	at := append(m.At, aPlace, api.Place{Cell: -1, Nth: 77})
	all := append(m.Gens, 5, math.MinInt)
	return api.Imap{At: at[:places], Gens: all[:gens]}
}

func whole(m api.Imap) api.Imap { return api.Imap{At: m.At[:50], Gens: m.Gens[:50]} }

func TestP2ListsStayAsTheyWere(t *testing.T) {
	for _, places := range []int{0, 47, 48, 49, 50} {
		for _, gens := range []int{0, 47, 48, 49, 50} {
			m := roomy(places, gens)
			for _, n := range []int{-1, 0, 1, 47, 48} {
				Check(m)
				Take(m)
				Set(m, n, aPlace)
				Set(m, n, noPlace)
				Cut(m, n)
				Write(m)
			}
			if len(m.At) != places || len(m.Gens) != gens || !same(whole(m), whole(roomy(places, gens))) {
				t.Fatalf("%d, %d: %v", places, gens, whole(m))
			}
		}
	}
}

// spoil writes over all that a map has, its spare room included.
func spoil(m api.Imap) {
	at, gens := m.At[:cap(m.At)], m.Gens[:cap(m.Gens)]
	for i := range at {
		at[i] = api.Place{Cell: 99, Nth: 99}
	}
	for i := range gens {
		gens[i] = 99
	}
}

func TestP2ListsAreNew(t *testing.T) {
	in := roomy(48, 48)
	s, _ := Write(in)
	for _, x := range []struct {
		name string
		call func() (api.Imap, api.Errno)
	}{
		{"Fresh", func() (api.Imap, api.Errno) { return Fresh(), api.OK }},
		{"Set", func() (api.Imap, api.Errno) { return Set(in, 5, aPlace) }},
		{"Set as it was", func() (api.Imap, api.Errno) { return Set(in, 5, in.At[5]) }},
		{"Cut", func() (api.Imap, api.Errno) { return Cut(in, 5) }},
		{"Read", func() (api.Imap, api.Errno) { return Read(s) }},
	} {
		first, e := x.call()
		second, _ := x.call()
		was := api.Imap{At: slices.Clone(first.At), Gens: slices.Clone(first.Gens)}
		spoil(first)
		third, f := x.call()
		if e != api.OK || f != api.OK || !same(second, was) || !same(third, was) || !same(whole(in), whole(roomy(48, 48))) {
			t.Errorf("%s: %v", x.name, second)
		}
		spoil(second)
		if !same(third, was) {
			t.Errorf("%s: %v", x.name, third)
		}
	}
}

func TestP2TextsAreNew(t *testing.T) {
	m := taken()
	first, _ := Write(m)
	second, _ := Write(m)
	if first != second || unsafe.StringData(first) == unsafe.StringData(second) {
		t.Errorf("%q and %q share memory", first, second)
	}
}
