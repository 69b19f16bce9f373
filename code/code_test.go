package code

import (
	"math"
	"math/rand"
	"slices"
	"strings"
	"testing"

	"linenpress/api"
	"linenpress/bits"
	"linenpress/lens"
)

// codeTexts: each sign's code as a text of 0 and 1, its highest bit first; the
// empty one for a sign without a code.
func codeTexts(l []int) []string {
	codes, e := lens.Canon(l)
	if e != api.OK {
		panic("lengths that are none")
	}
	texts := make([]string, len(l))
	for i, w := range l {
		for k := w - 1; k >= 0; k-- {
			texts[i] += string('0' + rune(codes[i]>>k&1))
		}
	}
	return texts
}

// bitText: the bits of s from its first on, as 0 and 1.
func bitText(s string) string {
	var b strings.Builder
	for i := range 8 * len(s) {
		b.WriteByte('0' + s[i/8]>>(i%8)&1)
	}
	return b.String()
}

// slowNext is the chapter's words for one sign, on texts of 0 and 1.
func slowNext(texts []string, all string, at int) (int, int, api.Errno) {
	for end := at; ; end++ {
		read, begun := all[at:end], false
		for i, text := range texts {
			if text != "" && text == read {
				return i, end, api.OK
			}
			begun = begun || text != "" && strings.HasPrefix(text, read)
		}
		if !begun {
			return 0, 0, api.ErrCode
		}
		if end == len(all) {
			return 0, 0, api.ErrShort
		}
	}
}

func slowRead(l []int, s string, at, n int) ([]int, int, api.Errno) {
	texts, all := codeTexts(l), bitText(s)
	var signs []int
	for range n {
		sign, end, e := slowNext(texts, all, at)
		if e != api.OK {
			return nil, 0, e
		}
		signs, at = append(signs, sign), end
	}
	return signs, at, api.OK
}

// someLens takes lengths while there is room for them, with signs between
// that have no code.
func someLens(r *rand.Rand) []int {
	l := make([]int, 1+r.Intn(api.MaxSigns))
	left, least := 1<<15, 1+r.Intn(15)
	for i := range l {
		w := least + r.Intn(16-least)
		if r.Intn(4) > 0 && 1<<15>>w <= left {
			l[i] = w
			left -= 1 << 15 >> w
		}
	}
	return l
}

// someSigns: signs that have codes; none, if no sign has.
func someSigns(r *rand.Rand, l []int, n int) []int {
	var have, signs []int
	for i, w := range l {
		if w > 0 {
			have = append(have, i)
		}
	}
	for range n {
		if len(have) > 0 {
			signs = append(signs, have[r.Intn(len(have))])
		}
	}
	return signs
}

func someText(r *rand.Rand, n int) string {
	b := make([]byte, n)
	r.Read(b)
	return string(b)
}

type refused struct {
	l    []int
	want api.Errno
}

// wrongLens are lengths that Canon refuses, as it refuses them.
func wrongLens() map[string]refused {
	return map[string]refused{
		"too many signs":                {make([]int, 321), api.ErrLarge},
		"too many, and a wrong length":  {append(make([]int, 320), -1), api.ErrLarge},
		"below 0":                       {[]int{1, -1}, api.ErrArg},
		"above 15":                      {[]int{1, 16}, api.ErrArg},
		"over the room":                 {[]int{1, 1, 15}, api.ErrOver},
		"over the room, and then wrong": {[]int{1, 1, 1, 16}, api.ErrArg},
	}
}

func TestP16Write(t *testing.T) {
	for _, x := range []struct {
		name     string
		l, signs []int
		want     []api.Piece
	}{
		{"no lists", nil, nil, nil},
		{"no signs", []int{1, 1}, []int{}, nil},
		{"no codes, no signs", []int{0, 0}, nil, nil},
		{"the document's", []int{1, 2, 2}, []int{1, 0, 2}, []api.Piece{{Val: 1, Width: 2}, {Val: 0, Width: 1}, {Val: 3, Width: 2}}},
		{"turned", []int{3, 3, 3, 3, 3, 3, 3}, []int{6, 4, 3, 1}, []api.Piece{{Val: 3, Width: 3}, {Val: 1, Width: 3}, {Val: 6, Width: 3}, {Val: 4, Width: 3}}},
		{"one code", []int{0, 1}, []int{1, 1}, []api.Piece{{Val: 0, Width: 1}, {Val: 0, Width: 1}}},
		{"the longest", []int{1, 15, 15}, []int{2, 1}, []api.Piece{{Val: 1 | 1<<14, Width: 15}, {Val: 1, Width: 15}}},
		{"the last of most signs", append(make([]int, 319), 2), []int{319}, []api.Piece{{Val: 0, Width: 2}}},
	} {
		if got, e := Write(x.l, x.signs); !slices.Equal(got, x.want) || e != api.OK {
			t.Errorf("%s: %v, %v; want %v", x.name, got, e, x.want)
		}
	}
}

func TestP16WriteIsPacked(t *testing.T) {
	r := rand.New(rand.NewSource(16))
	for range 200 {
		l := someLens(r)
		signs := someSigns(r, l, r.Intn(1000))
		p, e := Write(l, signs)
		s, f := bits.Pack(p)
		if e != api.OK || f != api.OK || len(p) != len(signs) {
			t.Fatalf("Write(%v, %v): %d pieces, %v, %v", l, signs, len(p), e, f)
		}
		want, texts := "", codeTexts(l)
		for i, sign := range signs {
			want += texts[sign]
			if p[i].Width != l[sign] {
				t.Fatalf("Write(%v, %v): piece %d is %v", l, signs, i, p[i])
			}
		}
		if got := bitText(s)[:len(want)]; got != want {
			t.Fatalf("Write(%v, %v) is %s; want %s", l, signs, got, want)
		}
	}
}

// Write sets no bound to how many signs there are.
func TestP16WriteManySigns(t *testing.T) {
	signs := make([]int, 100000)
	signs[99999] = 1
	if p, e := Write([]int{1, 1}, signs); e != api.OK || len(p) != 100000 || p[99999] != (api.Piece{Val: 1, Width: 1}) {
		t.Error(len(p), e)
	}
}

func TestP16WriteWrong(t *testing.T) {
	for name, x := range wrongLens() {
		for _, signs := range [][]int{nil, {0}, {-1}, {1000}} {
			if p, e := Write(x.l, signs); len(p) != 0 || e != x.want {
				t.Errorf("%s, signs %v: %v, %v; want %v", name, signs, p, e, x.want)
			}
		}
	}
	for _, x := range []struct{ l, signs []int }{
		{nil, []int{0}},
		{[]int{0}, []int{0}},
		{[]int{1, 0}, []int{1}},
		{[]int{1, 0, 1}, []int{0, 2, 1}},
		{[]int{1, 1}, []int{2}},
		{[]int{1, 1}, []int{0, 1, -1}},
		{[]int{1, 1}, []int{math.MaxInt}},
		{[]int{1, 1}, []int{math.MinInt}},
		{make([]int, 320), []int{320}},
		{[]int{1, 1, 2}[:2], []int{2}},
	} {
		if p, e := Write(x.l, x.signs); len(p) != 0 || e != api.ErrArg {
			t.Errorf("Write(%v, %v) = %v, %v; want ErrArg", x.l, x.signs, p, e)
		}
	}
}

func TestP17Read(t *testing.T) {
	ones := slices.Repeat([]int{0}, 1024)
	for _, x := range []struct {
		name  string
		l     []int
		s     string
		at, n int
		want  []int
		end   int
	}{
		{"the document's", []int{1, 2, 2}, "\x19", 0, 3, []int{1, 0, 2}, 5},
		{"less than there is", []int{1, 2, 2}, "\x19", 0, 1, []int{1}, 2},
		{"from a bit on", []int{1, 2, 2}, "\x19", 2, 2, []int{0, 2}, 5},
		{"to the last bit", []int{1, 2, 2}, "\x19", 5, 3, []int{0, 0, 0}, 8},
		{"from within a byte into the next", []int{1, 2, 2}, "\x80\x01", 7, 2, []int{2, 0}, 10},
		{"nothing", []int{1, 2, 2}, "\x19", 3, 0, nil, 3},
		{"nothing of nothing", nil, "", 0, 0, nil, 0},
		{"nothing behind the last bit", []int{1}, "\x19", 8, 0, nil, 8},
		{"nothing, without codes", []int{0, 0}, "\x19", 8, 0, nil, 8},
		{"the longest", []int{1, 15, 15}, "\x01\x40", 0, 2, []int{2, 0}, 16},
		{"as many as may be", []int{1}, strings.Repeat("\x00", 128), 0, 1024, ones, 1024},
		{"of a longer text", []int{0, 1, 1}, strings.Repeat("\x00", 9000) + "\x05", 72000, 3, []int{2, 1, 2}, 72003},
	} {
		got, end, e := Read(x.l, x.s, x.at, x.n)
		if !slices.Equal(got, x.want) || end != x.end || e != api.OK {
			t.Errorf("%s: %v, %d, %v; want %v, %d", x.name, got, end, e, x.want, x.end)
		}
	}
}

func TestP17WhatWasWrittenIsRead(t *testing.T) {
	r := rand.New(rand.NewSource(17))
	for range 200 {
		l := someLens(r)
		signs := someSigns(r, l, r.Intn(api.MaxRead+1))
		p, _ := Write(l, signs)
		ahead := r.Intn(64)
		s, _ := bits.Pack(slices.Concat([]api.Piece{{Val: 0, Width: ahead}}, p))
		end := ahead
		for _, x := range p {
			end += x.Width
		}
		got, at, e := Read(l, s+someText(r, r.Intn(3)), ahead, len(signs))
		if !slices.Equal(got, signs) || at != end || e != api.OK {
			t.Fatalf("Read(%v) = %v, %d, %v; want %v, %d", l, got, at, e, signs, end)
		}
	}
}

// Any bits, of codes that fill their room and of codes that don't: each of the
// three ends must come up often, or the test has no worth.
func TestP17ReadAnyBits(t *testing.T) {
	r := rand.New(rand.NewSource(171))
	seen := map[api.Errno]int{}
	for range 3000 {
		l := someLens(r)
		if r.Intn(2) == 0 {
			l = l[:1+r.Intn(min(8, len(l)))]
		}
		s := someText(r, r.Intn(6))
		at, n := r.Intn(8*len(s)+1), r.Intn(6)
		got, end, e := Read(l, s, at, n)
		want, wantEnd, f := slowRead(l, s, at, n)
		if !slices.Equal(got, want) || end != wantEnd || e != f {
			t.Fatalf("Read(%v, %q, %d, %d) = %v, %d, %v; want %v, %d, %v", l, s, at, n, got, end, e, want, wantEnd, f)
		}
		seen[e]++
	}
	for _, e := range []api.Errno{api.OK, api.ErrCode, api.ErrShort} {
		if seen[e] < 100 {
			t.Errorf("answer %v came %d times", e, seen[e])
		}
	}
}

// Each byte, from each bit on, with each list of three lengths up to 3.
func TestP17ReadOfAllShortLists(t *testing.T) {
	for a := range 4 {
		for b := range 4 {
			for c := range 4 {
				l := []int{a, b, c}
				if _, e := lens.Canon(l); e != api.OK {
					continue
				}
				for x := range 256 {
					s := string([]byte{byte(x)})
					for at := range 9 {
						got, end, e := Read(l, s, at, 2)
						want, wantEnd, f := slowRead(l, s, at, 2)
						if !slices.Equal(got, want) || end != wantEnd || e != f {
							t.Fatalf("Read(%v, %q, %d, 2) = %v, %d, %v; want %v, %d, %v", l, s, at, got, end, e, want, wantEnd, f)
						}
					}
				}
			}
		}
	}
}

func TestP17ReadEndsEarly(t *testing.T) {
	for _, x := range []struct {
		name  string
		l     []int
		s     string
		at, n int
		want  api.Errno
	}{
		{"no signs", nil, "\x00", 0, 1, api.ErrCode},
		{"no codes", []int{0, 0}, "\x00", 0, 1, api.ErrCode},
		{"no codes and no bits", []int{0}, "", 0, 1, api.ErrCode},
		{"no bits", []int{1}, "", 0, 1, api.ErrShort},
		{"behind the last bit", []int{1}, "\x00", 8, 1, api.ErrShort},
		{"no code of one bit", []int{1}, "\x01", 0, 1, api.ErrCode},
		{"no code, at the last bit", []int{1}, "\x80", 7, 1, api.ErrCode},
		{"a code begins, at the last bit", []int{2, 2, 2}, "\x80", 7, 1, api.ErrShort},
		{"no code of two bits", []int{2, 2, 2}, "\x03", 0, 1, api.ErrCode},
		{"no code of two bits, at the last", []int{2, 2, 2}, "\xc0", 6, 1, api.ErrCode},
		{"the second sign is short", []int{1, 2, 2}, "\x80", 6, 2, api.ErrShort},
		{"the second sign is none", []int{1, 2}, "\x06", 0, 2, api.ErrCode},
		{"one bit too few for the longest", []int{1, 15, 15}, "\x04\x00", 2, 1, api.ErrShort},
		{"no code of the longest", []int{15}, "\x00\x40", 0, 1, api.ErrCode},
		{"a longer one than there are bits", []int{15}, "\x00", 0, 1, api.ErrShort},
		{"a sign too many", []int{1, 1}, "\xff", 0, 9, api.ErrShort},
	} {
		got, end, e := Read(x.l, x.s, x.at, x.n)
		if len(got) != 0 || end != 0 || e != x.want {
			t.Errorf("%s: %v, %d, %v; want %v", x.name, got, end, e, x.want)
		}
	}
}

func TestP17ReadWrong(t *testing.T) {
	for name, x := range wrongLens() {
		for _, at := range []int{0, -1, 9} {
			for _, n := range []int{0, 1, -1, 1025} {
				if got, end, e := Read(x.l, "\x00", at, n); len(got) != 0 || end != 0 || e != x.want {
					t.Errorf("%s, %d signs at %d: %v, %d, %v; want %v", name, n, at, got, end, e, x.want)
				}
			}
		}
	}
	for _, x := range []struct {
		l     []int
		at, n int
		want  api.Errno
	}{
		{[]int{1}, -1, 0, api.ErrArg},
		{[]int{1}, 9, 0, api.ErrArg},
		{[]int{1}, math.MinInt, 1, api.ErrArg},
		{[]int{1}, math.MaxInt, 1, api.ErrArg},
		{[]int{1}, 0, -1, api.ErrArg},
		{[]int{1}, 0, math.MinInt, api.ErrArg},
		{[]int{1}, -1, 1025, api.ErrArg},
		{[]int{1}, 9, 1025, api.ErrArg},
		{nil, 9, 1, api.ErrArg},
		{nil, 0, -1, api.ErrArg},
		{[]int{1}, 0, 1025, api.ErrLarge},
		{[]int{1}, 8, 1025, api.ErrLarge},
		{[]int{1}, 0, math.MaxInt, api.ErrLarge},
		{nil, 0, 1025, api.ErrLarge},
	} {
		if got, end, e := Read(x.l, "\x00", x.at, x.n); len(got) != 0 || end != 0 || e != x.want {
			t.Errorf("Read(%v, .., %d, %d) = %v, %d, %v; want %v", x.l, x.at, x.n, got, end, e, x.want)
		}
	}
}

// A book, asked sign by sign, reads as Read does in one go.
func TestBookIsReadSignBySign(t *testing.T) {
	r := rand.New(rand.NewSource(172))
	for range 200 {
		l, s := someLens(r), someText(r, r.Intn(20))
		b, e := BookOf(l)
		if e != api.OK {
			t.Fatal(l, e)
		}
		for at, texts, all := 0, codeTexts(l), bitText(s); e == api.OK; {
			sign, end, want := slowNext(texts, all, at)
			got, behind, f := b.Next(s, at)
			if got != sign || behind != end || f != want {
				t.Fatalf("%v, %q at %d: %d, %d, %v; want %d, %d, %v", l, s, at, got, behind, f, sign, end, want)
			}
			at, e = end, want
		}
	}
	for name, x := range wrongLens() {
		if b, e := BookOf(x.l); b != nil || e != x.want {
			t.Errorf("%s: %v, %v; want %v", name, b, e, x.want)
		}
	}
}

func TestP2ListsStayAsTheyWere(t *testing.T) {
	l, signs := []int{1, 2, 2, 77}, []int{1, 0, 2, 78}
	for _, n := range []int{3, 0, 1, 4} {
		Write(l[:n], signs[:3])
		Write(l[:3], signs[:n])
		Read(l[:n], "\x19", 0, 3)
		if !slices.Equal(l, []int{1, 2, 2, 77}) || !slices.Equal(signs, []int{1, 0, 2, 78}) {
			t.Fatal(l, signs)
		}
	}
}

func TestP2AnswersAreNew(t *testing.T) {
	l, signs := []int{1, 2, 2}, []int{1, 0, 2}
	p, _ := Write(l, signs)
	for i := range p[:cap(p)] {
		p[:cap(p)][i] = api.Piece{Val: 99, Width: 99}
	}
	a, _, _ := Read(l, "\x19", 0, 3)
	for i := range a[:cap(a)] {
		a[:cap(a)][i] = 99
	}
	if !slices.Equal(l, []int{1, 2, 2}) || !slices.Equal(signs, []int{1, 0, 2}) {
		t.Error(l, signs)
	}
	if b, _, e := Read(l, "\x19", 0, 3); e != api.OK || !slices.Equal(b, signs) {
		t.Error(b, e)
	}
}
