package runs

import (
	"math"
	"math/rand"
	"slices"
	"strings"
	"testing"

	"linenpress/api"
)

// slowWrite is the chapter's words: each length goes into the run ahead of it,
// if that one has its length and is not full; else it begins one.
func slowWrite(l []int) string {
	type run struct{ w, n int }
	var all []run
	for _, w := range l {
		if k := len(all) - 1; k >= 0 && all[k].w == w && all[k].n < 16 {
			all[k].n++
		} else {
			all = append(all, run{w, 1})
		}
	}
	s := string([]byte{byte(len(l))})
	if len(l) >= 128 {
		s = string([]byte{byte(len(l)%128 + 128), byte(len(l) / 128)})
	}
	for _, x := range all {
		s += string([]byte{byte(16*x.w + x.n - 1)})
	}
	return s
}

// slowRead is the chapter's words for what stands behind a number below 128.
func slowRead(s string) ([]int, int, api.Errno) {
	count, l := int(s[0]), []int{}
	for i := 1; len(l) != count; i++ {
		if i >= len(s) {
			return nil, 0, api.ErrShort
		}
		for range s[i]%16 + 1 {
			l = append(l, int(s[i]/16))
		}
		if len(l) > count || i > 1 && s[i-1]/16 == s[i]/16 && s[i-1]%16 != 15 {
			return nil, 0, api.ErrForm
		}
	}
	return l, len(slowWrite(l)), api.OK
}

// someLens: any lengths, with runs that end ahead of, at and behind a full one.
func someLens(r *rand.Rand) []int {
	l := make([]int, 0, api.MaxSigns)
	for most := r.Intn(api.MaxSigns + 1); len(l) < most; {
		n := 1 + r.Intn(3)
		if r.Intn(3) == 0 {
			n = 14 + r.Intn(20)
		}
		l = append(l, slices.Repeat([]int{r.Intn(16)}, min(n, most-len(l)))...)
	}
	return l
}

func like(n, w int) []int { return slices.Repeat([]int{w}, n) }

func checkRead(t *testing.T, s string, want []int, size int, wantErr api.Errno) {
	t.Helper()
	l, k, e := Read(s)
	if !slices.Equal(l, want) || k != size || e != wantErr {
		t.Fatalf("Read(%q) = %v, %d, %v; want %v, %d, %v", s, l, k, e, want, size, wantErr)
	}
}

// both: lists, and the bytes that each of the two calls has for them.
func both() map[string]struct {
	l []int
	s string
} {
	return map[string]struct {
		l []int
		s string
	}{
		"no list":                    {nil, "\x00"},
		"no lengths":                 {[]int{}, "\x00"},
		"one nought":                 {[]int{0}, "\x01\x00"},
		"the greatest":               {[]int{15}, "\x01\xf0"},
		"the document's":             {[]int{4, 4, 0}, "\x03\x41\x00"},
		"each on its own":            {[]int{1, 2, 1, 2}, "\x04\x10\x20\x10\x20"},
		"a run less than full":       {like(15, 3), "\x0f\x3e"},
		"a full run":                 {like(16, 3), "\x10\x3f"},
		"one more":                   {like(17, 3), "\x11\x3f\x30"},
		"two full runs":              {like(32, 15), "\x20\xff\xff"},
		"two full runs, one more":    {like(33, 0), "\x21\x0f\x0f\x00"},
		"another behind a full run":  {append(like(16, 3), 4), "\x11\x3f\x40"},
		"it comes back":              {[]int{5, 5, 6, 5}, "\x04\x51\x60\x50"},
		"a number of one byte":       {like(127, 0), "\x7f" + strings.Repeat("\x0f", 7) + "\x0e"},
		"a number of two bytes":      {like(128, 0), "\x80\x01" + strings.Repeat("\x0f", 8)},
		"as many as may be":          {like(320, 9), "\xc0\x02" + strings.Repeat("\x9f", 20)},
		"as many, the last another":  {append(like(319, 9), 1), "\xc0\x02" + strings.Repeat("\x9f", 19) + "\x9e\x10"},
		"as many, the first another": {append([]int{1}, like(319, 9)...), "\xc0\x02\x10" + strings.Repeat("\x9f", 19) + "\x9e"},
	}
}

func TestP18Write(t *testing.T) {
	for name, x := range both() {
		if s, e := Write(x.l); s != x.s || e != api.OK {
			t.Errorf("%s: %q, %v; want %q", name, s, e, x.s)
		}
	}
}

func TestP18WriteAnyLengths(t *testing.T) {
	r := rand.New(rand.NewSource(18))
	for range 2000 {
		l := someLens(r)
		if s, e := Write(l); s != slowWrite(l) || e != api.OK {
			t.Fatalf("Write(%v) = %q, %v; want %q", l, s, e, slowWrite(l))
		}
	}
}

func TestP18WriteOneRun(t *testing.T) {
	for n := range api.MaxSigns + 1 {
		for w := range 16 {
			if s, e := Write(like(n, w)); s != slowWrite(like(n, w)) || e != api.OK {
				t.Fatalf("%d times %d: %q, %v; want %q", n, w, s, e, slowWrite(like(n, w)))
			}
		}
	}
}

// Lists that need not be the lengths of a code are written too.
func TestP18WriteOverTheRoom(t *testing.T) {
	if s, e := Write([]int{1, 1, 1, 1}); s != "\x04\x13" || e != api.OK {
		t.Errorf("%q, %v", s, e)
	}
}

func TestP18WriteWrong(t *testing.T) {
	for name, x := range map[string]struct {
		l    []int
		want api.Errno
	}{
		"a length too many":           {like(321, 0), api.ErrLarge},
		"far too many":                {like(100000, 7), api.ErrLarge},
		"too many, the first wrong":   {append([]int{-1}, like(320, 0)...), api.ErrLarge},
		"too many, the last wrong":    {append(like(320, 0), 16), api.ErrLarge},
		"below 0":                     {[]int{-1}, api.ErrArg},
		"above 15":                    {[]int{16}, api.ErrArg},
		"the least":                   {[]int{1, math.MinInt}, api.ErrArg},
		"the greatest":                {[]int{1, math.MaxInt}, api.ErrArg},
		"a byte less than it":         {[]int{4, 256}, api.ErrArg},
		"within a run":                {[]int{4, 4, -4, 4}, api.ErrArg},
		"as many as may be, and last": {append(like(319, 4), 16), api.ErrArg},
	} {
		if s, e := Write(x.l); s != "" || e != x.want {
			t.Errorf("%s: %q, %v; want %v", name, s, e, x.want)
		}
	}
}

func TestP19Read(t *testing.T) {
	for _, x := range both() {
		for _, behind := range []string{"", "\x00", "x", "\xff\xff", x.s, x.s[len(x.s)-1:]} {
			checkRead(t, x.s+behind, x.l, len(x.s), api.OK)
		}
	}
}

func TestP19WhatWasWrittenIsRead(t *testing.T) {
	r := rand.New(rand.NewSource(19))
	for range 2000 {
		l := someLens(r)
		s, e := Write(l)
		if e != api.OK {
			t.Fatalf("Write(%v): %v", l, e)
		}
		checkRead(t, s+"behind"[:r.Intn(7)], l, len(s), api.OK)
		for range 3 {
			cut := r.Intn(len(s))
			if cut != 0 {
				checkRead(t, s[:cut], nil, 0, api.ErrShort)
			}
		}
	}
}

// Each two bytes behind each number that they may be enough for, and one more.
func TestP19ReadOfAllShortTexts(t *testing.T) {
	for count := range 34 {
		for x := range 1 << 16 {
			s := string([]byte{byte(count), byte(x >> 8), byte(x)})
			l, k, e := slowRead(s)
			checkRead(t, s, l, k, e)
		}
	}
}

func TestP19ReadShort(t *testing.T) {
	for _, s := range []string{
		"", "\x80", "\xff\xff", // no number
		"\x01", "\x7f", "\xc0\x02", // no run
		"\x02\x40", "\x12\x0f", "\x11\x3f",
		"\xc0\x02" + strings.Repeat("\x9f", 19), // the last run is not there
	} {
		checkRead(t, s, nil, 0, api.ErrShort)
	}
}

func TestP19ReadWrongForm(t *testing.T) {
	for _, s := range []string{
		"\x80\x00", // a number in more bytes than it needs
		"\xff\xff\xff\xff\xff\xff\xff\xff\xff\x02", // one of more than 64 bits
		"\x01\x41", "\x0f\x0f", "\x03\x41\x01", "\x11\x3f\x31", // beyond the number
		"\x02\x40\x40", "\x05\x41\x42", "\x11\x3e\x31", "\x12\x3e\x3f\x30", // the run ahead might have had it
		"\x03\x00\x00", // the same, where more are wanted than there are
		"\x04\x10\x20\x20\x10",
		"\xc0\x02" + strings.Repeat("\x9f", 19) + "\x9e\x90",
		"\xbf\x02" + strings.Repeat("\x9f", 20),
	} {
		checkRead(t, s, nil, 0, api.ErrForm)
	}
}

func TestP19ReadLarge(t *testing.T) {
	for _, number := range []string{
		"\xc1\x02", "\xff\x02", "\x80\x80\x01",
		"\x80\x80\x80\x80\x10",                     // 2^32
		"\x81\x80\x80\x80\x10",                     // one more: 1 in 32 bits
		"\xff\xff\xff\xff\xff\xff\xff\xff\x7f",     // 2^63-1
		"\x80\x80\x80\x80\x80\x80\x80\x80\x80\x01", // 2^63
		"\xff\xff\xff\xff\xff\xff\xff\xff\xff\x01", // 2^64-1
	} {
		for _, behind := range []string{"", "\x00", strings.Repeat("\x9f", 21), "\x40\x40"} {
			checkRead(t, number+behind, nil, 0, api.ErrLarge)
		}
	}
}

func TestP2ListsStayAsTheyWere(t *testing.T) {
	l := []int{4, 4, 0, 4, 77}
	for _, n := range []int{4, 0, 1, 5} {
		Write(l[:n])
		if !slices.Equal(l, []int{4, 4, 0, 4, 77}) {
			t.Fatal(l)
		}
	}
}

func TestP2AnswersAreNew(t *testing.T) {
	const s = "\x03\x41\x00"
	a, _, _ := Read(s)
	for i := range a[:cap(a)] {
		a[:cap(a)][i] = 99
	}
	checkRead(t, s, []int{4, 4, 0}, 3, api.OK)
}
