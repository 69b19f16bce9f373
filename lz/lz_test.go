package lz

import (
	"math"
	"math/rand"
	"slices"
	"strings"
	"testing"

	"linenpress/api"
)

func lit(b byte) api.Mark     { return api.Mark{Byte: b} }
func cp(n, dist int) api.Mark { return api.Mark{Len: n, Dist: dist} }

// marks: the bytes of s, each on its own, and then those that are told.
func marks(s string, then ...api.Mark) []api.Mark {
	var l []api.Mark
	for i := range len(s) {
		l = append(l, lit(s[i]))
	}
	return append(l, then...)
}

// slowCheck is the chapter's words.
func slowCheck(m api.Mark) api.Errno {
	switch {
	case m.Len == 0 && m.Dist == 0:
		return api.OK
	case m.Len < 3 || m.Len > 66 || m.Dist < 1 || m.Byte != 0:
		return api.ErrForm
	}
	return api.OK
}

// slowExpand is the chapter's words.
func slowExpand(l []api.Mark) (string, api.Errno) {
	s := ""
	for _, m := range l {
		switch e := slowCheck(m); {
		case e != api.OK:
			return "", e
		case m.Len == 0:
			s += string([]byte{m.Byte})
		case m.Dist > len(s):
			return "", api.ErrDist
		default:
			for range m.Len {
				s += s[len(s)-m.Dist : len(s)-m.Dist+1]
			}
		}
		if len(s) > 512 {
			return "", api.ErrLarge
		}
	}
	return s, api.OK
}

// fewest goes from the beginning on: from each place that so many marks reach
// a byte, and each copy of each length from each distance, is tried.
func fewest(s string) int {
	need := slices.Repeat([]int{math.MaxInt}, len(s)+1)
	need[0] = 0
	for at := range len(s) {
		need[at+1] = min(need[at+1], need[at]+1)
		for dist := 1; dist <= at; dist++ {
			for n := 1; n <= 66 && at+n <= len(s) && s[at+n-1] == s[at+n-1-dist]; n++ {
				if n >= 3 {
					need[at+n] = min(need[at+n], need[at]+1)
				}
			}
		}
	}
	return need[len(s)]
}

// checkFind holds Find to all that the promise says of a text, and answers the
// marks.
func checkFind(t *testing.T, s string) []api.Mark {
	t.Helper()
	l, e := Find(s)
	if e != api.OK {
		t.Fatalf("Find(%q): %v", s, e)
	}
	if made, e := slowExpand(l); made != s || e != api.OK {
		t.Fatalf("Find(%q) = %v, of which %q is made, %v", s, l, made, e)
	}
	if made, e := Expand(l); made != s || e != api.OK {
		t.Fatalf("Expand(%v) = %q, %v; want %q", l, made, e, s)
	}
	if want := fewest(s); len(l) != want {
		t.Fatalf("Find(%q) = %v: %d marks; want %d", s, l, len(l), want)
	}
	return l
}

func TestP20Check(t *testing.T) {
	for b := range 256 {
		if e := Check(lit(byte(b))); e != api.OK {
			t.Errorf("byte %d: %v", b, e)
		}
	}
	for n := 3; n <= 66; n++ {
		for _, dist := range []int{1, 2, 511, 512, 513, 1000, math.MaxInt32, math.MaxInt} {
			if e := Check(cp(n, dist)); e != api.OK {
				t.Errorf("a copy of %d from %d back: %v", n, dist, e)
			}
		}
	}
}

func TestP20CheckWrong(t *testing.T) {
	for _, m := range []api.Mark{
		{Dist: 1}, {Dist: -1}, {Dist: 1, Byte: 'a'}, {Dist: math.MaxInt}, {Dist: math.MinInt},
		{Len: 1}, {Len: 1, Byte: 'a'}, {Len: 1, Dist: 1}, {Len: 2, Dist: 1}, {Len: 2, Dist: 2},
		{Len: -1}, {Len: -3, Dist: 1}, {Len: math.MinInt, Dist: 1},
		{Len: 67, Dist: 1}, {Len: 512, Dist: 1}, {Len: math.MaxInt, Dist: 1},
		{Len: 3}, {Len: 66}, {Len: 3, Dist: -1}, {Len: 66, Dist: math.MinInt},
		{Len: 3, Dist: 1, Byte: 1}, {Len: 66, Dist: 9, Byte: 255}, {Len: 3, Byte: 1},
	} {
		if e := Check(m); e != api.ErrForm {
			t.Errorf("Check(%v) = %v", m, e)
		}
	}
}

func TestP20CheckNearTheBounds(t *testing.T) {
	for n := -3; n < 80; n++ {
		for dist := -3; dist < 80; dist++ {
			for _, b := range []byte{0, 1, 128, 255} {
				m := api.Mark{Len: n, Dist: dist, Byte: b}
				if e := Check(m); e != slowCheck(m) {
					t.Fatalf("Check(%v) = %v; want %v", m, e, slowCheck(m))
				}
			}
		}
	}
}

func TestP21Expand(t *testing.T) {
	for _, x := range []struct {
		name string
		l    []api.Mark
		want string
	}{
		{"no list", nil, ""},
		{"no marks", []api.Mark{}, ""},
		{"a byte 0", []api.Mark{{}}, "\x00"},
		{"bytes", marks("a\x00\xff"), "a\x00\xff"},
		{"the document's", marks("abc", cp(6, 3)), "abcabcabc"},
		{"not into itself", marks("abcd", cp(3, 4)), "abcdabc"},
		{"just up to itself", marks("abcd", cp(3, 3)), "abcdbcd"},
		{"into itself", marks("abcd", cp(3, 2)), "abcdcdc"},
		{"one byte on and on", []api.Mark{lit('z'), cp(66, 1)}, strings.Repeat("z", 67)},
		{"of the first byte on", marks("xy", cp(5, 2)), "xyxyxyx"},
		{"a copy of a copy", marks("abc", cp(3, 3), cp(4, 5), lit('!'), cp(3, 2)), "abcabcbcab!b!b"},
		{"as many as may be, by bytes", marks(strings.Repeat("q", 512)), strings.Repeat("q", 512)},
		{"as many as may be, by a copy", marks(strings.Repeat("q", 446), cp(66, 446)), strings.Repeat("q", 512)},
		{"the farthest", marks("p"+strings.Repeat("q", 508), cp(3, 509)), "p" + strings.Repeat("q", 508) + "pqq"},
	} {
		if s, e := Expand(x.l); s != x.want || e != api.OK {
			t.Errorf("%s: %q, %v; want %q", x.name, s, e, x.want)
		}
	}
}

func TestP21ExpandWrong(t *testing.T) {
	full := strings.Repeat("q", 512)
	bad := api.Mark{Len: 2, Dist: 1}
	for _, x := range []struct {
		name string
		l    []api.Mark
		want api.Errno
	}{
		{"neither", []api.Mark{bad}, api.ErrForm},
		{"neither, behind others", marks("abc", cp(3, 3), bad), api.ErrForm},
		{"a copy with a byte", marks("abc", api.Mark{Len: 3, Dist: 3, Byte: 1}), api.ErrForm},
		{"far too long a copy", marks("abc", cp(math.MaxInt, 1)), api.ErrForm},
		{"a copy from itself", marks("abc", cp(3, 0)), api.ErrForm},
		{"a copy from behind", marks("abc", cp(3, -1)), api.ErrForm},
		{"a copy of nothing", []api.Mark{cp(3, 1)}, api.ErrDist},
		{"one too far", marks("abc", cp(3, 4)), api.ErrDist},
		{"far too far", marks("abc", cp(3, math.MaxInt)), api.ErrDist},
		{"one too far, behind a copy", marks("abc", cp(5, 3), cp(3, 9)), api.ErrDist},
		{"a byte too many", marks(full + "q"), api.ErrLarge},
		{"a copy's last byte too many", marks(full[:510], cp(3, 510)), api.ErrLarge},
		{"a long copy's last byte too many", marks(full[:447], cp(66, 1)), api.ErrLarge},
		{"a copy, where all is full", marks(full, cp(3, 512)), api.ErrLarge},
		{"neither, where all is full", marks(full, bad), api.ErrForm},
		{"neither, and too far, and too many", marks(full, cp(67, 513)), api.ErrForm},
		{"too far, and too many", marks(full, cp(3, 513)), api.ErrDist},
		{"too far, then neither", []api.Mark{cp(3, 1), bad}, api.ErrDist},
		{"neither, then too far", []api.Mark{bad, cp(3, 1)}, api.ErrForm},
		{"too many, then neither", marks(full+"q", bad), api.ErrLarge},
		{"too many, then too far", marks(full+"q", cp(3, 600)), api.ErrLarge},
		{"far too many", make([]api.Mark, 100000), api.ErrLarge},
	} {
		if s, e := Expand(x.l); s != "" || e != x.want {
			t.Errorf("%s: %d bytes, %v; want %v", x.name, len(s), e, x.want)
		}
	}
}

// someMarks: mostly right ones, up to a length at which the list may be too
// large.
func someMarks(r *rand.Rand) []api.Mark {
	var l []api.Mark
	wrong := r.Intn(2) * 60 // one in so many
	room := 0
	for range r.Intn(60) {
		m := lit(byte(r.Intn(256)))
		if room > 0 && r.Intn(2) == 0 {
			m = cp(3+r.Intn(1+r.Intn(64)), 1+r.Intn(room))
		}
		if wrong > 0 && r.Intn(wrong) == 0 {
			m = api.Mark{Len: r.Intn(70), Dist: r.Intn(2) * (room + r.Intn(2)), Byte: byte(r.Intn(2))}
		}
		l, room = append(l, m), room+max(m.Len, 1)
	}
	return l
}

// Each of the four ends must come up often, or the test has no worth.
func TestP21ExpandAnyMarks(t *testing.T) {
	r := rand.New(rand.NewSource(21))
	seen := map[api.Errno]int{}
	for range 5000 {
		l := someMarks(r)
		s, e := Expand(l)
		if want, f := slowExpand(l); s != want || e != f {
			t.Fatalf("Expand(%v) = %q, %v; want %q, %v", l, s, e, want, f)
		}
		seen[e]++
	}
	for _, e := range []api.Errno{api.OK, api.ErrForm, api.ErrDist, api.ErrLarge} {
		if seen[e] < 50 {
			t.Errorf("answer %v came %d times", e, seen[e])
		}
	}
}

func TestP22Find(t *testing.T) {
	for _, x := range []struct {
		name, s string
		want    int
	}{
		{"nothing", "", 0},
		{"a byte", "a", 1},
		{"a byte 0", "\x00", 1},
		{"two alike", "aa", 2},
		{"three alike", "aaa", 3},
		{"four alike", "aaaa", 2},
		{"the document's", "abcabcabc", 4},
		{"two that come again", "abxab", 5},
		{"three that come again", "abcxabc", 5},
		{"a shorter copy ahead of another", "abcdXdefYabcdef", 11},
		{"a byte ahead of a longer copy", "abcXbcdeYabcde", 11},
		{"a copy ahead of the end of another", "abcXcdefghYabcdefgh", 13},
	} {
		if l := checkFind(t, x.s); len(l) != x.want {
			t.Errorf("%s: %v; want %d marks", x.name, l, x.want)
		}
	}
	l, _ := Find("abcabcabc")
	if !slices.Equal(l, marks("abc", cp(6, 3))) {
		t.Error(l)
	}
}

// unlike: n bytes, of which no three come again, nor any of "abc".
func unlike(n int) string {
	var b []byte
	for i := 0; len(b) < n; i++ {
		b = append(b, byte(128+i%128), byte(i/128))
	}
	return string(b[:n])
}

func TestP22FindTheFarthest(t *testing.T) {
	s := "abc" + unlike(506) + "abc"
	l := checkFind(t, s)
	if len(s) != 512 || len(l) != 510 || l[509] != cp(3, 509) {
		t.Error(len(s), len(l), l[len(l)-1])
	}
}

// Nothing comes again: a mark each.
func TestP22FindWithoutCopies(t *testing.T) {
	for _, n := range []int{1, 2, 3, 100, 511, 512} {
		if l := checkFind(t, unlike(n)); !slices.Equal(l, marks(unlike(n))) {
			t.Errorf("%d bytes: %v", n, l)
		}
	}
}

// Of one byte on and on no copy but the last is cut short, unless fewer than
// three bytes would be left.
func TestP22FindOneByte(t *testing.T) {
	for n := 4; n <= 512; n++ {
		for _, b := range []string{"a", "\x00", "\xff"} {
			if l, e := Find(strings.Repeat(b, n)); e != api.OK || len(l) != 1+(n-1+65)/66 {
				t.Errorf("%d times %q: %v, %v", n, b, l, e)
			}
		}
	}
	for _, n := range []int{67, 68, 69, 70, 133, 134, 135, 136, 511, 512} {
		checkFind(t, strings.Repeat("a", n))
	}
}

// Each text of up to 13 bytes of two kinds, 9 of three and 7 of four.
func TestP22FindAllShortTexts(t *testing.T) {
	for kinds, most := range map[int]int{2: 13, 3: 9, 4: 7} {
		for n := range most + 1 {
			s := make([]byte, n)
			for {
				checkFind(t, string(s))
				if !step(s, kinds) {
					break
				}
			}
		}
	}
}

// step makes the next text of so many kinds of bytes; false behind the last.
func step(s []byte, kinds int) bool {
	for i := range s {
		if int(s[i]) < kinds-1 {
			s[i]++
			return true
		}
		s[i] = 0
	}
	return false
}

// someText: few kinds of bytes, or pieces of what came ahead with bytes
// between, or one piece on and on with bytes that are other.
func someText(r *rand.Rand, n int) string {
	var b []byte
	kinds := 1 + r.Intn(1+r.Intn(256))
	shape, long := r.Intn(3), 1+r.Intn(90)
	for len(b) < n {
		switch {
		case shape == 1 && len(b) > 0 && r.Intn(2) == 0:
			from := r.Intn(len(b))
			b = append(b, b[from:min(len(b), from+1+r.Intn(long))]...)
		case shape == 2 && len(b) >= long && r.Intn(20) != 0:
			b = append(b, b[len(b)-long])
		default:
			b = append(b, byte(r.Intn(kinds)))
		}
	}
	return string(b[:n])
}

func TestP22NoListIsShorter(t *testing.T) {
	r := rand.New(rand.NewSource(22))
	for range 1500 {
		checkFind(t, someText(r, r.Intn(api.MaxCluster+1)))
	}
	for range 100 {
		checkFind(t, someText(r, api.MaxCluster))
	}
}

func TestP22FindWrong(t *testing.T) {
	for _, s := range []string{strings.Repeat("a", 513), unlike(513), strings.Repeat("ab", 50000)} {
		if l, e := Find(s); len(l) != 0 || e != api.ErrLarge {
			t.Errorf("%d bytes: %v, %v", len(s), l, e)
		}
	}
}

func TestP2ListsStayAsTheyWere(t *testing.T) {
	l := marks("abc", cp(6, 3), cp(77, 77))
	before := slices.Clone(l)
	for _, n := range []int{4, 0, 1, 5} {
		Expand(l[:n])
		if !slices.Equal(l, before) {
			t.Fatal(l)
		}
	}
}

func TestP2AnswersAreNew(t *testing.T) {
	const s = "abcabcabcxyz"
	a, _ := Find(s)
	first := slices.Clone(a)
	for i := range a[:cap(a)] {
		a[:cap(a)][i] = cp(99, 99)
	}
	if b, e := Find(s); e != api.OK || !slices.Equal(b, first) {
		t.Error(b, e)
	}
}
