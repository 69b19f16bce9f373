package press

import (
	"math/rand"
	"slices"
	"strings"
	"testing"

	"linenpress/api"
)

func lit(b byte) api.Mark     { return api.Mark{Byte: b} }
func cp(n, dist int) api.Mark { return api.Mark{Len: n, Dist: dist} }

// lits: the bytes of s, each on its own, and then the marks that are told.
func lits(s string, then ...api.Mark) []api.Mark {
	var l []api.Mark
	for i := range len(s) {
		l = append(l, lit(s[i]))
	}
	return append(l, then...)
}

// even: n signs that have all the same length.
func even(n, w int) []int { return slices.Repeat([]int{w}, n) }

// made: a cluster of these marks, with a code that has each sign.
func made(s string, l []api.Mark) cluster {
	return cluster{size: len(s), count: len(l), first: even(320, 9), second: even(9, 4), marks: l}
}

// byHand is the document's `abcabcabc` in form 2, written by hand: 9 bytes, 4
// marks; 320 lengths: 2 for each of a, b, c and 259 (a copy of 6); 9 lengths: 1
// for sign 1 (from 2 or 3 back); the bits 00 01 10 11, 0, and 1.
const byHand = "\x02\x09\x04" +
	"\xc0\x02" + "\x0f\x0f\x0f\x0f\x0f\x0f\x00" + "\x22" + "\x0f\x0f\x0f\x0f\x0f\x0f\x0f\x0f\x0f\x0e" + "\x20" + "\x0f\x0f\x0f\x0b" +
	"\x09" + "\x00\x10\x06" +
	"\xd8\x02"

// checkOpen holds Open to the chapter's words.
func checkOpen(t *testing.T, text string) bool {
	t.Helper()
	s, e := Open(text)
	want, ok := slowOpen(text)
	if s != want || ok != (e == api.OK) || !ok && e != api.ErrForm {
		t.Fatalf("Open(%q) = %q, %v; want %q, %v", text, s, e, want, ok)
	}
	return ok
}

func isNone(t *testing.T, name, text string) {
	t.Helper()
	if s, e := Open(text); s != "" || e != api.ErrForm {
		t.Errorf("%s: %q, %v; want ErrForm", name, s, e)
	}
}

func opensAs(t *testing.T, name, text, want string) {
	t.Helper()
	if s, e := Open(text); s != want || e != api.OK {
		t.Errorf("%s: %q, %v; want %q", name, s, e, want)
	}
}

func TestP23WrittenByHand(t *testing.T) {
	opensAs(t, "form 2", byHand, "abcabcabc")
	opensAs(t, "form 1", "\x01\x09abcabcabc", "abcabcabc")
	opensAs(t, "form 1, empty", "\x01\x00", "")
	opensAs(t, "form 1, of noughts", "\x01\x02\x00\x00", "\x00\x00")
	opensAs(t, "form 0", "\x00\x02", "\x00\x00")
	opensAs(t, "form 0, empty", "\x00\x00", "")
	opensAs(t, "form 0, the most", "\x00\x80\x04", strings.Repeat("\x00", 512))
	opensAs(t, "form 1, the most", "\x01\x80\x04"+strings.Repeat("\xff", 512), strings.Repeat("\xff", 512))
}

// What Press makes of a text in which marks help, byte by byte: z, and copies
// of 66, 66 and 66 from 1 back.
func TestP23PressedByHand(t *testing.T) {
	want := "\x02\xc7\x01\x04" +
		"\xc0\x02" + strings.Repeat("\x0f", 7) + "\x09" + "\x10" + strings.Repeat("\x0f", 12) + "\x03" + "\x10" +
		"\x09" + "\x10\x07" +
		"\x2a"
	if p, e := Press(strings.Repeat("z", 199)); p != want || e != api.OK {
		t.Errorf("%q, %v; want %q", p, e, want)
	}
}

func TestP23FormsThatPressDoesNotMake(t *testing.T) {
	z := strings.Repeat("z", 512)
	longest := append([]int{1, 15, 15}, make([]int, 317)...)
	for _, x := range []struct {
		name string
		c    cluster
		want string
	}{
		{"no marks", cluster{first: make([]int, 320), second: make([]int, 9)}, ""},
		{"no marks, and codes", made("", nil), ""},
		{"noughts", made("\x00\x00", lits("\x00\x00")), "\x00\x00"},
		{"as many marks as may be", made(z, lits(z)), z},
		{"more marks than are needed", made("aaaa", lits("aaaa")), "aaaa"},
		{"a copy that need not be", made("aaaaaaaa", lits("aa", cp(3, 2), cp(3, 1))), "aaaaaaaa"},
		{"the shortest copy", made("abcabc", lits("abc", cp(3, 3))), "abcabc"},
		{"the longest copy", made(z[:67], lits("z", cp(66, 1))), z[:67]},
		{"the farthest copy", made("p"+z[:508]+"pzz", lits("p"+z[:508], cp(3, 509))), "p" + z[:508] + "pzz"},
		{"the longest codes", cluster{4, 4, longest, even(9, 0), lits("\x01\x00\x02\x01")}, "\x01\x00\x02\x01"},
		{"a code of one sign", cluster{3, 3, append([]int{3}, make([]int, 319)...), make([]int, 9), lits("\x00\x00\x00")}, "\x00\x00\x00"},
		{"one that ends with a byte", made("abcdefgh", lits("abcdefgh")), "abcdefgh"},
	} {
		opensAs(t, x.name, x.c.text(), x.want)
		checkOpen(t, x.c.text())
	}
}

func TestP23EachDistance(t *testing.T) {
	r := rand.New(rand.NewSource(231))
	for dist := 1; dist <= 509; dist++ {
		s := randomBytes(r, dist)
		want := s
		for range 3 {
			want += want[len(want)-dist : len(want)-dist+1]
		}
		opensAs(t, "a distance", made(want, lits(s, cp(3, dist))).text(), want)
	}
}

func TestP23EachLength(t *testing.T) {
	for n := 3; n <= 66; n++ {
		want := strings.Repeat("ab", 35)[:2+n]
		opensAs(t, "a length", made(want, lits("ab", cp(n, 2))).text(), want)
	}
}

// someCode: lengths while there is room for them, each of the signs that are
// needed among them.
func someCode(r *rand.Rand, need map[int]bool, count int) []int {
	l, left := make([]int, count), 1<<15
	for sign := range count {
		if need[sign] {
			l[sign] = 9 + r.Intn(7)
			left -= 1 << 15 >> l[sign]
		}
	}
	for range r.Intn(count) {
		sign, w := r.Intn(count), 1+r.Intn(15)
		had := 0
		if l[sign] > 0 {
			had = 1 << 15 >> l[sign]
		}
		if 1<<15>>w <= left+had {
			left += had - 1<<15>>w
			l[sign] = w
		}
	}
	return l
}

// someCluster: any marks with any codes that have their signs.
func someCluster(r *rand.Rand) (cluster, string) {
	c, s := cluster{}, ""
	signs, dists := map[int]bool{}, map[int]bool{}
	for range r.Intn(60) {
		m := lit(byte(r.Intn(256)))
		if len(s) > 0 && r.Intn(2) == 0 {
			m = cp(3+r.Intn(1+r.Intn(64)), 1+r.Intn(min(511, len(s))))
		}
		if len(s)+max(m.Len, 1) > 512 {
			break
		}
		c.marks = append(c.marks, m)
		if m.Len == 0 {
			signs[int(m.Byte)] = true
			s += string([]byte{m.Byte})
			continue
		}
		signs[m.Len+253] = true
		dists[len(bitsOfDist(m.Dist))-1] = true
		for range m.Len {
			s += s[len(s)-m.Dist : len(s)-m.Dist+1]
		}
	}
	c.size, c.count = len(s), len(c.marks)
	c.first, c.second = someCode(r, signs, 320), someCode(r, dists, 9)
	return c, s
}

// bitsOfDist: a distance in as few bits as there may be.
func bitsOfDist(dist int) string { return strings.TrimLeft(bitsOf(dist, 10), "0") }

func TestP25OpenAnyCodes(t *testing.T) {
	r := rand.New(rand.NewSource(25))
	for range 1500 {
		c, want := someCluster(r)
		opensAs(t, "any codes", c.text(), want)
		if t.Failed() {
			t.Fatalf("%+v", c)
		}
	}
}

func TestP25OpenWrong(t *testing.T) {
	for name, text := range map[string]string{
		"nothing":                         "",
		"only form 0":                     "\x00",
		"only form 1":                     "\x01",
		"only form 2":                     "\x02",
		"form 3":                          "\x03\x00",
		"form 3, as form 1":               "\x03\x02hi",
		"form 255":                        "\xff\x00",
		"a form as a sign":                "0\x00",
		"form 0 and a byte":               "\x00\x01x",
		"form 0 and its bytes":            "\x00\x01\x00",
		"form 0, too large":               "\x00\x81\x04",
		"form 0, far too large":           "\x00\xff\xff\xff\xff\xff\xff\xff\xff\xff\x01",
		"form 0, 2^32":                    "\x00\x80\x80\x80\x80\x10",
		"a number that ends early":        "\x00\x80",
		"a number with a nought too many": "\x00\x81\x00",
		"a nought as two bytes":           "\x01\x80\x00",
		"a number of eleven bytes":        "\x00\xff\xff\xff\xff\xff\xff\xff\xff\xff\xff\x01",
		"form 1, a byte too few":          "\x01\x03hi",
		"form 1, a byte too many":         "\x01\x01hi",
		"form 1, too large":               "\x01\x81\x04" + strings.Repeat("a", 513),
		"form 1, a long text behind":      "\x01\x01" + strings.Repeat("a", 100000),
		"form 2, no marks told":           "\x02\x01",
		"form 2, no lengths":              "\x02\x00\x00",
		"form 2, a number that is none":   "\x02\x00\x80\x00",
	} {
		isNone(t, name, text)
		checkOpen(t, text)
	}
}

func TestP25OpenWrongMarks(t *testing.T) {
	z := strings.Repeat("z", 512)
	over := append([]int{1, 1, 15}, make([]int, 317)...)
	for _, x := range []struct {
		name string
		c    cluster
	}{
		{"a size too small", cluster{3, 4, even(320, 9), even(9, 4), lits("abcd")}},
		{"a size too great", cluster{5, 4, even(320, 9), even(9, 4), lits("abcd")}},
		{"a size above 512", made(z+"z", lits(z))},
		{"more than 512 bytes", cluster{512, 513, even(320, 9), even(9, 4), lits(z + "z")}},
		{"more than 512 bytes, by a copy", cluster{512, 511, even(320, 9), even(9, 4), lits(z[:510], cp(3, 1))}},
		{"far more", cluster{0, 40, even(320, 9), even(9, 4), lits("z", slices.Repeat([]api.Mark{cp(66, 1)}, 39)...)}},
		{"a mark too few", cluster{4, 5, even(320, 9), even(9, 4), lits("abcd")}},
		{"marks that are not told", cluster{4, 4, even(320, 9), even(9, 4), lits("abcdef")}},
		{"a copy of nothing", cluster{3, 1, even(320, 9), even(9, 4), lits("", cp(3, 1))}},
		{"one too far", made("abcabc", lits("abc", cp(3, 4)))},
		{"far too far", made("abcabc", lits("abc", cp(3, 511)))},
		{"319 signs", cluster{4, 4, even(319, 9), even(9, 4), lits("abcd")}},
		{"no signs", cluster{0, 0, nil, even(9, 4), nil}},
		{"8 distances", cluster{4, 4, even(320, 9), even(8, 4), lits("abcd")}},
		{"10 distances", cluster{4, 4, even(320, 9), even(10, 4), lits("abcd")}},
		{"320 distances", cluster{4, 4, even(320, 9), even(320, 9), lits("abcd")}},
		{"no distances", cluster{4, 4, even(320, 9), nil, lits("abcd")}},
		{"signs over the room", cluster{0, 0, over, even(9, 4), nil}},
		{"signs over the room, and a mark", cluster{1, 1, over, even(9, 4), lits("\x00")}},
		{"distances over the room", cluster{4, 4, even(320, 9), even(9, 3), lits("abcd")}},
	} {
		isNone(t, x.name, x.c.text())
		checkOpen(t, x.c.text())
	}
}

func TestP25OpenBitsThatAreNone(t *testing.T) {
	three := cluster{3, 3, append([]int{2, 2, 2}, make([]int, 317)...), append([]int{2}, make([]int, 8)...), lits("\x00\x01\x02")}
	head := three.ahead()
	opensAs(t, "three signs", head+bitsText("000110"), "\x00\x01\x02")
	isNone(t, "a code that is none", head+bitsText("000111"))
	isNone(t, "no bits", head)
	isNone(t, "a bit left over", head+bitsText("0001101"))
	isNone(t, "the last bit left over", head+bitsText("00011001"))
	isNone(t, "a byte 0 behind", head+bitsText("000110")+"\x00")
	isNone(t, "a byte behind", head+bitsText("000110")+"x")
	none := cluster{first: make([]int, 320), second: make([]int, 9)}
	isNone(t, "a byte 0 behind no marks", none.text()+"\x00")
	none.count = 1
	isNone(t, "a mark, and no codes", none.text()+"\x00")
	short := made("abcdefgh", lits("abcdefgh")).text() // 72 bits: no bit is left of the last byte
	isNone(t, "a byte 0 behind a byte that is full", short+"\x00")
	isNone(t, "a sign that ends early", short[:len(short)-1])
}

func TestP25OpenDistancesThatAreNone(t *testing.T) {
	few := made("abcabc", lits("abc", cp(3, 3)))
	few.second = []int{0, 2, 0, 0, 0, 0, 0, 0, 0}
	text := few.ahead()
	ahead := made("abc", lits("abc", cp(3, 3))).bits()[:36]
	opensAs(t, "a distance", text+bitsText(ahead+"00"+"1"), "abcabc")
	opensAs(t, "a nearer one", text+bitsText(ahead+"00"+"0"), "abcbcb")
	isNone(t, "a sign that is none", text+bitsText(ahead+"10"+"1"))
	eight := made("abcdefgefg", lits("abcdefg", cp(3, 3))) // their signs end with a byte: no bit is left for the distance
	isNone(t, "no sign", eight.ahead()+bitsText(eight.bits()[:72]))
	far := few
	far.second = []int{0, 0, 0, 0, 0, 0, 0, 0, 1}
	isNone(t, "a distance that ends early", far.ahead()+bitsText(ahead+"0"))
	isNone(t, "a distance that is too far", far.ahead()+bitsText(ahead+"0"+"00000000"))
}

func TestP25OpenRunsThatAreNone(t *testing.T) {
	split := strings.Replace(byHand, "\x22", "\x20\x21", 1)
	isNone(t, "a run that is cut", split)
	isNone(t, "a run beyond the signs", strings.Replace(byHand, "\x0b\x09", "\x0c\x09", 1))
	isNone(t, "a run too few", strings.Replace(byHand, "\x0b\x09", "\x0a\x09", 1))
	isNone(t, "a number of signs in three bytes", strings.Replace(byHand, "\xc0\x02", "\xc0\x82\x00", 1))
	for _, text := range []string{split, byHand} {
		checkOpen(t, text)
	}
}

// Each text that is cut short is none, and so is each that goes on.
func TestP25OpenCutShort(t *testing.T) {
	r := rand.New(rand.NewSource(251))
	texts := []string{byHand, "\x00\x80\x04", "\x01\x05linen"}
	for range 20 {
		p, _ := Press(someText(r, 1+r.Intn(512)))
		texts = append(texts, p)
	}
	for _, text := range texts {
		for n := range len(text) {
			isNone(t, "cut short", text[:n])
		}
		for _, more := range []string{"\x00", "a", "\xff", text} {
			isNone(t, "gone on with", text+more)
		}
	}
}

// Each bit of some texts turned: both ends must come up often.
func TestP25OpenABitTurned(t *testing.T) {
	r := rand.New(rand.NewSource(252))
	texts := []string{byHand, "\x00\x07", "\x01\x05linen"}
	for range 5 {
		p, _ := Press(someText(r, 200+r.Intn(313)))
		c, _ := someCluster(r)
		texts = append(texts, p, c.text())
	}
	seen := map[bool]int{}
	for _, text := range texts {
		for i := range 8 * len(text) {
			b := []byte(text)
			b[i/8] ^= 1 << (i % 8)
			seen[checkOpen(t, string(b))]++
		}
	}
	if seen[true] < 200 || seen[false] < 200 {
		t.Error(seen)
	}
}

// Any bytes behind what a form begins with.
func TestP25OpenAnyBytes(t *testing.T) {
	r := rand.New(rand.NewSource(253))
	for range 3000 {
		c, _ := someCluster(r)
		c.size, c.count = r.Intn(520), r.Intn(1+r.Intn(520))
		checkOpen(t, c.ahead()+randomBytes(r, r.Intn(80)))
		checkOpen(t, string([]byte{byte(r.Intn(4))})+randomBytes(r, r.Intn(40)))
		checkOpen(t, randomBytes(r, r.Intn(10)))
	}
}
