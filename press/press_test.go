package press

import (
	"math/rand"
	"strings"
	"testing"
	"unsafe"

	"linenpress/api"
)

// checkPress holds Press to all that the promise says of a cluster, and answers
// what it was pressed to.
func checkPress(t *testing.T, s string) string {
	t.Helper()
	p, e := Press(s)
	if e != api.OK {
		t.Fatalf("Press(%q): %v", s, e)
	}
	if u, ok := slowOpen(p); u != s || !ok {
		t.Fatalf("Press(%q) = %q, which is a form of %q, %v", s, p, u, ok)
	}
	if u, e := Open(p); u != s || e != api.OK {
		t.Fatalf("Open(%q) = %q, %v; want %q", p, u, e, s)
	}
	if plain := "\x01" + slowPut(len(s)) + s; len(p) > len(plain) {
		t.Fatalf("Press(%q) = %q: %d bytes; form 1 has %d", s, p, len(p), len(plain))
	}
	if again, e := Press(s); again != p || e != api.OK {
		t.Fatalf("Press(%q) = %q, and then %q, %v", s, p, again, e)
	}
	return p
}

// someText: few kinds of bytes, or pieces of what came ahead with bytes
// between, or one piece on and on with bytes that are other.
func someText(r *rand.Rand, n int) string {
	var b []byte
	kinds := 1 + r.Intn(1+r.Intn(256))
	shape, long := r.Intn(3), 1+r.Intn(90)
	for len(b) < n {
		switch {
		case shape == 1 && len(b) > 0 && r.Intn(2) == 0:
			from := r.Intn(len(b))
			b = append(b, b[from:min(len(b), from+1+r.Intn(long))]...)
		case shape == 2 && len(b) >= long && r.Intn(20) != 0:
			b = append(b, b[len(b)-long])
		default:
			b = append(b, byte(r.Intn(kinds)))
		}
	}
	return string(b[:n])
}

func randomBytes(r *rand.Rand, n int) string {
	b := make([]byte, n)
	r.Read(b)
	return string(b)
}

func TestP24PressNoughts(t *testing.T) {
	for n := range 513 {
		s := strings.Repeat("\x00", n)
		if p := checkPress(t, s); p != "\x00"+slowPut(n) {
			t.Errorf("%d bytes 0: %q", n, p)
		}
	}
	if p, e := Press(strings.Repeat("\x00", 300)); p != "\x00\xac\x02" || e != api.OK {
		t.Errorf("the document's: %q, %v", p, e)
	}
}

func TestP24PressOneOtherByteAmongNoughts(t *testing.T) {
	for _, n := range []int{1, 2, 3, 50, 127, 128, 511, 512} {
		for _, at := range []int{0, n / 2, n - 1} {
			s := []byte(strings.Repeat("\x00", n))
			s[at] = 1
			if p := checkPress(t, string(s)); p[0] == 0 {
				t.Errorf("a byte 1 at %d of %d: %q", at, n, p)
			}
		}
	}
}

func TestP24PressAsItIs(t *testing.T) {
	r := rand.New(rand.NewSource(240))
	for _, s := range []string{"a", "ab", "\xff", "\x00a", "abcabcabc", randomBytes(r, 127), randomBytes(r, 128), randomBytes(r, 511), randomBytes(r, 512)} {
		if p := checkPress(t, s); p != "\x01"+slowPut(len(s))+s {
			t.Errorf("%q: %q", s, p)
		}
	}
}

func TestP24PressAllAlike(t *testing.T) {
	check := func(b, n int) {
		t.Helper()
		if p := checkPress(t, strings.Repeat(string([]byte{byte(b)}), n)); len(p) > 100 {
			t.Errorf("%d times %d: %d bytes", n, b, len(p))
		}
	}
	for n := 128; n <= 512; n++ {
		check(n%255+1, n)
	}
	for b := range 256 {
		check(b, 128)
		check(b, 512)
	}
}

func TestP24PressPresses(t *testing.T) {
	for _, x := range []struct {
		name, s string
		most    int
	}{
		{"two bytes by turns", strings.Repeat("ab", 256), 60},
		{"a line again and again", strings.Repeat("the linen is pressed, and laid by; ", 14), 130},
		{"few kinds of bytes", someOf("acgt", 512), 250},
	} {
		if p := checkPress(t, x.s); p[0] != 2 || len(p) > x.most {
			t.Errorf("%s: form %d, %d bytes; want at most %d", x.name, p[0], len(p), x.most)
		}
	}
}

func someOf(kinds string, n int) string {
	r := rand.New(rand.NewSource(241))
	b := make([]byte, n)
	for i := range b {
		b[i] = kinds[r.Intn(len(kinds))]
	}
	return string(b)
}

// Forms 1 and 2 must both come up often, or the test has no worth.
func TestP24PressAnyText(t *testing.T) {
	r := rand.New(rand.NewSource(24))
	seen := map[byte]int{}
	for range 2000 {
		seen[checkPress(t, someText(r, r.Intn(513)))[0]]++
	}
	for range 200 {
		seen[checkPress(t, someText(r, 512))[0]]++
	}
	if seen[1] < 100 || seen[2] < 100 {
		t.Error(seen)
	}
}

func TestP24PressWrong(t *testing.T) {
	for _, s := range []string{strings.Repeat("a", 513), strings.Repeat("\x00", 513), strings.Repeat("ab", 50000)} {
		if p, e := Press(s); p != "" || e != api.ErrLarge {
			t.Errorf("%d bytes: %q, %v", len(s), p, e)
		}
	}
}

// within: whether a piece of whole's memory is given as s.
func within(s, whole string) bool {
	if s == "" {
		return false
	}
	from, at := uintptr(unsafe.Pointer(unsafe.StringData(whole))), uintptr(unsafe.Pointer(unsafe.StringData(s)))
	return from <= at && at < from+uintptr(len(whole))
}

func TestP2TextsAreNew(t *testing.T) {
	for _, s := range []string{"linen", strings.Repeat("\x00", 9), strings.Repeat("ab", 200), someOf("acgt", 512)} {
		p, _ := Press(s)
		u, _ := Open(p)
		plain := "\x01" + slowPut(len(s)) + s
		v, _ := Open(plain)
		if within(p, s) || within(s, p) || within(u, p) || within(v, plain) || v != s {
			t.Errorf("%q: a text is a piece of another", s)
		}
	}
}
