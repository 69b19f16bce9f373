package press

import (
	"slices"
	"strings"

	"linenpress/api"
)

// Here are the chapter's words, done slowly, on texts of 0 and 1 where there
// are bits, and without the packages that Press and Open are made of.

func slowPut(n int) string {
	var b []byte
	for ; n >= 128; n /= 128 {
		b = append(b, byte(n%128+128))
	}
	return string(append(b, byte(n)))
}

// slowGet: the number that s begins with and what is behind it, if slowPut
// makes the same bytes of it. (No number here has more than three bytes.)
func slowGet(s string) (int, string, bool) {
	n, unit := 0, 1
	for i := range min(len(s), 3) {
		n += int(s[i]%128) * unit
		unit *= 128
		if s[i] < 128 {
			return n, s[i+1:], slowPut(n) == s[:i+1]
		}
	}
	return 0, "", false
}

// slowRuns: the lengths as bytes.
func slowRuns(l []int) string {
	s := slowPut(len(l))
	for i := 0; i < len(l); {
		n := 1
		for i+n < len(l) && n < 16 && l[i+n] == l[i] {
			n++
		}
		s += string([]byte{byte(16*l[i] + n - 1)})
		i += n
	}
	return s
}

// slowLens: the lengths of so many signs that s begins with and what is behind
// them, if slowRuns makes the same bytes of them.
func slowLens(s string, count int) ([]int, string, bool) {
	n, rest, ok := slowGet(s)
	if !ok || n != count {
		return nil, "", false
	}
	var l []int
	for ; len(l) < count && rest != ""; rest = rest[1:] {
		for range rest[0]%16 + 1 {
			l = append(l, int(rest[0]/16))
		}
	}
	if len(l) != count || slowRuns(l)+rest != s {
		return nil, "", false
	}
	return l, rest, true
}

// slowCodes: each sign by its code as a text of 0 and 1; false, if there is no
// room for them all.
func slowCodes(l []int) (map[string]int, bool) {
	codes := map[string]int{}
	next, unit := 0, 1<<15 // a code of w bits stands for 2^(15-w) numbers of 15 bits
	for w := 1; w <= 15; w++ {
		unit /= 2
		for sign, have := range l {
			if have == w {
				codes[bitsOf(next/unit, w)] = sign
				next += unit
			}
		}
	}
	return codes, next <= 1<<15
}

// bitsOf: the lowest w bits of n, the highest first.
func bitsOf(n, w int) string { return turned(bitsUp(n, w)) }

// bitsUp: the lowest w bits of n, the lowest first.
func bitsUp(n, w int) string {
	b := make([]byte, w)
	for i := range b {
		b[i] = '0' + byte(n>>i%2)
	}
	return string(b)
}

func turned(s string) string {
	b := []byte(s)
	slices.Reverse(b)
	return string(b)
}

// textBits: the bits of s from its first on.
func textBits(s string) string {
	var b strings.Builder
	for i := range len(s) {
		b.WriteString(bitsUp(int(s[i]), 8))
	}
	return b.String()
}

// bitsText: the way back; the bits that are left of the last byte are 0.
func bitsText(all string) string {
	b := make([]byte, (len(all)+7)/8)
	for i, c := range all {
		if c == '1' {
			b[i/8] |= 1 << (i % 8)
		}
	}
	return string(b)
}

// slowSign: the sign that all begins with, and what is behind it.
func slowSign(codes map[string]int, all string) (int, string, bool) {
	for w := 1; w <= min(15, len(all)); w++ {
		if sign, ok := codes[all[:w]]; ok {
			return sign, all[w:], true
		}
	}
	return 0, "", false
}

// slowMark adds to s what the mark that all begins with stands for.
func slowMark(s, all string, first, second map[string]int) (string, string, bool) {
	sign, all, ok := slowSign(first, all)
	if !ok {
		return "", "", false
	}
	if sign < 256 {
		return s + string([]byte{byte(sign)}), all, true
	}
	k, all, ok := slowSign(second, all)
	if !ok || len(all) < k {
		return "", "", false
	}
	dist := 1 << k
	for i := range k {
		dist += int(all[i]-'0') << i
	}
	if dist > len(s) {
		return "", "", false
	}
	for range sign - 253 {
		s += s[len(s)-dist : len(s)-dist+1]
	}
	return s, all[k:], true
}

// slowMarks: what the body of form 2 stands for.
func slowMarks(body string) (string, bool) {
	count, body, ok := slowGet(body)
	l, body, ok1 := slowLens(body, 320)
	m, body, ok2 := slowLens(body, 9)
	first, ok3 := slowCodes(l)
	second, ok4 := slowCodes(m)
	if !ok || !ok1 || !ok2 || !ok3 || !ok4 || count > 512 {
		return "", false
	}
	s, all := "", textBits(body)
	for range count {
		if s, all, ok = slowMark(s, all, first, second); !ok || len(s) > 512 {
			return "", false
		}
	}
	return s, len(all) < 8 && !strings.Contains(all, "1")
}

// slowOpen: the cluster of which t is a pressed form, and whether it is one.
func slowOpen(t string) (string, bool) {
	if t == "" {
		return "", false
	}
	n, body, ok := slowGet(t[1:])
	if !ok || n > 512 {
		return "", false
	}
	s := ""
	switch t[0] {
	case 0:
		s, ok = strings.Repeat("\x00", n), body == ""
	case 1:
		s = body
	case 2:
		s, ok = slowMarks(body)
	default:
		ok = false
	}
	if !ok || len(s) != n {
		return "", false
	}
	return s, true
}

// cluster: a form 2 that is made by hand. What is wrong in it is made as it is
// told; a sign without a code has no bits.
type cluster struct {
	size, count   int
	first, second []int
	marks         []api.Mark
}

// signBits: the code of each sign.
func signBits(l []int) map[int]string {
	codes, _ := slowCodes(l)
	of := map[int]string{}
	for s, sign := range codes {
		of[sign] = s
	}
	return of
}

func (c cluster) bits() string {
	var all strings.Builder
	first, second := signBits(c.first), signBits(c.second)
	for _, m := range c.marks {
		if m.Len == 0 {
			all.WriteString(first[int(m.Byte)])
			continue
		}
		k := 0
		for 2<<k <= m.Dist {
			k++
		}
		all.WriteString(first[m.Len+253] + second[k] + bitsUp(m.Dist-1<<k, k))
	}
	return all.String()
}

func (c cluster) ahead() string {
	return "\x02" + slowPut(c.size) + slowPut(c.count) + slowRuns(c.first) + slowRuns(c.second)
}

func (c cluster) text() string { return c.ahead() + bitsText(c.bits()) }
