package press

import (
	mathbits "math/bits"

	"linenpress/api"
	"linenpress/bits"
	"linenpress/code"
	"linenpress/huff"
	"linenpress/lz"
	"linenpress/num"
	"linenpress/runs"
)

// copySign is how much more the sign of a copy is than its Len, so that copies
// stand behind the 256 bytes.
const copySign = 253

// writeMarks: the body of a cluster's form of marks. None of the calls below
// has an error to tell: a cluster is not too large, it has at most 512 marks,
// and their signs have codes.
func writeMarks(s string) string {
	marks, _ := lz.Find(s)
	signs, dists := signsOf(marks)
	first, pieces := encode(signs, api.MaxSigns)
	second, distPieces := encode(dists, api.MaxDists)
	packed, _ := bits.Pack(weave(marks, pieces, dists, distPieces))
	return num.Put(uint64(len(marks))) + first + second + packed
}

// signsOf: the sign of each mark, and of each copy the sign of its Dist.
func signsOf(marks []api.Mark) (signs, dists []int) {
	for _, m := range marks {
		if m.Len == 0 {
			signs = append(signs, int(m.Byte))
			continue
		}
		signs = append(signs, m.Len+copySign)
		dists = append(dists, mathbits.Len(uint(m.Dist))-1)
	}
	return signs, dists
}

// encode: the lengths of the best code for these signs, of so many that there
// may be, as bytes; and the signs in that code.
func encode(signs []int, count int) (string, []api.Piece) {
	freq := make([]int, count)
	for _, sign := range signs {
		freq[sign]++
	}
	l, _ := huff.Lens(freq, api.MaxLen)
	told, _ := runs.Write(l)
	pieces, _ := code.Write(l, signs)
	return told, pieces
}

// weave lays behind the piece of each copy the piece of its Dist's sign, and
// what the sign leaves open of it.
func weave(marks []api.Mark, pieces []api.Piece, dists []int, distPieces []api.Piece) []api.Piece {
	var l []api.Piece
	copies := 0
	for i, m := range marks {
		l = append(l, pieces[i])
		if m.Len > 0 {
			k := dists[copies]
			l = append(l, distPieces[copies], api.Piece{Val: uint64(m.Dist - 1<<k), Width: k})
			copies++
		}
	}
	return l
}

// readMarks: the cluster that the body of a form of marks tells of.
func readMarks(body string) (string, bool) {
	count, k, e := num.Get(body)
	if e != api.OK || count > api.MaxCluster {
		return "", false
	}
	first, body, ok := readBook(body[k:], api.MaxSigns)
	if !ok {
		return "", false
	}
	second, body, ok := readBook(body, api.MaxDists)
	if !ok {
		return "", false
	}
	r := reader{text: body, signs: first, dists: second}
	marks := make([]api.Mark, count)
	for i := range marks {
		if marks[i], ok = r.mark(); !ok {
			return "", false
		}
	}
	s, e := lz.Expand(marks)
	return s, e == api.OK && r.atEnd()
}

// readBook: the code whose lengths body begins with, and what stands behind
// them.
func readBook(body string, count int) (*code.Book, string, bool) {
	l, k, e := runs.Read(body)
	if e != api.OK || len(l) != count {
		return nil, "", false
	}
	book, e := code.BookOf(l)
	return book, body[k:], e == api.OK
}

// reader goes through the bits of marks.
type reader struct {
	text         string
	at           int
	signs, dists *code.Book
}

func (r *reader) mark() (api.Mark, bool) {
	sign, ok := r.sign(r.signs)
	if !ok {
		return api.Mark{}, false
	}
	if sign < api.MinCopy+copySign {
		return api.Mark{Byte: byte(sign)}, true
	}
	k, ok := r.sign(r.dists)
	if !ok {
		return api.Mark{}, false
	}
	rest, ok := r.number(k)
	return api.Mark{Len: sign - copySign, Dist: 1<<k + rest}, ok
}

func (r *reader) sign(book *code.Book) (int, bool) {
	sign, at, e := book.Next(r.text, r.at)
	r.at = at
	return sign, e == api.OK
}

// number: the next w bits.
func (r *reader) number(w int) (int, bool) {
	l, e := bits.Unpack(r.text[r.at/8:], []int{r.at % 8, w})
	if e != api.OK {
		return 0, false
	}
	r.at += w
	return int(l[1]), true
}

// atEnd: what is left is less than a byte, and 0.
func (r *reader) atEnd() bool {
	rest := r.text[r.at/8:]
	if r.at%8 == 0 {
		return rest == ""
	}
	return len(rest) == 1 && rest[0]>>(r.at%8) == 0
}
