// Package bits: numbers as bits: see doc/01-bits.md.
package bits

import "linenpress/api"

const maxWidth = 64

// Pack: see the chapter.
func Pack(l []api.Piece) (string, api.Errno) {
	total := 0
	for _, p := range l {
		if e := checkPiece(p); e != api.OK {
			return "", e
		}
		total += p.Width
	}
	if total > api.MaxBits {
		return "", api.ErrLarge
	}
	room := make([]byte, (total+7)/8)
	at := 0
	for _, p := range l {
		put(room, at, p)
		at += p.Width
	}
	return string(room), api.OK
}

// Unpack: see the chapter.
func Unpack(s string, widths []int) ([]uint64, api.Errno) {
	total := 0
	for _, w := range widths {
		if !isWidth(w) {
			return nil, api.ErrArg
		}
		total += w
	}
	if total > 8*len(s) {
		return nil, api.ErrShort
	}
	next := reader(s)
	out := make([]uint64, len(widths))
	for i, w := range widths {
		out[i] = next(w)
	}
	return out, api.OK
}

// Flip: see the chapter.
func Flip(n uint64, w int) uint64 {
	w = min(max(w, 0), maxWidth)
	turned := uint64(0)
	for range w {
		turned = turned<<1 | n&1
		n >>= 1
	}
	return turned
}

func isWidth(w int) bool { return 0 <= w && w <= maxWidth }

// checkPiece looks at the width first: a shift by less than 0 would panic.
func checkPiece(p api.Piece) api.Errno {
	if !isWidth(p.Width) {
		return api.ErrArg
	}
	if p.Val>>p.Width != 0 {
		return api.ErrLarge
	}
	return api.OK
}

// put lays a checked piece into room from bit at on. Nothing of Val stands
// above Width, so that what is left of its last byte stays as it was.
func put(room []byte, at int, p api.Piece) {
	for done := 0; done < p.Width; {
		off := (at + done) % 8
		room[(at+done)/8] |= byte(p.Val >> done << off)
		done += 8 - off
	}
}

// reader's function answers the next w bits of s each time. Whoever calls it
// has seen that they are there.
func reader(s string) func(w int) uint64 {
	at := 0
	return func(w int) uint64 {
		n := uint64(0)
		for done := 0; done < w; {
			off := (at + done) % 8
			n |= uint64(s[(at+done)/8]>>off) << done
			done += 8 - off
		}
		at += w
		return n & (1<<w - 1) // the last byte may have brought bits of the next number
	}
}
