package blob

import (
	"math/rand"
	"slices"
	"strings"
	"testing"
	"time"

	"linenpress/api"
)

// slowSplit is the chapter's words: each cell takes as many as Write takes, by
// trial from the most on.
func slowSplit(l []api.Blob) ([]int, api.Errno) {
	for _, b := range l {
		if e := slowCheck(b); e != api.OK {
			return nil, e
		}
	}
	var out []int
	for len(l) > 0 {
		n := len(l)
		for _, e := slowWrite(l[:n], false); e != api.OK; _, e = slowWrite(l[:n], false) {
			n--
		}
		out, l = append(out, n), l[n:]
	}
	return out, api.OK
}

func TestP36Split(t *testing.T) {
	for _, x := range []struct {
		name string
		l    []api.Blob
		want []int
	}{
		{"no list", nil, nil},
		{"nothing in it", []api.Blob{}, nil},
		{"one", []api.Blob{gone(1)}, []int{1}},
		{"one of no byte", []api.Blob{data(0, 0, "")}, []int{1}},
		{"as great a one as may be", []api.Blob{inode(1, full)}, []int{1}},
		{"each in a cell of its own", []api.Blob{inode(1, full), inode(2, full), inode(3, full)}, []int{1, 1, 1}},
		{"as many as may be", goneOnes(40), []int{40}},
		{"one more", goneOnes(41), []int{40, 1}},
		{"two full cells", goneOnes(80), []int{40, 40}},
		{"two full cells, one more", goneOnes(81), []int{40, 40, 1}},
		{"just as many bytes as may be", []api.Blob{sized(498), sized(500)}, []int{2}},
		{"a byte more", []api.Blob{sized(499), sized(500)}, []int{1, 1}},
		{"just as many bytes, one that is gone", []api.Blob{sized(500), sized(494), gone(1)}, []int{3}},
		{"one byte too many for one that is gone", []api.Blob{sized(500), sized(495), gone(1)}, []int{2, 1}},
		{"40 of just as many bytes", append(goneOnes(38), sized(500), sized(346)), []int{40}},
		{"41 of just as many bytes", append(goneOnes(39), sized(500), sized(342)), []int{40, 1}},
		{"a small one does not go ahead of a great one", []api.Blob{sized(600), sized(600), gone(1), sized(600), gone(2)}, []int{1, 2, 2}},
		{"full by number, then by bytes", append(goneOnes(40), sized(600), sized(399), gone(1)), []int{40, 1, 2}},
		{"a number of two bytes has room", []api.Blob{sized(500), sized(365), data(1, 0, full[:128])}, []int{3}},
		{"a number of two bytes has no room", []api.Blob{sized(500), sized(366), data(1, 0, full[:128])}, []int{2, 1}},
		{"a number of one byte has", []api.Blob{sized(500), sized(367), data(1, 0, full[:127])}, []int{3}},
	} {
		got, e := Split(x.l)
		if want, _ := slowSplit(x.l); !slices.Equal(got, x.want) || e != api.OK || !slices.Equal(got, want) {
			t.Errorf("%s: %v, %v; want %v, and slowly %v", x.name, got, e, x.want, want)
		}
	}
}

func TestP36SplitWrong(t *testing.T) {
	for _, x := range blobs {
		if x.want == api.OK {
			continue
		}
		for _, n := range []int{0, 1, 39, 40, 41, 200} {
			for _, behind := range [][]api.Blob{nil, {gone(1)}, {gone(48)}, {data(1, 1, large)}} {
				l := append(append(goneOnes(n), x.b), behind...)
				if got, e := Split(l); len(got) != 0 || e != x.want {
					t.Errorf("%s, behind %d: %v, %v; want %v", x.name, n, got, e, x.want)
				}
			}
		}
	}
}

func TestP36SplitEachEdge(t *testing.T) {
	for n := 5; n <= 605; n++ {
		for _, more := range []int{-1, 0, 1} {
			l := []api.Blob{sized(n), sized(min(605, 998-n+more)), gone(1), gone(2)}
			want, _ := slowSplit(l)
			if got, e := Split(l); !slices.Equal(got, want) || e != api.OK {
				t.Fatalf("%d bytes, %+d: %v, %v; want %v", n, more, got, e, want)
			}
		}
	}
}

func TestP36SplitAnyBlobs(t *testing.T) {
	r := rand.New(rand.NewSource(36))
	wrong := 0
	for range 2000 {
		l := someBlobs(r, 1+r.Intn(150))
		want, f := slowSplit(l)
		if got, e := Split(l); !slices.Equal(got, want) || e != f {
			t.Fatalf("Split(%v) = %v, %v; want %v, %v", l, got, e, want, f)
		}
		if f != api.OK {
			wrong++
		}
	}
	if wrong < 100 || wrong > 1000 {
		t.Error(wrong)
	}
}

// Write takes what Split gives each cell, and not one blob more.
func TestP36WriteTakesEachCell(t *testing.T) {
	r := rand.New(rand.NewSource(37))
	for range 500 {
		var l []api.Blob
		for range r.Intn(120) {
			l = append(l, someBlob(r))
		}
		cells, e := Split(l)
		if e != api.OK {
			t.Fatal(l, e)
		}
		for _, n := range cells {
			if _, e := Write(l[:n], true); e != api.OK || n == 0 {
				t.Fatalf("Write takes no %d of %v: %v", n, l, e)
			}
			if n < len(l) {
				if _, e := Write(l[:n+1], true); e != api.ErrLarge {
					t.Fatalf("Write takes more than %d of %v: %v", n, l, e)
				}
			}
			l = l[n:]
		}
		if len(l) != 0 {
			t.Fatal("left over:", l)
		}
	}
}

// Split is answered soon, however many there are.
func TestP36SplitOfMany(t *testing.T) {
	l := goneOnes(2000000)
	from := time.Now()
	got, e := Split(l)
	if e != api.OK || len(got) != 50000 || slices.Min(got) != 40 {
		t.Error(len(got), e)
	}
	if d := time.Since(from); d > 20*time.Second {
		t.Error(d)
	}
	l[len(l)-1].Text = strings.Repeat("x", 1000)
	if got, e := Split(l); len(got) != 0 || e != api.ErrArg {
		t.Error(len(got), e)
	}
}
