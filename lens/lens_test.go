package lens

import (
	"math"
	"math/rand"
	"slices"
	"strings"
	"testing"

	"linenpress/api"
)

const whole = 32768 // 2^15, as the chapter has it

// slowCanon is the chapter's words: signs in order, each code made of the one
// ahead.
func slowCanon(l []int) []int {
	var order []int
	for i, w := range l {
		if w != 0 {
			order = append(order, i)
		}
	}
	slices.SortStableFunc(order, func(a, b int) int { return l[a] - l[b] })
	codes := make([]int, len(l))
	for k, i := range order {
		if k > 0 {
			ahead := order[k-1]
			codes[i] = (codes[ahead] + 1) << (l[i] - l[ahead])
		}
	}
	return codes
}

func slowFill(l []int) int {
	taken := 0
	for _, w := range l {
		if w > 0 {
			taken += int(math.Pow(2, float64(15-w)))
		}
	}
	return taken
}

// someLens takes lengths while there is room for them, with signs between
// that have no code.
func someLens(r *rand.Rand) []int {
	l := make([]int, r.Intn(api.MaxSigns+1))
	left := whole
	for i := range l {
		w := r.Intn(api.MaxLen + 1)
		if w > 0 && whole>>w <= left {
			l[i] = w
			left -= whole >> w
		}
	}
	return l
}

func bitsOf(code, w int) string {
	var b strings.Builder
	for i := w - 1; i >= 0; i-- {
		b.WriteByte('0' + byte(code>>i&1))
	}
	return b.String()
}

func TestP12Fill(t *testing.T) {
	for _, x := range []struct {
		name string
		l    []int
		want int
	}{
		{"no list", nil, 0},
		{"no signs", []int{}, 0},
		{"no codes", []int{0, 0, 0}, 0},
		{"one bit", []int{1}, whole / 2},
		{"all lengths", []int{1, 2, 3, 4, 5, 6, 7, 8, 9, 10, 11, 12, 13, 14, 15}, whole - 1},
		{"full", []int{2, 1, 0, 3, 3}, whole},
		{"the longest", []int{15}, 1},
		{"some", []int{1, 2, 0, 15}, 16384 + 8192 + 1},
		{"more than the room", []int{1, 1, 15}, whole + 1},
		{"most signs, without codes", make([]int, api.MaxSigns), 0},
		{"most signs, one bit each", slices.Repeat([]int{1}, api.MaxSigns), api.MaxSigns * whole / 2},
		{"most signs, the longest", slices.Repeat([]int{15}, api.MaxSigns), api.MaxSigns},
	} {
		if got, e := Fill(x.l); got != x.want || e != api.OK {
			t.Errorf("%s: %d, %v; want %d", x.name, got, e, x.want)
		}
	}
}

func TestP12FillSums(t *testing.T) {
	r := rand.New(rand.NewSource(12))
	for range 500 {
		l := make([]int, r.Intn(api.MaxSigns+1))
		for i := range l {
			l[i] = r.Intn(api.MaxLen + 1)
		}
		if got, e := Fill(l); got != slowFill(l) || e != api.OK {
			t.Fatalf("Fill(%v) = %d, %v; want %d", l, got, e, slowFill(l))
		}
	}
}

type refused struct {
	l    []int
	want api.Errno
}

// wrongLists are what both calls refuse, in one and the same way.
func wrongLists() map[string]refused {
	tooMany := make([]int, api.MaxSigns+1)
	alsoWrong := slices.Clone(tooMany)
	alsoWrong[0] = -1
	over := slices.Repeat([]int{1}, 5)
	return map[string]refused{
		"a sign too many":                     {tooMany, api.ErrLarge},
		"far too many signs":                  {make([]int, 5000), api.ErrLarge},
		"too many, and a wrong length":        {alsoWrong, api.ErrLarge},
		"too many, and over the room":         {slices.Repeat([]int{1}, api.MaxSigns+1), api.ErrLarge},
		"below 0":                             {[]int{1, -1}, api.ErrArg},
		"above 15":                            {[]int{1, 16}, api.ErrArg},
		"the least":                           {[]int{math.MinInt}, api.ErrArg},
		"the greatest":                        {[]int{math.MaxInt}, api.ErrArg},
		"64":                                  {[]int{64}, api.ErrArg},
		"over the room, then a wrong length":  {append(slices.Clone(over), 16), api.ErrArg},
		"wrong length, then over the room":    {append([]int{-1}, over...), api.ErrArg},
		"most signs, the last of them wrong":  {append(make([]int, api.MaxSigns-1), 16), api.ErrArg},
		"most signs, the first of them wrong": {append([]int{-1}, make([]int, api.MaxSigns-1)...), api.ErrArg},
	}
}

func TestP12FillWrong(t *testing.T) {
	for name, x := range wrongLists() {
		if got, e := Fill(x.l); got != 0 || e != x.want {
			t.Errorf("%s: %d, %v; want %v", name, got, e, x.want)
		}
	}
}

func TestP13Canon(t *testing.T) {
	for _, x := range []struct {
		l, want []int
	}{
		{nil, nil},
		{[]int{}, nil},
		{[]int{0}, []int{0}},
		{[]int{0, 0, 0}, []int{0, 0, 0}},
		{[]int{1}, []int{0}},
		{[]int{15}, []int{0}},
		{[]int{1, 1}, []int{0, 1}},
		{[]int{0, 1, 0, 1, 0}, []int{0, 0, 0, 1, 0}},
		{[]int{2, 1, 0, 3, 3}, []int{2, 0, 0, 6, 7}},
		{[]int{1, 2, 2}, []int{0, 2, 3}},
		{[]int{3, 3, 3}, []int{0, 1, 2}},
		{[]int{5, 2, 5}, []int{8, 0, 9}},
		{[]int{15, 1}, []int{16384, 0}},
		{[]int{15, 1, 15}, []int{16384, 0, 16385}},
		{
			[]int{1, 2, 3, 4, 5, 6, 7, 8, 9, 10, 11, 12, 13, 14, 15, 15},
			[]int{0, 2, 6, 14, 30, 62, 126, 254, 510, 1022, 2046, 4094, 8190, 16382, 32766, 32767},
		},
	} {
		if got, e := Canon(x.l); !slices.Equal(got, x.want) || e != api.OK {
			t.Errorf("Canon(%v) = %v, %v; want %v", x.l, got, e, x.want)
		}
	}
}

func TestP13CanonInOrder(t *testing.T) {
	r := rand.New(rand.NewSource(13))
	for range 500 {
		l := someLens(r)
		if got, e := Canon(l); !slices.Equal(got, slowCanon(l)) || e != api.OK {
			t.Fatalf("Canon(%v) = %v, %v; want %v", l, got, e, slowCanon(l))
		}
	}
}

// No code begins another, whatever lengths fit into the room.
func TestP13CodesStandApart(t *testing.T) {
	r := rand.New(rand.NewSource(131))
	for range 50 {
		l := someLens(r)
		codes, e := Canon(l)
		if e != api.OK || len(codes) != len(l) {
			t.Fatalf("Canon(%v): %d codes, %v", l, len(codes), e)
		}
		var texts []string
		for i, w := range l {
			if codes[i]>>w != 0 {
				t.Fatalf("Canon(%v): code %d is %b", l, i, codes[i])
			}
			if w > 0 {
				texts = append(texts, bitsOf(codes[i], w))
			}
		}
		slices.Sort(texts) // whatever begins another stands right ahead of one that it begins
		for k := 1; k < len(texts); k++ {
			if strings.HasPrefix(texts[k], texts[k-1]) {
				t.Fatalf("Canon(%v): %s begins %s", l, texts[k-1], texts[k])
			}
		}
	}
}

func TestP13CanonOver(t *testing.T) {
	full := slices.Repeat([]int{8}, 256)
	if l, e := Canon(full); e != api.OK || len(l) != 256 || l[255] != 255 {
		t.Errorf("full: %v, %v", l, e)
	}
	for _, l := range [][]int{
		{1, 1, 15},
		{15, 1, 1},
		{1, 1, 1},
		{2, 2, 2, 1},
		append(slices.Clone(full), 15),
		slices.Repeat([]int{1}, api.MaxSigns),
	} {
		if got, e := Canon(l); len(got) != 0 || e != api.ErrOver {
			t.Errorf("Canon(%v) = %v, %v; want ErrOver", l, got, e)
		}
	}
}

func TestP13CanonWrong(t *testing.T) {
	for name, x := range wrongLists() {
		if got, e := Canon(x.l); len(got) != 0 || e != x.want {
			t.Errorf("%s: %v, %v; want %v", name, got, e, x.want)
		}
	}
}

func TestP2ListsStayAsTheyWere(t *testing.T) {
	l := []int{2, 1, 0, 3, 3, 77}
	before := slices.Clone(l)
	for _, part := range [][]int{l[:5], l[:0], l} {
		Fill(part)
		Canon(part)
		if !slices.Equal(l, before) {
			t.Fatal(l)
		}
	}
}

func TestP2AnswersAreNew(t *testing.T) {
	l := []int{2, 1, 0, 3, 3}
	a, _ := Canon(l)
	a = a[:cap(a)]
	for i := range a {
		a[i] = 99
	}
	if !slices.Equal(l, []int{2, 1, 0, 3, 3}) {
		t.Error(l)
	}
	if b, e := Canon(l); e != api.OK || !slices.Equal(b, []int{2, 0, 0, 6, 7}) {
		t.Error(b, e)
	}
}
