package huff

import (
	"math"
	"math/rand"
	"slices"
	"testing"

	"linenpress/api"
)

const whole = 32768 // 2^15, as the chapter has it

// leastCost tries each length for each sign that comes, and keeps for each
// room that may be taken (in parts of 2^-most) the least cost of the signs so
// far.
func leastCost(freq []int, most int) int {
	best := slices.Repeat([]int{math.MaxInt}, 1<<most+1)
	best[0] = 0
	for _, f := range freq {
		if f == 0 {
			continue
		}
		after := slices.Repeat([]int{math.MaxInt}, 1<<most+1)
		for taken, cost := range best {
			for w := 1; w <= most && cost != math.MaxInt; w++ {
				if then := taken + 1<<(most-w); then <= 1<<most {
					after[then] = min(after[then], cost+w*f)
				}
			}
		}
		best = after
	}
	return slices.Min(best)
}

// freeCost joins the two rarest again and again: the least cost, if no length
// is too great.
func freeCost(freq []int) int {
	var l []int
	for _, f := range freq {
		if f > 0 {
			l = append(l, f)
		}
	}
	if len(l) == 1 {
		return l[0]
	}
	total := 0
	for len(l) > 1 {
		slices.Sort(l)
		total += l[0] + l[1]
		l = append(l[2:], l[0]+l[1])
	}
	return total
}

func slowFill(l []int) int {
	taken := 0
	for _, w := range l {
		if w > 0 {
			taken += whole >> w
		}
	}
	return taken
}

// checkLens holds Lens to all that the promise says beside the least cost, and
// answers the cost.
func checkLens(t *testing.T, freq []int, most int) int {
	t.Helper()
	l, e := Lens(freq, most)
	if e != api.OK || len(l) != len(freq) {
		t.Fatalf("Lens(%v, %d) = %v, %v", freq, most, l, e)
	}
	total, come := 0, 0
	for i, w := range l {
		if freq[i] == 0 && w != 0 || freq[i] > 0 && (w < 1 || w > most) {
			t.Fatalf("Lens(%v, %d) = %v: sign %d", freq, most, l, i)
		}
		if freq[i] > 0 {
			come++
		}
		total += freq[i] * w
	}
	if slowFill(l) > whole {
		t.Fatalf("Lens(%v, %d) = %v: takes %d", freq, most, l, slowFill(l))
	}
	if come == 1 && slices.Max(l) != 1 {
		t.Fatalf("Lens(%v, %d) = %v: one sign comes", freq, most, l)
	}
	if cost, e := Cost(freq, l); cost != total || e != api.OK {
		t.Fatalf("Cost(%v, %v) = %d, %v; want %d", freq, l, cost, e, total)
	}
	return total
}

func fibs(n int) []int {
	l := []int{1, 1}
	for len(l) < n {
		l = append(l, l[len(l)-1]+l[len(l)-2])
	}
	return l[:n]
}

func TestP14Cost(t *testing.T) {
	for _, x := range []struct {
		name    string
		freq, l []int
		want    int
	}{
		{"no lists", nil, nil, 0},
		{"no signs", []int{}, nil, 0},
		{"none comes", []int{0, 0}, []int{3, 15}, 0},
		{"none has a code", []int{5, 6}, []int{0, 0}, 0},
		{"the document's", []int{1, 1, 2, 4}, []int{3, 3, 2, 1}, 14},
		{"two bits", []int{1, 1, 2, 4}, []int{2, 2, 2, 2}, 16},
		{"more than the room", []int{1, 2, 3}, []int{1, 1, 1}, 6},
		{"the most of one", []int{1 << 20}, []int{15}, 15 << 20},
		{"the most of all", slices.Repeat([]int{1 << 20}, 320), slices.Repeat([]int{15}, 320), 320 * 15 << 20},
	} {
		if got, e := Cost(x.freq, x.l); got != x.want || e != api.OK {
			t.Errorf("%s: %d, %v; want %d", x.name, got, e, x.want)
		}
	}
}

type refused struct {
	freq []int
	want api.Errno
}

// wrongFreqs are what both calls refuse first of all, in one and the same way.
func wrongFreqs() map[string]refused {
	return map[string]refused{
		"a sign too many":              {make([]int, 321), api.ErrLarge},
		"far too many signs":           {make([]int, 5000), api.ErrLarge},
		"too many, and one below 0":    {append(make([]int, 320), -1), api.ErrLarge},
		"too many, the first below 0":  {append([]int{-1}, make([]int, 320)...), api.ErrLarge},
		"below 0":                      {[]int{1, -1}, api.ErrArg},
		"the least":                    {[]int{math.MinInt}, api.ErrArg},
		"above the greatest":           {[]int{1, 1<<20 + 1}, api.ErrLarge},
		"far above":                    {[]int{math.MaxInt}, api.ErrLarge},
		"below 0, then above":          {[]int{0, -1, 1<<20 + 1}, api.ErrArg},
		"above, then below 0":          {[]int{0, 1<<20 + 1, -1}, api.ErrLarge},
		"most signs, the last below 0": {append(make([]int, 319), -1), api.ErrArg},
		"most signs, the last above":   {append(make([]int, 319), 1<<20+1), api.ErrLarge},
	}
}

func TestP14CostWrongFreq(t *testing.T) {
	for name, x := range wrongFreqs() {
		for _, l := range [][]int{nil, make([]int, len(x.freq)), make([]int, 321), {16}, {-1, -1}} {
			if got, e := Cost(x.freq, l); got != 0 || e != x.want {
				t.Errorf("%s, %d lengths: %d, %v; want %v", name, len(l), got, e, x.want)
			}
		}
	}
}

func TestP14CostWrongLens(t *testing.T) {
	for _, x := range []struct {
		name    string
		freq, l []int
		want    api.Errno
	}{
		{"too many lengths", make([]int, 320), make([]int, 321), api.ErrLarge},
		{"too many lengths for no signs", nil, make([]int, 321), api.ErrLarge},
		{"too many lengths, one wrong", nil, append(make([]int, 320), -1), api.ErrLarge},
		{"a length below 0", []int{0}, []int{-1}, api.ErrArg},
		{"a length above 15", []int{0}, []int{16}, api.ErrArg},
		{"a length too few", []int{1, 1}, []int{1}, api.ErrArg},
		{"a length too many", []int{1}, []int{1, 1}, api.ErrArg},
		{"no lengths", []int{1}, nil, api.ErrArg},
		{"no signs", nil, []int{1}, api.ErrArg},
		{"no signs, no code", nil, []int{0}, api.ErrArg},
	} {
		if got, e := Cost(x.freq, x.l); got != 0 || e != x.want {
			t.Errorf("%s: %d, %v; want %v", x.name, got, e, x.want)
		}
	}
}

func TestP15Lens(t *testing.T) {
	for _, x := range []struct {
		name string
		freq []int
		most int
		want int
	}{
		{"no list", nil, 1, 0},
		{"no signs", []int{}, 15, 0},
		{"none comes", []int{0, 0, 0}, 1, 0},
		{"one comes", []int{0, 7, 0}, 3, 7},
		{"one comes, one bit", []int{7}, 1, 7},
		{"one comes, the most often", []int{0, 1 << 20}, 15, 1 << 20},
		{"two", []int{1, 1 << 20}, 15, 1<<20 + 1},
		{"two, one bit", []int{0, 3, 0, 0, 4}, 1, 7},
		{"the document's", []int{1, 1, 2, 4}, 15, 14},
		{"the document's, in another order", []int{4, 1, 0, 2, 1}, 15, 14},
		{"two bits", []int{1, 1, 2, 4}, 2, 16},
		{"three bits are enough", []int{1, 1, 2, 4}, 3, 14},
		{"four bits", []int{1, 1, 2, 3, 5, 8, 13}, 4, 80},
		{"all alike", []int{5, 5, 5, 5, 5, 5, 5, 5}, 15, 120},
		{"a full room", slices.Repeat([]int{9}, 256), 8, 256 * 9 * 8},
		{"most signs, the most often", slices.Repeat([]int{1 << 20}, 320), 9, (192*8 + 128*9) << 20},
	} {
		if got := checkLens(t, x.freq, x.most); got != x.want {
			t.Errorf("%s: cost %d; want %d", x.name, got, x.want)
		}
	}
}

// Each list of up to five signs that come up to four times.
func TestP15LensOfAllShortLists(t *testing.T) {
	for n := range 6 {
		freq := make([]int, n)
		for {
			for most := 1; most <= 5; most++ {
				come := n - count(freq, 0)
				if come > 1<<most {
					if l, e := Lens(freq, most); len(l) != 0 || e != api.ErrOver {
						t.Fatalf("Lens(%v, %d) = %v, %v", freq, most, l, e)
					}
				} else if got, want := checkLens(t, freq, most), leastCost(freq, most); got != want {
					t.Fatalf("Lens(%v, %d): cost %d; want %d", freq, most, got, want)
				}
			}
			if !step(freq, 4) {
				break
			}
		}
	}
}

func count(l []int, x int) int {
	n := 0
	for _, y := range l {
		if y == x {
			n++
		}
	}
	return n
}

// step makes the next list of numbers from 0 to top; false behind the last.
func step(l []int, top int) bool {
	for i := range l {
		if l[i] < top {
			l[i]++
			return true
		}
		l[i] = 0
	}
	return false
}

// someFreq: flat, steep or with many that are alike, and signs between that
// never come.
func someFreq(r *rand.Rand, n int) []int {
	freq := make([]int, n)
	shape := r.Intn(3)
	for i := range freq {
		switch {
		case r.Intn(5) == 0:
		case shape == 0:
			freq[i] = 1 + r.Intn(1<<20)
		case shape == 1:
			freq[i] = 1 << r.Intn(21)
		default:
			freq[i] = 1 + r.Intn(4)
		}
	}
	return freq
}

func TestP15NoneCostsLess(t *testing.T) {
	r := rand.New(rand.NewSource(15))
	for range 300 {
		most := 1 + r.Intn(9)
		freq := someFreq(r, r.Intn(min(1<<most, 60)+1))
		if got, want := checkLens(t, freq, most), leastCost(freq, most); got != want {
			t.Fatalf("Lens(%v, %d): cost %d; want %d", freq, most, got, want)
		}
	}
}

func TestP15NoneCostsLessWithManySigns(t *testing.T) {
	r := rand.New(rand.NewSource(151))
	for _, most := range []int{9, 10, 11} {
		freq := someFreq(r, api.MaxSigns)
		if got, want := checkLens(t, freq, most), leastCost(freq, most); got != want {
			t.Fatalf("Lens(%v, %d): cost %d; want %d", freq, most, got, want)
		}
	}
}

// Of these a code without a bound would have far more than 15 bits.
func TestP15NoneCostsLessAtTheGreatestBound(t *testing.T) {
	steep := append(slices.Repeat([]int{1}, api.MaxSigns-28), fibs(30)[2:]...) // as many signs as may be
	for _, freq := range [][]int{fibs(17), fibs(30), append(fibs(30), 0, 1<<20, 1, 1<<20), steep} {
		got, want := checkLens(t, freq, 15), leastCost(freq, 15)
		if got != want {
			t.Errorf("Lens(%v, 15): cost %d; want %d", freq, got, want)
		}
		if got <= freeCost(freq) {
			t.Errorf("%v: cost %d without a bound", freq, freeCost(freq))
		}
	}
	if got, want := checkLens(t, fibs(16), 15), freeCost(fibs(16)); got != want {
		t.Errorf("15 bits are just enough: cost %d; want %d", got, want)
	}
}

func TestP15LensWithoutABound(t *testing.T) {
	r := rand.New(rand.NewSource(152))
	for range 200 {
		freq := make([]int, r.Intn(api.MaxSigns+1))
		for i := range freq {
			freq[i] = r.Intn(100) // far too flat for 15 bits to bind
		}
		if got, want := checkLens(t, freq, 15), freeCost(freq); got != want {
			t.Fatalf("Lens(%v, 15): cost %d; want %d", freq, got, want)
		}
	}
}

func TestP15LensOver(t *testing.T) {
	for most := 1; most <= 8; most++ {
		full := slices.Repeat([]int{3}, 1<<most)
		full = append(full, make([]int, api.MaxSigns-len(full))...) // those that never come need no room
		if got := checkLens(t, full, most); got != 3*most<<most {
			t.Errorf("%d signs, %d bits: cost %d", 1<<most, most, got)
		}
		full[len(full)-1] = 1
		if l, e := Lens(full, most); len(l) != 0 || e != api.ErrOver {
			t.Errorf("a sign too many for %d bits: %v, %v", most, l, e)
		}
		checkLens(t, full, most+1)
	}
}

func TestP15LensWrongFreq(t *testing.T) {
	for name, x := range wrongFreqs() {
		for _, most := range []int{15, 1, 0, 16, -1} {
			if l, e := Lens(x.freq, most); len(l) != 0 || e != x.want {
				t.Errorf("%s, %d bits: %v, %v; want %v", name, most, l, e, x.want)
			}
		}
	}
}

func TestP15LensWrongMost(t *testing.T) {
	for _, most := range []int{0, -1, 16, 64, math.MinInt, math.MaxInt} {
		for _, freq := range [][]int{nil, {0}, {1}, {1, 2, 3}, slices.Repeat([]int{1}, 320)} {
			if l, e := Lens(freq, most); len(l) != 0 || e != api.ErrArg {
				t.Errorf("%d bits, %d signs: %v, %v", most, len(freq), l, e)
			}
		}
	}
}

func TestP2ListsStayAsTheyWere(t *testing.T) {
	freq, l := []int{4, 1, 0, 2, 1, 77, 78}, []int{1, 3, 0, 2, 3, 9, 10}
	freqBefore, lBefore := slices.Clone(freq), slices.Clone(l)
	for _, n := range []int{5, 0, 1, 7} {
		Cost(freq[:n], l[:n])
		Lens(freq[:n], 15)
		Lens(freq[:n], 2)
		if !slices.Equal(freq, freqBefore) || !slices.Equal(l, lBefore) {
			t.Fatal(freq, l)
		}
	}
}

func TestP2AnswersAreNew(t *testing.T) {
	freq := []int{4, 1, 0, 2, 1}
	a, _ := Lens(freq, 15)
	first := slices.Clone(a)
	a = a[:cap(a)]
	for i := range a {
		a[i] = 99
	}
	if !slices.Equal(freq, []int{4, 1, 0, 2, 1}) {
		t.Error(freq)
	}
	if b, e := Lens(freq, 15); e != api.OK || !slices.Equal(b, first) {
		t.Error(b, e)
	}
}
