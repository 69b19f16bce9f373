package pick

import (
	"math"
	"math/big"
	"math/rand"
	"slices"
	"sort"
	"testing"

	"linenpress/api"
)

func orders(t *testing.T, name string, live, ages []int, want ...int) {
	t.Helper()
	if l, e := Order(live, ages); !slices.Equal(l, want) || e != api.OK {
		t.Errorf("%s: Order(%v, %v) = %v, %v; want %v", name, live, ages, l, e, want)
	}
}

func refuses(t *testing.T, name string, live, ages []int, want api.Errno) {
	t.Helper()
	if l, e := Order(live, ages); len(l) != 0 || e != want {
		t.Errorf("%s: Order(%v, %v) = %v, %v; want %v", name, live, ages, l, e, want)
	}
}

// The document's example: of 900 and 10 alive, alike in age, 10 comes first.
func TestP47Order(t *testing.T) {
	for _, age := range []int{0, 1, 5, math.MaxInt32} {
		orders(t, "alike in age", []int{900, 10}, []int{age, age}, 1, 0)
		orders(t, "the other way about", []int{10, 900}, []int{age, age}, 0, 1)
	}
	orders(t, "alike in what is alive", []int{500, 500, 500}, []int{5, 7, 6}, 1, 2, 0)
	orders(t, "old and full, young and empty", []int{900, 100}, []int{20, 0}, 0, 1) // 21/19 and 9/11
	orders(t, "not so old", []int{900, 100}, []int{14, 0}, 1, 0)                    // 15/19 and 9/11
}

func TestP47OnlyWhatIsAlive(t *testing.T) {
	orders(t, "no cells", nil, nil)
	orders(t, "no cells", []int{}, nil)
	orders(t, "no cells", nil, []int{})
	orders(t, "nothing alive", []int{0, 0, 0}, []int{0, 9, math.MaxInt32})
	orders(t, "one byte", []int{0, 1, 0}, []int{9, 0, 9}, 1)
	orders(t, "one cell", []int{1}, []int{0}, 0)
	orders(t, "some", []int{900, 0, 10, 10}, []int{5, 9, 5, 6}, 3, 2, 0)
}

func TestP47AlikeInWorth(t *testing.T) {
	orders(t, "all are the same", []int{7, 7, 7, 7, 7}, []int{3, 3, 3, 3, 3}, 0, 1, 2, 3, 4)
	orders(t, "a full cell is worth nothing", []int{1000, 1000, 999, 1000}, []int{1, math.MaxInt32, 0, 0}, 2, 0, 1, 3)
	orders(t, "2/3, 2/3, 2/3", []int{500, 200, 800}, []int{1, 0, 5}, 0, 1, 2)
	orders(t, "2/3, 2/3, 2/3", []int{800, 500, 200}, []int{5, 1, 0}, 0, 1, 2)
	orders(t, "2/3 in the midst", []int{201, 500, 200, 199}, []int{0, 1, 0, 0}, 3, 1, 2, 0)
	l := make([]int, 128)
	for n := range l {
		l[n] = n
	}
	orders(t, "as many as may be", slices.Repeat([]int{10}, 128), slices.Repeat([]int{3}, 128), l...)
}

// A fraction is not rounded: whole numbers would not tell most of these from
// each other.
func TestP47NotRounded(t *testing.T) {
	orders(t, "both below 1", []int{999, 998}, []int{0, 0}, 1, 0)                    // 1/1999, 2/1998
	orders(t, "both between 0 and 1", []int{500, 499}, []int{0, 0}, 1, 0)            // 500/1500, 501/1499
	orders(t, "both above 7", []int{500, 499, 501}, []int{22, 22, 22}, 1, 0, 2)      // about 7.6
	orders(t, "old", []int{999, 999}, []int{math.MaxInt32 - 1, math.MaxInt32}, 1, 0) // 1 part of 2^31
	orders(t, "old, and next to empty", []int{1, 1}, []int{math.MaxInt32 - 1, math.MaxInt32}, 1, 0)
	l := near()
	if len(l) < 500 {
		t.Error(len(l))
	}
	for _, x := range l {
		orders(t, "near", []int{x[0], x[2]}, []int{x[1], x[3]}, 0, 1)
		orders(t, "near", []int{x[2], x[0]}, []int{x[3], x[1]}, 1, 0)
	}
}

// near: two cells each, live and age of both, the first worth more, but not if
// the second were one older.
func near() [][4]int {
	var out [][4]int
	for a := 1; a < 1000; a += 37 {
		for b := 2; b < 1000; b += 41 {
			for age := math.MaxInt32; age > math.MaxInt32-3; age-- {
				q := new(big.Rat).Quo(worth(a, age), worth(b, 0))
				whole := new(big.Int).Quo(q.Num(), q.Denom())
				if q.IsInt() {
					whole.Sub(whole, big.NewInt(1))
				}
				if other := int(whole.Int64()) - 1; 0 <= other && other <= math.MaxInt32 {
					out = append(out, [4]int{a, age, b, other})
				}
			}
		}
	}
	return out
}

func worth(live, age int) *big.Rat {
	up := new(big.Int).Mul(big.NewInt(int64(1000-live)), new(big.Int).Add(big.NewInt(int64(age)), big.NewInt(1)))
	return new(big.Rat).SetFrac(up, big.NewInt(int64(1000+live)))
}

// slowOrder: by fractions that hold any number.
func slowOrder(live, ages []int) []int {
	var out []int
	for n := range live {
		if live[n] > 0 {
			out = append(out, n)
		}
	}
	sort.SliceStable(out, func(i, j int) bool {
		return worth(live[out[i]], ages[out[i]]).Cmp(worth(live[out[j]], ages[out[j]])) > 0
	})
	return out
}

func TestP47EachTwo(t *testing.T) {
	lives := []int{0, 1, 2, 3, 10, 200, 333, 499, 500, 501, 800, 998, 999, 1000}
	ages := []int{0, 1, 2, 5, 9, 100, math.MaxInt32 / 2, math.MaxInt32 - 1, math.MaxInt32}
	for _, a := range lives {
		for _, b := range lives {
			for _, old := range ages {
				for _, older := range ages {
					l, g := []int{a, b}, []int{old, older}
					orders(t, "two", l, g, slowOrder(l, g)...)
				}
			}
		}
	}
}

func TestP47EachLive(t *testing.T) {
	for live := range 1001 {
		l, g := []int{500, live, 0, 333}, []int{1, 1, 1, 0}
		orders(t, "each live", l, g, slowOrder(l, g)...)
	}
}

func TestP47AnyCells(t *testing.T) {
	r := rand.New(rand.NewSource(47))
	for range 3000 {
		n := r.Intn(129)
		live, ages := make([]int, n), make([]int, n)
		bound, age := 1+r.Intn(1001), 1+r.Intn(12)
		if r.Intn(3) == 0 {
			age = 1 << 31
		}
		for i := range live {
			live[i], ages[i] = r.Intn(bound), r.Intn(age)
			if r.Intn(8) == 0 {
				live[i] = 100 * r.Intn(11)
			}
		}
		orders(t, "any", live, ages, slowOrder(live, ages)...)
	}
}

func TestP47Wrong(t *testing.T) {
	refuses(t, "an age too few", []int{1}, nil, api.ErrArg)
	refuses(t, "an age too many", []int{1}, []int{1, 1}, api.ErrArg)
	refuses(t, "ages alone", nil, []int{1}, api.ErrArg)
	for _, wrong := range []int{-1, -2, math.MinInt32, math.MinInt, 1 << 32, math.MaxInt} {
		for at := range 3 {
			live, ages := []int{0, 10, 1000}, []int{0, 7, math.MaxInt32}
			live[at] = wrong
			refuses(t, "no live", live, ages, api.ErrArg)
			live[at] = 0
			ages[at] = wrong
			refuses(t, "no age, and nothing alive", live, ages, api.ErrArg)
			live[at] = 10
			refuses(t, "no age", live, ages, api.ErrArg)
		}
	}
	refuses(t, "a live above a body", []int{1001}, []int{0}, api.ErrArg)
	refuses(t, "an age above a serial", []int{1}, []int{1 << 31}, api.ErrArg)
	orders(t, "the greatest there may be", []int{1000}, []int{math.MaxInt32}, 0)
}

// The lengths are held against each other first, then against the bound; what
// is in the lists comes last.
func TestP47ErrorsInTheirOrder(t *testing.T) {
	for _, n := range []int{129, 130, 200, 1000} {
		refuses(t, "too many", slices.Repeat([]int{10}, n), slices.Repeat([]int{3}, n), api.ErrLarge)
		refuses(t, "too many, nothing alive", make([]int, n), make([]int, n), api.ErrLarge)
		refuses(t, "too many wrong ones", slices.Repeat([]int{-1}, n), slices.Repeat([]int{3}, n), api.ErrLarge)
		refuses(t, "too many of wrong ages", slices.Repeat([]int{1}, n), slices.Repeat([]int{-1}, n), api.ErrLarge)
		refuses(t, "too many, and an age too few", make([]int, n), make([]int, n-1), api.ErrArg)
		refuses(t, "too many, and an age too many", make([]int, n-1), make([]int, n), api.ErrArg)
	}
	refuses(t, "lengths, and what is wrong in them", []int{-1}, nil, api.ErrArg)
	refuses(t, "128 wrong ones", slices.Repeat([]int{-1}, 128), make([]int, 128), api.ErrArg)
	orders(t, "128 cells", make([]int, 128), make([]int, 128))
}

func TestP2ListsStayAsTheyWere(t *testing.T) {
	live, ages := []int{900, 0, 10, 10, 1001, -1}, []int{5, 9, 5, 6, -1, 1 << 40}
	for n := range len(live) + 1 {
		for k := range len(ages) + 1 {
			Order(live[:n], ages[:k])
		}
	}
	if !slices.Equal(live, []int{900, 0, 10, 10, 1001, -1}) || !slices.Equal(ages, []int{5, 9, 5, 6, -1, 1 << 40}) {
		t.Error(live, ages)
	}
}

func TestP2ListsAreNew(t *testing.T) {
	live, ages := []int{900, 20, 10, 10}, []int{5, 9, 5, 6}
	first, _ := Order(live, ages)
	second, _ := Order(live, ages)
	first = first[:cap(first)]
	for i := range first {
		first[i] = 99
	}
	if !slices.Equal(second, []int{1, 3, 2, 0}) {
		t.Error(second)
	}
	orders(t, "again", live, ages, 1, 3, 2, 0)
	if !slices.Equal(live, []int{900, 20, 10, 10}) || !slices.Equal(ages, []int{5, 9, 5, 6}) {
		t.Error(live, ages)
	}
}
