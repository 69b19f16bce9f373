package crew

import (
	"math"
	"math/rand"
	"runtime"
	"slices"
	"strconv"
	"strings"
	"sync"
	"testing"
	"time"
	"unsafe"

	"linenpress/api"
	"linenpress/press"
)

type call func([]string, int) ([]string, api.Errno)

// someTexts: n texts of all kinds, no two alike, so that a place that is
// mistaken is seen.
func someTexts(n int) []string {
	r := rand.New(rand.NewSource(26))
	var l []string
	for i := range n {
		s := "text " + strconv.Itoa(i) + ": "
		switch i % 4 {
		case 0:
			s += strings.Repeat("linen ", r.Intn(80))
		case 1:
			s = strings.Repeat("\x00", 32*i)
		case 2:
			b := make([]byte, r.Intn(480))
			r.Read(b)
			s += string(b)
		}
		l = append(l, s)
	}
	return l
}

// pressed: each text pressed by press itself.
func pressed(t *testing.T, l []string) []string {
	t.Helper()
	var out []string
	for _, s := range l {
		p, e := press.Press(s)
		if e != api.OK {
			t.Fatalf("%q: %v", s, e)
		}
		out = append(out, p)
	}
	return out
}

func TestP26AsByOneHand(t *testing.T) {
	for n := range 17 {
		l := someTexts(n)
		want := pressed(t, l)
		for hands := 1; hands <= 8; hands++ {
			if p, e := Press(l, hands); e != api.OK || !slices.Equal(p, want) {
				t.Errorf("%d texts, %d hands: %q, %v; want %q", n, hands, p, e, want)
			}
			if u, e := Open(want, hands); e != api.OK || !slices.Equal(u, l) {
				t.Errorf("%d texts opened, %d hands: %q, %v; want %q", n, hands, u, e, l)
			}
		}
	}
}

func TestP26TheDocumentsExample(t *testing.T) {
	l := []string{"a", strings.Repeat("b", 400), "a"}
	one, e := Press(l, 1)
	two, f := Press(l, 2)
	if e != api.OK || f != api.OK || !slices.Equal(one, two) || !slices.Equal(one, pressed(t, l)) {
		t.Errorf("%q, %v; %q, %v", one, e, two, f)
	}
}

// The same again and again: how goroutines run must not be seen.
func TestP26AgainAndAgain(t *testing.T) {
	l := someTexts(16)
	want := pressed(t, l)
	for i := range 300 {
		p, e := Press(l, 1+i%8)
		u, f := Open(want, 1+i%8)
		if e != api.OK || f != api.OK || !slices.Equal(p, want) || !slices.Equal(u, l) {
			t.Fatalf("%d hands: %q, %v; %q, %v", 1+i%8, p, e, u, f)
		}
	}
}

func TestP26CallsAtTheSameTime(t *testing.T) {
	l := someTexts(16)
	want := pressed(t, l)
	var all sync.WaitGroup
	for i := range 16 {
		all.Go(func() {
			if p, e := Press(l, 1+i%8); e != api.OK || !slices.Equal(p, want) {
				t.Errorf("Press: %q, %v", p, e)
			}
			if u, e := Open(want, 1+i%8); e != api.OK || !slices.Equal(u, l) {
				t.Errorf("Open: %q, %v", u, e)
			}
		})
	}
	all.Wait()
}

func refuses(t *testing.T, name string, do call, l []string, hands int, want api.Errno) {
	t.Helper()
	if got, e := do(l, hands); len(got) != 0 || e != want {
		t.Errorf("%s, %d texts, %d hands: %q, %v; want %v", name, len(l), hands, got, e, want)
	}
}

// Hands that are none come first, whatever the texts are.
func TestP26HandsThatAreNone(t *testing.T) {
	large := strings.Repeat("a", 513)
	for _, hands := range []int{0, -1, 9, 10, -8, 256 + 1, 1<<32 + 1, math.MinInt, math.MaxInt} {
		for _, l := range [][]string{nil, {}, {"\x00\x00"}, make([]string, 16), make([]string, 17), {large}, slices.Repeat([]string{large}, 17)} {
			refuses(t, "Press", Press, l, hands, api.ErrArg)
			refuses(t, "Open", Open, l, hands, api.ErrArg)
		}
	}
}

// Too many texts come ahead of what is wrong with one of them.
func TestP26TooManyTexts(t *testing.T) {
	for _, n := range []int{17, 18, 256, 100000} {
		for _, s := range []string{"", "\x00\x00", "x"} {
			l := slices.Repeat([]string{s}, n)
			for _, hands := range []int{1, 2, 8} {
				refuses(t, "Press", Press, l, hands, api.ErrLarge)
				refuses(t, "Open", Open, l, hands, api.ErrLarge)
			}
		}
	}
}

func TestP26OneTextIsRefused(t *testing.T) {
	for n := 1; n <= 16; n++ {
		for at := range n {
			for _, hands := range []int{1, 3, 8} {
				l := someTexts(n)
				p := pressed(t, l)
				l[at], p[at] = strings.Repeat("a", 513), "\x03\x00"
				refuses(t, "Press", Press, l, hands, api.ErrLarge)
				refuses(t, "Open", Open, p, hands, api.ErrForm)
			}
		}
	}
}

func TestP26AllTextsAreRefused(t *testing.T) {
	for hands := 1; hands <= 8; hands++ {
		refuses(t, "Press", Press, slices.Repeat([]string{strings.Repeat("a", 600)}, 16), hands, api.ErrLarge)
		refuses(t, "Open", Open, make([]string, 16), hands, api.ErrForm)
	}
}

// meeting: a place at which so many must stand at the same time to get on.
type meeting struct {
	lock       sync.Mutex
	here, most int
	full       chan struct{}
}

func (m *meeting) come(wanted int) {
	m.lock.Lock()
	m.here++
	m.most = max(m.most, m.here)
	if m.here == wanted {
		select {
		case <-m.full:
		default:
			close(m.full)
		}
	}
	m.lock.Unlock()
}

func (m *meeting) leave() {
	m.lock.Lock()
	m.here--
	m.lock.Unlock()
}

// So many hands are at work at the same time, and no more.
func TestP26HandsAtTheSameTime(t *testing.T) {
	for hands := 1; hands <= 8; hands++ {
		m := &meeting{full: make(chan struct{})}
		do := func(s string) (string, api.Errno) {
			m.come(hands)
			defer m.leave()
			select {
			case <-m.full:
			case <-time.After(20 * time.Second):
				t.Errorf("%d hands never were at work at the same time", hands)
			}
			time.Sleep(time.Millisecond) // one that is a hand too many has time to come
			return s, api.OK
		}
		l := someTexts(16)
		if got, e := share(l, hands, do); e != api.OK || !slices.Equal(got, l) || m.most != hands {
			t.Errorf("%d hands: %d at the same time, %v", hands, m.most, e)
		}
	}
}

// Whichever text is done first, the error is that of the first that is refused.
func TestP26TheFirstErrorIsTold(t *testing.T) {
	second := make(chan struct{})
	do := func(s string) (string, api.Errno) {
		switch s {
		case "first":
			<-second
			return "", api.ErrLarge
		case "second":
			defer close(second)
			return "", api.ErrForm
		}
		return s, api.OK
	}
	if got, e := share([]string{"a", "first", "b", "second", "c"}, 3, do); len(got) != 0 || e != api.ErrLarge {
		t.Errorf("%q, %v", got, e)
	}
}

// When a call answers its hands have gone home, also where it refuses.
func TestP26HandsAreWaitedFor(t *testing.T) {
	before := runtime.NumGoroutine()
	for range 50 {
		Press(someTexts(16), 8)
		Press([]string{strings.Repeat("a", 513), "a"}, 8)
		Press(nil, 8)
		Open(make([]string, 16), 8)
		Open(make([]string, 17), 8)
	}
	for range 100 { // a goroutine that has said that it is done may still be counted for a moment
		if runtime.NumGoroutine() <= before {
			return
		}
		time.Sleep(10 * time.Millisecond)
	}
	t.Errorf("%d goroutines, and then %d", before, runtime.NumGoroutine())
}

func TestP26AnswersOnlyWhenAllIsDone(t *testing.T) {
	for hands := 1; hands <= 8; hands++ {
		var lock sync.Mutex
		count := 0
		share(someTexts(16), hands, func(s string) (string, api.Errno) {
			time.Sleep(time.Millisecond)
			lock.Lock()
			defer lock.Unlock()
			count++
			return "", api.ErrForm
		})
		lock.Lock()
		had := count
		lock.Unlock()
		time.Sleep(5 * time.Millisecond)
		lock.Lock()
		if count != had {
			t.Errorf("%d hands: %d texts were done when it answered, then %d", hands, had, count)
		}
		lock.Unlock()
	}
}

func TestP2ListsStayAsTheyWere(t *testing.T) {
	for _, do := range []call{Press, Open} {
		l := append(pressed(t, someTexts(5)), "behind", "\x00\x00")
		was := slices.Clone(l)
		for _, hands := range []int{1, 4, 8, 9} {
			do(l[:5], hands)
			do(l[:0], hands)
			do(l[:6], hands)
			if !slices.Equal(l, was) {
				t.Fatalf("%q; was %q", l, was)
			}
		}
	}
}

// sharesText: whether s is given as a piece of whole's memory.
func sharesText(s, whole string) bool {
	if s == "" || whole == "" {
		return false
	}
	from, at := uintptr(unsafe.Pointer(unsafe.StringData(whole))), uintptr(unsafe.Pointer(unsafe.StringData(s)))
	return from <= at && at < from+uintptr(len(whole))
}

func TestP2AnswersAreNew(t *testing.T) {
	l := someTexts(16)
	p, _ := Press(l, 3)
	u, _ := Open(p, 3)
	for i := range l {
		if sharesText(p[i], l[i]) || sharesText(u[i], p[i]) || sharesText(u[i], l[i]) {
			t.Errorf("text %d is a piece of another", i)
		}
	}
	for _, out := range [][]string{p, u} {
		for i := range out[:cap(out)] {
			out[:cap(out)][i] = "written over"
		}
	}
	if !slices.Equal(l, someTexts(16)) {
		t.Error("the list is its answer's")
	}
	if again, e := Press(l, 3); e != api.OK || !slices.Equal(again, pressed(t, l)) {
		t.Error("an answer is kept")
	}
}
