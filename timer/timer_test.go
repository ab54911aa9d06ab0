package timer_test

import (
	"fmt"
	"kedge/api"
	"kedge/timer"
	"math"
	"runtime"
	"slices"
	"testing"
)

// The numbers that the chapter names, written out, so that the tests hold whatever api says.
const (
	maxCap           = 64
	fine   api.Errno = 0
	errArg api.Errno = 1
)

// badCaps are such as may not be; among them such as may be if they are cut short, have no sign, or are turned about.
var badCaps = []int{
	0, -1, -2, -3, -4, -63, -64, -65, -128, -192, -255, -256, math.MinInt32, 64 - 1<<32, 4 - 1<<32, -1 << 32, -1 << 62, math.MinInt + 1, math.MinInt + 64, math.MinInt,
	65, 66, 127, 128, 129, 255, 256, 257, 320, 4096, 65535, 65536, 65537, 65600, math.MaxInt32, 1 << 31, 1<<32 - 1, 1 << 32, 1<<32 + 1, 1<<32 + 4, 1<<32 + 64, 1 << 62, 1<<62 + 1, math.MaxInt - 1, math.MaxInt,
}

// numbers are such as timers may have, any, rising; among them such as are others if they are cut short or have no sign.
var numbers = []int{
	math.MinInt, math.MinInt + 1, -1 << 62, 1 - 1<<62, -1<<32 - 1, -1 << 32, 1 - 1<<32, -1<<31 - 1, -1 << 31, 1 - 1<<31, -65537, -65536, -65535, -257, -256, -255, -129, -128, -127, -64, -9, -3, -2, -1,
	0, 1, 2, 3, 9, 63, 64, 65, 127, 128, 129, 254, 255, 256, 257, 511, 512, 65535, 65536, 65537, 1<<31 - 1, 1 << 31, 1<<31 + 1, 1<<32 - 1, 1 << 32, 1<<32 + 1, 1 << 53, 1<<53 + 1, 1<<62 - 1, 1 << 62, math.MaxInt - 1, math.MaxInt,
}

// others are numbers that the list above does not have.
var others = []int{4, 5, 62, 66, 253, 258, 513, 65534, 1<<31 + 7, 1<<32 + 7, 1<<62 + 1, math.MaxInt - 2, -4, -5, -63, -254, -258, -1<<31 + 7, -1<<62 - 1, math.MinInt + 2}

// dues are the ticks behind a Set at which the timer is due, of each cap that stands here, reckoned by hand.
var dues = map[int][]int{
	1:  {1, 2, 3, 4, 5, 6, 7, 8, 9, 10},
	2:  {1, 3, 5, 7, 9, 11, 13, 15, 17},
	3:  {1, 3, 6, 9, 12, 15, 18, 21},
	4:  {1, 3, 7, 11, 15, 19, 23, 27},
	5:  {1, 3, 7, 12, 17, 22, 27, 32},
	6:  {1, 3, 7, 13, 19, 25, 31, 37},
	7:  {1, 3, 7, 14, 21, 28, 35, 42},
	8:  {1, 3, 7, 15, 23, 31, 39, 47},
	9:  {1, 3, 7, 15, 24, 33, 42, 51},
	12: {1, 3, 7, 15, 27, 39, 51, 63},
	15: {1, 3, 7, 15, 30, 45, 60, 75},
	16: {1, 3, 7, 15, 31, 47, 63, 79},
	17: {1, 3, 7, 15, 31, 48, 65, 82},
	31: {1, 3, 7, 15, 31, 62, 93, 124},
	32: {1, 3, 7, 15, 31, 63, 95, 127},
	33: {1, 3, 7, 15, 31, 63, 96, 129},
	48: {1, 3, 7, 15, 31, 63, 111, 159},
	63: {1, 3, 7, 15, 31, 63, 126, 189},
	64: {1, 3, 7, 15, 31, 63, 127, 191, 255, 319},
}

// pair is what Left tells.
type pair struct{ left, span int }

// after is for how many ticks a timer waits behind so many ticks since it was set, and its span: it is gone from one tick at which it is due to the next, from the Set on.
func after(cap, since int) pair {
	due, span := 1, 1
	for due <= since {
		if span += span; span > cap {
			span = cap
		}
		due += span
	}
	return pair{due - since, span}
}

// set is a number, and how many ticks there were when it was set last.
type set struct{ key, at int }

// twin is timers, and beside them a list of what was set, in no order; of each number is kept when it was set, nothing of what it waits for.
type twin struct {
	t     *testing.T
	x     *timer.Timers
	cap   int
	ticks int
	list  []set
}

// opened is timers of which there are none yet.
func opened(t *testing.T, cap int) *twin {
	t.Helper()
	x, e := timer.New(cap)
	if e != fine || x == nil {
		t.Fatalf("New(%d) = %v, %d", cap, x, e)
	}
	w := &twin{t: t, x: x, cap: cap}
	w.holds()
	return w
}

// at is the place of a number in the list, or -1.
func (w *twin) at(key int) int {
	return slices.IndexFunc(w.list, func(s set) bool { return s.key == key })
}

// set sets timers, and tells the list.
func (w *twin) set(keys ...int) {
	for _, key := range keys {
		if i := w.at(key); i >= 0 {
			w.list = slices.Delete(w.list, i, i+1)
		}
		w.list = append(w.list, set{key, w.ticks})
		w.x.Set(key)
	}
}

// clear clears a timer, and tells the list.
func (w *twin) clear(key int) {
	w.t.Helper()
	i := w.at(key)
	if i >= 0 {
		w.list = slices.Delete(w.list, i, i+1)
	}
	if ok := w.x.Clear(key); ok != (i >= 0) {
		w.t.Fatalf("Clear(%d) = %t", key, ok)
	}
}

// tick ticks, and answers what was told, which is held against the list.
func (w *twin) tick() []int {
	w.t.Helper()
	w.ticks++
	var want []int
	for _, s := range w.list {
		if before := after(w.cap, w.ticks-1-s.at); before.left == 1 {
			want = append(want, s.key)
		}
	}
	slices.Sort(want)
	got := w.x.Tick()
	if !slices.Equal(got, want) {
		w.t.Fatalf("cap %d, tick %d: %v, not %v", w.cap, w.ticks, got, want)
	}
	return got
}

// left fails the test if the number's Left isn't the list's.
func (w *twin) left(key int) {
	w.t.Helper()
	var want pair
	if i := w.at(key); i >= 0 {
		want = after(w.cap, w.ticks-w.list[i].at)
	}
	if left, span := w.x.Left(key); left != want.left || span != want.span {
		w.t.Fatalf("cap %d, tick %d: Left(%d) = %d, %d, not %v", w.cap, w.ticks, key, left, span, want)
	}
}

// are fails the test if these aren't the list's numbers.
func (w *twin) are(got []int) {
	w.t.Helper()
	var want []int
	for _, s := range w.list {
		want = append(want, s.key)
	}
	slices.Sort(want)
	if !slices.Equal(got, want) {
		w.t.Fatalf("cap %d, tick %d: %v, not %v", w.cap, w.ticks, got, want)
	}
}

// holds fails the test if the timers aren't what the list says.
func (w *twin) holds() {
	w.t.Helper()
	w.are(w.x.Keys())
	for _, s := range w.list {
		w.left(s.key)
	}
	for _, key := range others {
		w.left(key)
	}
}

// drawn answers a function that tells numbers from 0 on that look like noise, below n, the same ones in each run.
func drawn(begin int) func(n int) int {
	x := uint64(begin)
	return func(n int) int {
		x = x*6364136223846793005 + 1442695040888963407
		return int(x>>33) % n
	}
}

// shuffled are the same numbers in another order.
func shuffled(l []int, next func(n int) int) []int {
	l = slices.Clone(l)
	for i := range l {
		j := i + next(len(l)-i)
		l[i], l[j] = l[j], l[i]
	}
	return l
}

// overwrite puts other numbers in all of l's memory, up to its capacity.
func overwrite(l []int) {
	l = l[:cap(l)]
	for i := range l {
		l[i] = ^l[i]
	}
}

// spoil writes, cuts and grows what was told.
func spoil(l []int) {
	overwrite(l)
	_ = append(l[:len(l)/2], 4)
	_ = append(l, 1, 2, 3)
	clear(l[:cap(l)])
}

func TestExample(t *testing.T) { // P23.1, P23.2
	x, e := timer.New(4)
	if e != api.OK {
		t.Fatal(e)
	}
	x.Set(7)
	var at []int
	for i := 1; i <= 12; i++ {
		switch l := x.Tick(); {
		case slices.Equal(l, []int{7}):
			at = append(at, i)
		case len(l) != 0:
			t.Fatal(i, l)
		}
	}
	if !slices.Equal(at, []int{1, 3, 7, 11}) {
		t.Fatal(at)
	}
}

func TestTheNumbersOfApi(t *testing.T) { // P23.1
	if api.OK != fine || api.ErrArg != errArg || api.MaxCap != maxCap {
		t.Fatal(api.OK, api.ErrArg, api.MaxCap)
	}
}

// Each act, and what Left and Keys tell behind it.
func TestWrittenOut(t *testing.T) { // P23.1, P23.2
	x, _ := timer.New(3)
	for i, c := range []struct {
		act      string
		key      int
		was      bool
		due      []int
		keys     []int
		five, no pair // of 5, of -5
	}{
		{"tick", 0, false, nil, nil, pair{}, pair{}},
		{"set", 5, false, nil, []int{5}, pair{1, 1}, pair{}},
		{"tick", 0, false, []int{5}, []int{5}, pair{2, 2}, pair{}},
		{"set", -5, false, nil, []int{-5, 5}, pair{2, 2}, pair{1, 1}},
		{"tick", 0, false, []int{-5}, []int{-5, 5}, pair{1, 2}, pair{2, 2}},
		{"tick", 0, false, []int{5}, []int{-5, 5}, pair{3, 3}, pair{1, 2}},
		{"tick", 0, false, []int{-5}, []int{-5, 5}, pair{2, 3}, pair{3, 3}},
		{"tick", 0, false, nil, []int{-5, 5}, pair{1, 3}, pair{2, 3}},
		{"tick", 0, false, []int{5}, []int{-5, 5}, pair{3, 3}, pair{1, 3}},
		{"set", 5, false, nil, []int{-5, 5}, pair{1, 1}, pair{1, 3}},
		{"tick", 0, false, []int{-5, 5}, []int{-5, 5}, pair{2, 2}, pair{3, 3}},
		{"clear", -5, true, nil, []int{5}, pair{2, 2}, pair{}},
		{"clear", -5, false, nil, []int{5}, pair{2, 2}, pair{}},
		{"clear", 6, false, nil, []int{5}, pair{2, 2}, pair{}},
		{"set", -5, false, nil, []int{-5, 5}, pair{2, 2}, pair{1, 1}},
		{"set", -5, false, nil, []int{-5, 5}, pair{2, 2}, pair{1, 1}},
		{"clear", 5, true, nil, []int{-5}, pair{}, pair{1, 1}},
		{"tick", 0, false, []int{-5}, []int{-5}, pair{}, pair{2, 2}},
		{"clear", -5, true, nil, nil, pair{}, pair{}},
		{"tick", 0, false, nil, nil, pair{}, pair{}},
	} {
		var due []int
		was := false
		switch c.act {
		case "set":
			x.Set(c.key)
		case "clear":
			was = x.Clear(c.key)
		default:
			due = x.Tick()
		}
		var five, no pair
		five.left, five.span = x.Left(5)
		no.left, no.span = x.Left(-5)
		if was != c.was || !slices.Equal(due, c.due) || !slices.Equal(x.Keys(), c.keys) || five != c.five || no != c.no {
			t.Fatal(i, was, due, x.Keys(), five, no)
		}
	}
}

// Each cap that may be is one: there are no timers, and one of that cap waits for that long at last.
func TestNew(t *testing.T) { // P23.1, P23.2
	for c := 1; c <= maxCap; c++ {
		x, e := timer.New(c)
		if e != api.OK || x == nil {
			t.Fatal(c, x, e)
		}
		if l := x.Keys(); len(l) != 0 {
			t.Fatal(c, l)
		}
		if l := x.Tick(); len(l) != 0 {
			t.Fatal(c, l)
		}
		for _, key := range slices.Concat(numbers, others) {
			if left, span := x.Left(key); left != 0 || span != 0 {
				t.Fatal(c, key, left, span)
			}
			if x.Clear(key) {
				t.Fatal(c, key)
			}
		}
		x.Set(1)
		for range 200 {
			x.Tick()
		}
		if _, span := x.Left(1); span != c {
			t.Fatal(c, span)
		}
	}
}

// With an error New answers no timers that could be used as such.
func TestNewOfNoSuchCap(t *testing.T) { // P23.1, rules 1, 2 and 5
	for _, c := range badCaps {
		x, e := timer.New(c)
		if e != errArg || x != nil {
			t.Fatalf("New(%d) = %v, %d", c, x, e)
		}
		nothing(t, x)
	}
	for c := -300; c < 5000; c++ {
		want := errArg
		if c >= 1 && c <= maxCap {
			want = fine
		}
		if x, e := timer.New(c); e != want || (x != nil) != (want == fine) {
			t.Fatalf("New(%d) = %v, %d", c, x, e)
		}
	}
}

// When a timer is due, of each cap that was reckoned by hand, whatever its number.
func TestDuesWrittenOut(t *testing.T) { // P23.2, P23.3
	for c, want := range dues {
		for _, key := range numbers {
			x, _ := timer.New(c)
			x.Set(key)
			var at []int
			for i := 1; i <= want[len(want)-1]; i++ {
				switch l := x.Tick(); {
				case slices.Equal(l, []int{key}):
					at = append(at, i)
				case len(l) != 0:
					t.Fatal(c, key, i, l)
				}
			}
			if !slices.Equal(at, want) {
				t.Fatal(c, key, at)
			}
		}
	}
}

// The spans, from one time that it is due to the next, of each cap: each is twice the one ahead, or the cap.
func TestSpans(t *testing.T) { // P23.2
	for c := 1; c <= maxCap; c++ {
		x, _ := timer.New(c)
		x.Set(0)
		span := 1
		for range 12 {
			if left, s := x.Left(0); left != span || s != span {
				t.Fatal(c, left, s, span)
			}
			for i := range span - 1 {
				if l := x.Tick(); len(l) != 0 {
					t.Fatal(c, span, i, l)
				}
				if left, s := x.Left(0); left != span-1-i || s != span {
					t.Fatal(c, left, s, span)
				}
			}
			if l := x.Tick(); len(l) != 1 {
				t.Fatal(c, span, l)
			}
			if 2*span <= c {
				span = 2 * span
			} else {
				span = c
			}
		}
	}
}

// Left ahead of and behind each tick, of a timer that was set ahead of all, of one that was set later, and of none.
func TestLeft(t *testing.T) { // P23.1, P23.2
	for c := 1; c <= maxCap; c++ {
		w := opened(t, c)
		w.set(3)
		for i := range 300 {
			if i == 5 {
				w.set(-3)
			}
			for range 2 {
				w.left(3)
				w.left(-3)
				w.left(0)
			}
			w.tick()
		}
	}
}

// A cap of 1: it is due at each tick, and its span stays 1.
func TestCapOfOne(t *testing.T) { // P23.2, P23.3
	x, _ := timer.New(1)
	x.Set(9)
	for i := range 10000 {
		if left, span := x.Left(9); left != 1 || span != 1 {
			t.Fatal(i, left, span)
		}
		if l := x.Tick(); !slices.Equal(l, []int{9}) {
			t.Fatal(i, l)
		}
	}
}

// Many ticks behind the cap: the span stays what it is, and it is due each time that it was waited for.
func TestManyTicks(t *testing.T) { // P23.2, P23.3
	for _, c := range []int{1, 2, 3, 4, 5, 7, 8, 31, 32, 33, 48, 63, 64} {
		x, _ := timer.New(c)
		x.Set(-9)
		last, often := 0, 0
		for i := 1; i <= 50000; i++ {
			l := x.Tick()
			if len(l) != 0 {
				if often > 8 && i-last != c {
					t.Fatal(c, i, last)
				}
				last = i
				often++
			}
			if i > 200 {
				if left, span := x.Left(-9); span != c || left != last+c-i {
					t.Fatal(c, i, left, span)
				}
			}
		}
		if often < 50000/c-8 {
			t.Fatal(c, often)
		}
	}
}

// A timer that has waited, however long, waits for one tick when it is set anew, and its spans begin anew.
func TestSetAnew(t *testing.T) { // P23.1, P23.2
	for _, c := range []int{1, 2, 3, 4, 5, 8, 33, 63, 64} {
		for waited := range 200 {
			w := opened(t, c)
			w.set(2, 7)
			for range waited {
				w.tick()
			}
			w.set(7)
			if left, span := w.x.Left(7); left != 1 || span != 1 {
				t.Fatal(c, waited, left, span)
			}
			w.left(2)
			if l := w.tick(); !slices.Contains(l, 7) {
				t.Fatal(c, waited, l)
			}
			for range 20 {
				w.tick()
				w.left(7)
				w.left(2)
			}
		}
	}
}

// A timer that is set ahead of each tick is due at each tick; one that is set twice is one.
func TestSetAgainAndAgain(t *testing.T) { // P23.1, P23.2
	for _, c := range []int{1, 2, 64} {
		w := opened(t, c)
		for range 300 {
			w.set(4, 4, 4)
			if l := w.x.Keys(); !slices.Equal(l, []int{4}) {
				t.Fatal(l)
			}
			if l := w.tick(); !slices.Equal(l, []int{4}) {
				t.Fatal(l)
			}
		}
		w.clear(4)
		w.clear(4)
		w.holds()
	}
}

// Each number alone, and each beside each other one: none of them is another one's.
func TestEachNumber(t *testing.T) { // P23.1, P23.2
	for _, a := range numbers {
		w := opened(t, 5)
		w.clear(a)
		w.set(a)
		w.holds()
		for _, b := range numbers {
			w.left(b)
		}
		for range 4 {
			w.tick()
			w.holds()
		}
		for _, b := range numbers {
			if a == b {
				continue
			}
			w.clear(b)
			w.set(b)
			w.holds()
			w.tick()
			w.holds()
			w.clear(b)
			w.holds()
		}
		w.clear(a)
		w.holds()
		w.clear(a)
		w.tick()
		w.holds()
	}
}

// All of these numbers at a time.
func TestAllNumbers(t *testing.T) { // P23.1, P23.2
	next := drawn(5)
	for _, c := range []int{1, 3, 4, 64} {
		w := opened(t, c)
		for _, key := range shuffled(numbers, next) {
			w.set(key)
			w.holds()
			w.tick()
			w.holds()
		}
		if l := w.x.Keys(); !slices.Equal(l, numbers) {
			t.Fatal(l)
		}
		for _, key := range shuffled(numbers, next) {
			w.clear(key)
			w.holds()
			w.tick()
			w.holds()
		}
		if l := w.x.Keys(); len(l) != 0 {
			t.Fatal(l)
		}
	}
}

// Clear: of one that has a timer, twice, of one that has none, and of one that is set anew.
func TestClear(t *testing.T) { // P23.1
	for _, key := range numbers {
		for waited := range 9 {
			w := opened(t, 4)
			w.set(5, -5)
			if w.x.Clear(key) {
				t.Fatal(key)
			}
			w.set(key)
			for range waited {
				w.tick()
			}
			if !w.x.Clear(key) || w.x.Clear(key) || w.x.Clear(key) {
				t.Fatal(key, waited)
			}
			w.list = w.list[:2]
			w.holds()
			for range 10 {
				if l := w.tick(); slices.Contains(l, key) {
					t.Fatal(key, l)
				}
			}
			w.set(key)
			w.holds()
			if left, span := w.x.Left(key); left != 1 || span != 1 {
				t.Fatal(key, waited, left, span)
			}
			for range 10 {
				w.tick()
				w.holds()
			}
			if !w.x.Clear(key) {
				t.Fatal(key, waited)
			}
		}
	}
}

// What is cleared ahead of the tick at which it would be due isn't told, and the others go on as they were.
func TestClearAheadOfItsTick(t *testing.T) { // P23.1, P23.2
	for _, c := range []int{1, 2, 3, 8, 64} {
		for ticks := range 70 {
			w := opened(t, c)
			w.set(1, 2, 3)
			for range ticks {
				w.tick()
			}
			w.clear(2)
			w.holds()
			for range 70 {
				if l := w.tick(); slices.Contains(l, 2) {
					t.Fatal(c, ticks, l)
				}
			}
			w.holds()
		}
	}
}

// orders are all orders of these numbers.
func orders(l []int) [][]int {
	if len(l) == 0 {
		return [][]int{nil}
	}
	var all [][]int
	for i, first := range l {
		rest := slices.Concat(l[:i], l[i+1:])
		for _, o := range orders(rest) {
			all = append(all, append([]int{first}, o...))
		}
	}
	return all
}

// Keys and what is due are told rising, those below 0 first, in whichever order they were set.
func TestRising(t *testing.T) { // P23.1, P23.2
	want := []int{math.MinInt, -7, -1, 0, 3, math.MaxInt}
	for _, order := range orders(want) {
		x, _ := timer.New(2)
		for i, key := range order {
			x.Set(key)
			if l := x.Keys(); len(l) != i+1 || !slices.IsSorted(l) {
				t.Fatal(order, l)
			}
		}
		for i := range 8 {
			l := x.Tick()
			if i%2 == 0 && !slices.Equal(l, want) || i%2 == 1 && len(l) != 0 {
				t.Fatal(order, i, l)
			}
			if l := x.Keys(); !slices.Equal(l, want) {
				t.Fatal(order, i, l)
			}
		}
		for i, key := range order {
			if !x.Clear(key) {
				t.Fatal(order, key)
			}
			if l := x.Keys(); len(l) != len(order)-i-1 || !slices.IsSorted(l) || slices.Contains(l, key) {
				t.Fatal(order, l)
			}
		}
	}
}

// Timers that were set at other ticks, in any order, and come to be due at the same one.
func TestDueTogether(t *testing.T) { // P23.2
	next := drawn(8)
	for range 300 {
		w := opened(t, 4)
		// Of the cap 4 a timer is due 1, 3, 7 and 11 ticks behind its Set: of those that are set behind 0, 4, 8 and 10 ticks each is due at tick 11.
		first, fourth, eighth, tenth := next(100)-50, 200+next(100), -200-next(100), 400+next(50)
		w.set(first)
		for i := 1; i <= 11; i++ {
			if i == 5 {
				w.set(fourth)
			}
			if i == 9 {
				w.set(eighth)
			}
			if i == 11 {
				w.set(tenth)
				if l := w.tick(); !slices.Equal(l, []int{eighth, first, fourth, tenth}) {
					t.Fatal(l)
				}
				break
			}
			w.tick()
		}
		w.holds()
	}
}

// A tick without any timer tells nothing, and changes nothing.
func TestTickOfNone(t *testing.T) { // P23.2
	w := opened(t, 8)
	for range 100 {
		w.tick()
		w.holds()
	}
	w.set(1)
	w.tick()
	w.clear(1)
	for range 100 {
		if l := w.tick(); len(l) != 0 {
			t.Fatal(l)
		}
		w.holds()
	}
	w.set(1)
	if l := w.tick(); !slices.Equal(l, []int{1}) {
		t.Fatal(l)
	}
}

// Asking, however often and for whatever, changes nothing.
func TestAskingChangesNothing(t *testing.T) { // P23.1
	for _, c := range []int{1, 3, 64} {
		asked, other := opened(t, c), opened(t, c)
		for i := range 200 {
			if i%7 == 0 {
				asked.set(i)
				other.set(i)
			}
			for _, key := range slices.Concat(numbers, others) {
				asked.left(key)
			}
			for range 3 {
				asked.are(asked.x.Keys())
			}
			if a, b := asked.tick(), other.tick(); !slices.Equal(a, b) {
				t.Fatal(c, i, a, b)
			}
		}
		asked.holds()
		other.holds()
	}
}

// Set, Clear and Tick mixed, of every cap, held behind each act against a list of what was set, and when.
func TestManyActs(t *testing.T) { // P23.1 to P23.3
	for c := 1; c <= maxCap; c++ {
		for seed := range 8 {
			next := drawn(1000*c + seed)
			w := opened(t, c)
			keys := shuffled(slices.Concat(numbers, others), next)[:2+next(12)]
			for range 250 {
				key := keys[next(len(keys))]
				switch next(3 + seed) {
				case 0:
					w.set(key)
				case 1:
					w.clear(key)
				default:
					w.tick()
				}
				w.are(w.x.Keys())
				for _, key := range keys {
					w.left(key)
				}
			}
			w.holds()
		}
	}
}

// All short rows of acts with two numbers, of small caps.
func TestEachShortRow(t *testing.T) { // P23.1 to P23.3
	acts := []func(w *twin){
		func(w *twin) { w.tick() },
		func(w *twin) { w.set(0) },
		func(w *twin) { w.set(-1) },
		func(w *twin) { w.clear(0) },
		func(w *twin) { w.clear(-1) },
	}
	const long = 6
	rows := 1
	for range long {
		rows *= len(acts)
	}
	for c := 1; c <= 4; c++ {
		for row := range rows {
			x, _ := timer.New(c)
			w := &twin{t: t, x: x, cap: c}
			for range long {
				acts[row%len(acts)](w)
				row /= len(acts)
				w.left(0)
				w.left(-1)
				w.are(x.Keys())
			}
			for range 6 {
				w.tick()
			}
		}
	}
}

// Timers, many of them, set in any order, some of which are cleared.
func TestManyTimers(t *testing.T) { // P23.1, P23.2
	const many = 3000
	next := drawn(12)
	all := make([]int, many)
	for i := range all {
		all[i] = 3*i - many
	}
	x, _ := timer.New(2)
	for _, key := range shuffled(all, next) {
		x.Set(key)
	}
	for i := range 10 {
		l := x.Tick()
		if i%2 == 0 && !slices.Equal(l, all) || i%2 == 1 && len(l) != 0 {
			t.Fatal(i, len(l))
		}
		if !slices.Equal(x.Keys(), all) {
			t.Fatal(i)
		}
	}
	var odd []int
	for i, key := range all {
		if i%2 == 1 {
			odd = append(odd, key)
		} else if !x.Clear(key) {
			t.Fatal(key)
		}
	}
	for i := range 10 {
		l := x.Tick()
		if i%2 == 0 && !slices.Equal(l, odd) || i%2 == 1 && len(l) != 0 {
			t.Fatal(i, len(l))
		}
	}
	for i, key := range all {
		if x.Clear(key) != (i%2 == 1) {
			t.Fatal(key)
		}
	}
	if l := x.Keys(); len(l) != 0 {
		t.Fatal(len(l))
	}
}

// A timer that is set is due at the next tick, and then within cap ticks again and again, until it is cleared; of every cap, from each tick on, with others beside it that come and go.
func TestDueAgainAndAgain(t *testing.T) { // P23.3
	const key = 17
	for c := 1; c <= maxCap; c++ {
		for ahead := range 12 {
			next := drawn(100*c + ahead)
			x, _ := timer.New(c)
			stir := func() {
				for range next(4) {
					if other := next(30) - 15; next(3) == 0 {
						x.Clear(other)
					} else {
						x.Set(other)
					}
				}
			}
			for range ahead {
				stir()
				x.Tick()
			}
			x.Set(key)
			stir()
			if l := x.Tick(); !slices.Contains(l, key) {
				t.Fatal(c, ahead, l)
			}
			waited := 0
			for range 6*c + 20 {
				stir()
				waited++
				if slices.Contains(x.Tick(), key) {
					waited = 0
				}
				if waited >= c {
					t.Fatal(c, ahead, waited)
				}
			}
			x.Clear(key)
			for range 3*c + 3 {
				stir()
				if slices.Contains(x.Tick(), key) {
					t.Fatal(c, ahead)
				}
			}
		}
	}
}

// Of each cap, from any tick on: within cap ticks each of several timers is due once at least.
func TestEachIsDueWithinCap(t *testing.T) { // P23.3
	for c := 1; c <= maxCap; c++ {
		w := opened(t, c)
		for i := range 10 {
			w.set(i)
			w.tick()
		}
		for range 40 {
			seen := make([]int, 10)
			for range c {
				for _, key := range w.tick() {
					seen[key]++
				}
			}
			if slices.Contains(seen, 0) {
				t.Fatal(c, w.ticks, seen)
			}
		}
	}
}

// What Tick tells may be written, cut and grown.
func TestTickTellsNewMemory(t *testing.T) { // P23.2, rule 3
	for _, many := range []int{1, 2, 3, 4, 5, 8, 9, 16, 17, 100} {
		w := opened(t, 1)
		for i := range many {
			w.set(many - 2*i)
		}
		w.holds()
		for range 20 {
			l := w.tick()
			if len(l) != many {
				t.Fatal(many, l)
			}
			spoil(l)
			w.holds()
		}
		w.clear(many)
		w.holds()
		spoil(w.tick())
		w.set(many, 1000)
		w.holds()
		spoil(w.tick())
		w.holds()
	}
}

// What Keys tells may be written, cut and grown.
func TestKeysTellsNewMemory(t *testing.T) { // P23.1, rule 3
	for _, many := range []int{1, 2, 3, 4, 5, 8, 9, 16, 17, 100} {
		w := opened(t, 4)
		for i := range many {
			w.set(many - 2*i)
			spoil(w.x.Keys())
			w.holds()
		}
		for range 20 {
			spoil(w.x.Keys())
			w.holds()
			w.tick()
		}
		for i := range many {
			l := w.x.Keys()
			w.are(l)
			w.clear(many - 2*i)
			spoil(l)
			w.holds()
		}
	}
}

// Two answers share nothing, of the same call or of two.
func TestAnswersShareNothing(t *testing.T) { // P23.1, P23.2, rule 3
	for _, many := range []int{1, 2, 3, 4, 7, 8, 9, 33} {
		tells := []func(w *twin) []int{
			func(w *twin) []int { return w.x.Keys() },
			func(w *twin) []int { return w.tick() },
		}
		for first, f := range tells {
			for second, g := range tells {
				w := opened(t, 1)
				for i := range many {
					w.set(i - 3)
				}
				a, b := f(w), g(w)
				want := slices.Clone(b)
				if len(a) != many || len(b) != many {
					t.Fatal(many, first, second, a, b)
				}
				spoil(a)
				if !slices.Equal(b, want) {
					t.Fatal(many, first, second, b)
				}
				a = f(w)
				spoil(b)
				if !slices.Equal(a, want) {
					t.Fatal(many, first, second, a)
				}
				w.holds()
			}
		}
	}
}

// What was told stays what it was, whatever is set, cleared and ticked later.
func TestAnswersStay(t *testing.T) { // P23.1, P23.2, rule 3
	next := drawn(21)
	w := opened(t, 3)
	var told, were [][]int
	for range 400 {
		switch key := next(20) - 10; next(4) {
		case 0:
			w.clear(key)
		case 1:
			w.set(key)
		}
		for _, l := range [][]int{w.x.Keys(), w.tick()} {
			told = append(told, l)
			were = append(were, slices.Clone(l))
		}
	}
	for i := range told {
		if !slices.Equal(told[i], were[i]) {
			t.Fatal(i, told[i], were[i])
		}
	}
	w.holds()
}

// unmade are the timers that New did not make.
func unmade() []*timer.Timers {
	return []*timer.Timers{nil, new(timer.Timers), {}}
}

// nothing fails the test if the timers, which New did not make, are such.
func nothing(t *testing.T, x *timer.Timers) {
	t.Helper()
	for _, key := range []int{0, 1, -1, 7, math.MaxInt, math.MinInt} {
		x.Set(key)
		if left, span := x.Left(key); left != 0 || span != 0 {
			t.Fatal(key, left, span)
		}
		if l := x.Keys(); len(l) != 0 {
			t.Fatal(key, l)
		}
		if l := x.Tick(); len(l) != 0 {
			t.Fatal(key, l)
		}
		if x.Clear(key) {
			t.Fatal(key)
		}
	}
}

// Each call as the first one, and each behind each other one.
func TestUnmade(t *testing.T) { // P23.1, P23.2, rules 1 and 2
	calls := []func(x *timer.Timers) bool{
		func(x *timer.Timers) bool { x.Set(0); return true },
		func(x *timer.Timers) bool { x.Set(math.MinInt); x.Set(math.MaxInt); return true },
		func(x *timer.Timers) bool { return !x.Clear(0) },
		func(x *timer.Timers) bool { return !x.Clear(math.MinInt) && !x.Clear(math.MaxInt) },
		func(x *timer.Timers) bool { return len(x.Tick()) == 0 },
		func(x *timer.Timers) bool { left, span := x.Left(0); return left == 0 && span == 0 },
		func(x *timer.Timers) bool { left, span := x.Left(math.MinInt); return left == 0 && span == 0 },
		func(x *timer.Timers) bool { return len(x.Keys()) == 0 },
	}
	for i := range unmade() {
		for first, f := range calls {
			for second, g := range calls {
				x := unmade()[i]
				for range 20 {
					if !f(x) || !g(x) {
						t.Fatal(i, first, second)
					}
				}
				nothing(t, x)
			}
		}
	}
}

// Timers that are a part of something else, and that nobody made, are no others than such of their own.
func TestUnmadeInside(t *testing.T) { // P23.1, P23.2, rule 1
	var s struct {
		before uint64
		x      timer.Timers
		after  uint64
	}
	var l [3]timer.Timers
	for range 40 {
		nothing(t, &s.x)
		for i := range l {
			nothing(t, &l[i])
		}
		if s.before != 0 || s.after != 0 {
			t.Fatal(s.before, s.after)
		}
	}
}

// Timers of two objects have nothing to do with one another, nor with such as nobody made.
func TestTwoObjects(t *testing.T) { // rule 4
	next := drawn(7)
	x, y := opened(t, 3), opened(t, 64)
	for range 1500 {
		w := x
		if next(2) == 0 {
			w = y
		}
		switch key := next(10) - 5; next(4) {
		case 0:
			w.set(key)
		case 1:
			w.clear(key)
		default:
			w.tick()
		}
		for _, z := range unmade() {
			nothing(t, z)
		}
		opened(t, 2).set(1, 2)
		x.holds()
		y.holds()
	}
}

// The same calls are answered alike, many times over: what is told hangs on no order in which a map is gone through.
func TestTheSameAgain(t *testing.T) { // rule 4
	run := func() string {
		next := drawn(3)
		x, e := timer.New(6)
		said := fmt.Sprint(e)
		for range 150 {
			switch key := next(40) - 20; next(3) {
			case 0:
				x.Set(key)
			case 1:
				said += fmt.Sprint(x.Clear(key))
			default:
				said += fmt.Sprint(x.Tick())
			}
			left, span := x.Left(next(40) - 20)
			said += fmt.Sprint(x.Keys(), left, span)
		}
		return said
	}
	first := run()
	for i := range 100 {
		if run() != first {
			t.Fatal(i)
		}
	}
}

// The same numbers, set in other orders ahead of the first tick, are told alike.
func TestWhicheverOrder(t *testing.T) { // rule 4
	next := drawn(4)
	for range 100 {
		x, _ := timer.New(5)
		y, _ := timer.New(5)
		keys := shuffled(numbers, next)[:30]
		for _, key := range keys {
			x.Set(key)
		}
		for _, key := range shuffled(keys, next) {
			y.Set(key)
		}
		for i := range 20 {
			if a, b := x.Tick(), y.Tick(); !slices.Equal(a, b) {
				t.Fatal(i, a, b)
			}
			if a, b := x.Keys(), y.Keys(); !slices.Equal(a, b) {
				t.Fatal(i, a, b)
			}
		}
	}
}

// inUse is how many bytes are kept.
func inUse() int {
	var m runtime.MemStats
	runtime.GC()
	runtime.GC()
	runtime.ReadMemStats(&m)
	return int(m.HeapAlloc)
}

// Of what was cleared nothing is kept, nor of what was asked for, nor of the ticks that there were.
func TestWhatIsKept(t *testing.T) { // P23.1, P23.2
	x, _ := timer.New(64)
	before := inUse()
	for i := range 300000 {
		x.Set(i)
		x.Set(-i)
		x.Set(7)
		x.Left(i + 1)
		x.Clear(-i - 1)
		x.Tick()
		x.Keys()
		if !x.Clear(i) || x.Clear(-i) != (i != 0) {
			t.Fatal(i)
		}
	}
	x.Clear(7)
	if kept := inUse() - before; kept > 100000 {
		t.Fatal(kept)
	}
	if l := x.Keys(); len(l) != 0 {
		t.Fatal(l)
	}
}
