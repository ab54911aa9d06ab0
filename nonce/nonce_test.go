package nonce_test

import (
	"fmt"
	"kedge/nonce"
	"math"
	"reflect"
	"runtime"
	"slices"
	"testing"
)

// The numbers that the chapter names, written out.
const (
	high = 9223372036854775808  // 2^63: what is drawn when none that was handed in is left
	most = 18446744073709551615 // 2^64 - 1
)

// edges are such numbers as may be handed in, each another one; among them such as are others if they are cut short, lose a bit, or have a sign.
var edges = []uint64{
	0, 1, 2, 3, 5, 7, 127, 128, 255, 256, 257, 65535, 65536, 65537, 1<<31 - 1, 1 << 31, 1<<31 + 1, 1<<32 - 1, 1 << 32, 1<<32 + 1, 1<<32 + 5, 1 << 33,
	1 << 52, 1 << 53, 1<<53 + 1, 1 << 62, 1<<62 + 1, high - 2, high - 1, high, high + 1, high + 2, high + 5, high + 256, high + 1<<32, high + 1<<53, high + 1<<62,
	1<<63 | 1<<53 | 1, most - 256, most - 255, most - 2, most - 1, most,
}

// twin is a source, and beside it what the test knows of it: what of that which was handed in is left, how many were drawn behind it, and all that were drawn.
type twin struct {
	t      *testing.T
	s      *nonce.Source
	left   []uint64
	behind int
	told   []uint64
}

// opened is a source of these; it was handed another list, of the same numbers.
func opened(t *testing.T, l ...uint64) *twin {
	t.Helper()
	s := nonce.New(slices.Clone(l))
	if s == nil {
		t.Fatal("New answers none")
	}
	w := &twin{t: t, s: s, left: slices.Clone(l)}
	w.holds()
	return w
}

// next is the number that comes next.
func (w *twin) next() uint64 {
	if len(w.left) == 0 {
		n := uint64(high)
		for range w.behind {
			n++
		}
		w.behind++
		return n
	}
	n := w.left[0]
	w.left = w.left[1:]
	return n
}

// draw draws one, which is held against what is known.
func (w *twin) draw() uint64 {
	w.t.Helper()
	want := w.next()
	if n := w.s.Next(); n != want {
		w.t.Fatalf("draw %d: %d, not %d", len(w.told), n, want)
	}
	w.told = append(w.told, want)
	return want
}

// draws draws so many.
func (w *twin) draws(n int) {
	w.t.Helper()
	for range n {
		w.draw()
	}
}

// holds fails the test if what the source says that it drew isn't what it drew.
func (w *twin) holds() {
	w.t.Helper()
	if l := w.s.Used(); !slices.Equal(l, w.told) {
		w.t.Fatalf("%d, not %d", l, w.told)
	}
}

// drawn answers a function that tells numbers from 0 on that look like noise, below n, the same ones in each run.
func drawn(begin int) func(n int) int {
	x := uint64(begin)
	return func(n int) int {
		x = x*6364136223846793005 + 1442695040888963407
		return int(x>>33) % n
	}
}

// noise is n numbers that look like noise, of all 64 bits.
func noise(begin, n int) []uint64 {
	next := drawn(begin)
	l := make([]uint64, n)
	for i := range l {
		for range 4 {
			l[i] = l[i]<<16 | uint64(next(65536))
		}
	}
	return l
}

// few is n numbers of some that the list has, so that the same ones come often.
func few(begin, n int, of []uint64) []uint64 {
	next := drawn(begin)
	l := make([]uint64, n)
	for i := range l {
		l[i] = of[next(len(of))]
	}
	return l
}

// counted is n numbers that are no two the same, and go up by such steps.
func counted(begin, step uint64, n int) []uint64 {
	l := make([]uint64, n)
	for i := range l {
		l[i] = begin
		begin += step
	}
	return l
}

// lists are such as may be handed in: none, short ones and long ones, of numbers that are apart and of such as are not.
func lists() [][]uint64 {
	l := [][]uint64{
		nil, {}, {0}, {0, 0}, {0, 0, 0}, {5}, {5, 5}, {1, 2, 1, 2}, {high}, {high, high}, {high, high + 1}, {high + 1, high}, {high - 1}, {most}, {most, most}, {most, 0}, {0, most}, {high - 1, high},
		edges, counted(high, 1, 20), counted(high-10, 1, 20), counted(most-5, 1, 12), counted(9, most, 20), make([]uint64, 100),
	}
	for n := 1; n <= 40; n++ {
		l = append(l, noise(n, n), few(n, n, edges), few(n, n, edges[:3]))
	}
	for _, n := range []int{63, 64, 65, 127, 128, 129, 255, 256, 257, 1000, 1023, 1024, 1025, 5000} {
		l = append(l, noise(n, n), few(n, n, edges))
	}
	return l
}

// overwrite puts other numbers in all of l's memory, up to its capacity.
func overwrite(l []uint64) {
	l = l[:cap(l)]
	for i := range l {
		l[i] = ^l[i]
	}
}

// spoil writes, cuts and grows what was told.
func spoil(l []uint64) {
	overwrite(l)
	_ = append(l[:len(l)/2], 4)
	_ = append(l, 1, 2, 3)
	clear(l[:cap(l)])
}

// spare answers l with room behind it in which a guard stands, and a function that tells whether l and the guard are as they were.
func spare(l []uint64) ([]uint64, func() bool) {
	all := slices.Concat(l, []uint64{77, 0, high, most, 77})
	were := slices.Clone(all)
	return all[:len(l)], func() bool { return slices.Equal(all, were) }
}

func TestExample(t *testing.T) { // P26.1, P26.2
	s := nonce.New([]uint64{5})
	if a, b := s.Next(), s.Next(); a != 5 || b != 1<<63 {
		t.Fatal(a, b)
	}
	if a, b, ok := nonce.First([]uint64{1, 2, 1, 2}); a != 0 || b != 2 || !ok {
		t.Fatal(a, b, ok)
	}
}

// What each Next answers, and what Used tells behind it.
func TestWrittenOut(t *testing.T) { // P26.1, P26.3
	for _, c := range []struct {
		handed, next []uint64
	}{
		{nil, []uint64{9223372036854775808, 9223372036854775809, 9223372036854775810, 9223372036854775811}},
		{[]uint64{}, []uint64{9223372036854775808, 9223372036854775809, 9223372036854775810, 9223372036854775811}},
		{[]uint64{0}, []uint64{0, 9223372036854775808, 9223372036854775809}},
		{[]uint64{5, 6}, []uint64{5, 6, 9223372036854775808, 9223372036854775809, 9223372036854775810}},
		{[]uint64{6, 5}, []uint64{6, 5, 9223372036854775808, 9223372036854775809}},
		{[]uint64{7, 7, 7}, []uint64{7, 7, 7, 9223372036854775808, 9223372036854775809}},
		{[]uint64{1, 2, 1, 2}, []uint64{1, 2, 1, 2, 9223372036854775808, 9223372036854775809}},
		{[]uint64{0, 0}, []uint64{0, 0, 9223372036854775808, 9223372036854775809}},
		{[]uint64{9223372036854775807}, []uint64{9223372036854775807, 9223372036854775808, 9223372036854775809}},
		{[]uint64{9223372036854775808}, []uint64{9223372036854775808, 9223372036854775808, 9223372036854775809}},
		{[]uint64{9223372036854775809}, []uint64{9223372036854775809, 9223372036854775808, 9223372036854775809}},
		{[]uint64{9223372036854775808, 9223372036854775809, 3}, []uint64{9223372036854775808, 9223372036854775809, 3, 9223372036854775808, 9223372036854775809}},
		{[]uint64{18446744073709551615}, []uint64{18446744073709551615, 9223372036854775808, 9223372036854775809}},
		{[]uint64{0, 9223372036854775807, 9223372036854775808, 18446744073709551615}, []uint64{0, 9223372036854775807, 9223372036854775808, 18446744073709551615, 9223372036854775808}},
	} {
		s := nonce.New(c.handed)
		if l := s.Used(); len(l) != 0 {
			t.Fatal(c.handed, l)
		}
		for i, want := range c.next {
			if n := s.Next(); n != want {
				t.Fatal(c.handed, i, n)
			}
			if l := s.Used(); !slices.Equal(l, c.next[:i+1]) {
				t.Fatal(c.handed, i, l)
			}
		}
	}
}

// Each list, one by one to its end, and on behind it.
func TestEachList(t *testing.T) { // P26.1
	for _, l := range lists() {
		s := nonce.New(l)
		for i, want := range l {
			if n := s.Next(); n != want {
				t.Fatal(len(l), i, n, want)
			}
		}
		if used := s.Used(); !slices.Equal(used, l) {
			t.Fatal(len(l), used)
		}
		for i := range uint64(300) {
			if n := s.Next(); n != high+i {
				t.Fatal(len(l), i, n)
			}
		}
		if used := s.Used(); !slices.Equal(used, slices.Concat(l, counted(high, 1, 300))) {
			t.Fatal(len(l), used)
		}
	}
}

// Each number as the only one, as the first one, as the last one, and several times in a row; behind it begins the same row.
func TestEachNumber(t *testing.T) { // P26.1
	for _, a := range edges {
		for _, l := range [][]uint64{{a}, {a, 1}, {1, a}, {a, a}, {a, a, a}, {a, 2, a}, {1, 2, a}, {most, a, 0}} {
			w := opened(t, l...)
			for range len(l) + 4 {
				w.draw()
				w.holds()
			}
		}
	}
	for bit := range 64 {
		w := opened(t, 1<<bit, ^uint64(1<<bit))
		w.draws(4)
		w.holds()
	}
}

// Where there is nothing, 2^63 comes first.
func TestNothingHandedIn(t *testing.T) { // P26.1
	for _, l := range [][]uint64{nil, {}, make([]uint64, 0, 10), edges[:0], edges[3:3]} {
		s := nonce.New(l)
		if used := s.Used(); len(used) != 0 {
			t.Fatal(used)
		}
		for i := range uint64(1000) {
			if n := s.Next(); n != high+i {
				t.Fatal(i, n)
			}
		}
		if used := s.Used(); !slices.Equal(used, counted(high, 1, 1000)) {
			t.Fatal(len(used))
		}
	}
}

// Numbers behind the last one that was handed in are drawn without an end.
func TestLongBehind(t *testing.T) { // P26.1
	for _, l := range [][]uint64{nil, {5}, {high, high + 1}, noise(1, 1000)} {
		const many = 300000
		s := nonce.New(l)
		for range l {
			s.Next()
		}
		for i := range uint64(many) {
			if n := s.Next(); n != high+i {
				t.Fatal(len(l), i, n)
			}
		}
		if used := s.Used(); !slices.Equal(used, slices.Concat(l, counted(high, 1, many))) {
			t.Fatal(len(l), len(used))
		}
	}
}

// A long list, longer than what is counted in two bytes.
func TestLongList(t *testing.T) { // P26.1, P26.3
	l := noise(9, 200000)
	s := nonce.New(l)
	for i, want := range l {
		if n := s.Next(); n != want {
			t.Fatal(i, n, want)
		}
	}
	if n := s.Next(); n != high {
		t.Fatal(n)
	}
	if used := s.Used(); !slices.Equal(used, append(slices.Clone(l), high)) {
		t.Fatal(len(used))
	}
}

// What is drawn behind them hangs on how many were drawn, not on what was handed in: a number may come anew.
func TestDrawnAnew(t *testing.T) { // P26.1, P26.2
	w := opened(t, high+1, high, high+1)
	w.draws(5)
	w.holds()
	if a, b, ok := nonce.First(w.s.Used()); a != 0 || b != 2 || !ok {
		t.Fatal(a, b, ok)
	}
	w = opened(t, 4, high+3)
	w.draws(5)
	if l := w.s.Used(); !nonce.Apart(l) {
		t.Fatal(l)
	}
	w.draw()
	if a, b, ok := nonce.First(w.s.Used()); a != 1 || b != 5 || !ok {
		t.Fatal(a, b, ok)
	}
	w.holds()
}

// Used ahead of any Next, behind each of them, as often as it may be asked: asking draws none.
func TestUsed(t *testing.T) { // P26.1
	for _, l := range lists() {
		if len(l) > 300 {
			continue
		}
		w := opened(t, l...)
		for range 3 {
			w.holds()
		}
		for range len(l) + 20 {
			w.draw()
			for range 3 {
				w.holds()
			}
		}
	}
}

// Asked only at the end, or never, the source draws what it would have.
func TestAskingChangesNothing(t *testing.T) { // P26.1, rule 4
	for _, l := range lists() {
		asked, never := nonce.New(l), nonce.New(l)
		for i := range min(len(l), 300) + 30 {
			for range i % 4 {
				asked.Used()
			}
			if a, b := asked.Next(), never.Next(); a != b {
				t.Fatal(len(l), i, a, b)
			}
		}
		if a, b := asked.Used(), never.Used(); !slices.Equal(a, b) {
			t.Fatal(len(l), a, b)
		}
	}
}

// Next and Used mixed, of many lists, held behind each act against a count.
func TestManyActs(t *testing.T) { // P26.1, P26.3
	for seed := range 400 {
		next := drawn(seed)
		l := noise(seed, next(60))
		if seed%2 == 0 {
			l = few(seed, next(60), edges)
		}
		w := opened(t, l...)
		for range 150 {
			if next(3) == 0 {
				w.holds()
			} else {
				w.draw()
			}
			used := w.s.Used()
			if a, b, ok := pair(used); nonce.Apart(used) == ok || !answers(used, a, b, ok) {
				t.Fatal(seed, used)
			}
		}
		w.holds()
	}
}

// All short rows of Next and Used, of short lists.
func TestEachShortRow(t *testing.T) { // P26.1, P26.3
	const long = 8
	for _, l := range [][]uint64{nil, {0}, {7, 7}, {high, 0, most}, {1, 2, 3, 4}, {1, 2, 3, 4, 5, 6, 7, 8, 9}} {
		for row := range 1 << long {
			w := opened(t, l...)
			for by := range long {
				if row>>by&1 == 0 {
					w.draw()
				} else {
					w.holds()
				}
			}
			w.holds()
			w.draw()
			w.holds()
		}
	}
}

// What was drawn begins with what was handed in, as far as it was drawn; behind any acts.
func TestBeginsWithWhatWasHandedIn(t *testing.T) { // P26.3
	for seed, l := range lists() {
		next := drawn(seed)
		s := nonce.New(l)
		var told []uint64
		for len(told) < min(len(l), 300)+10 {
			for range next(12) {
				told = append(told, s.Next())
			}
			used := s.Used()
			n := min(len(l), len(used))
			if !slices.Equal(used[:n], l[:n]) || !slices.Equal(used, told) {
				t.Fatal(seed, len(l), len(told))
			}
		}
	}
}

// pair is what First is asked for, by a plain count of pairs.
func pair(l []uint64) (int, int, bool) {
	for later := range l {
		for ahead := range later {
			if l[ahead] == l[later] {
				return ahead, later, true
			}
		}
	}
	return 0, 0, false
}

// answers tells whether First answers that.
func answers(l []uint64, ahead, later int, same bool) bool {
	a, b, ok := nonce.First(l)
	return a == ahead && b == later && ok == same
}

// check fails the test if what Apart and First say of l isn't what a count of its pairs does.
func check(t *testing.T, l []uint64) {
	t.Helper()
	ahead, later, same := pair(l)
	if a, b, ok := nonce.First(l); a != ahead || b != later || ok != same {
		t.Fatalf("First(%d) = %d, %d, %t, not %d, %d, %t", l, a, b, ok, ahead, later, same)
	}
	if apart := nonce.Apart(l); apart == same {
		t.Fatalf("Apart(%d) = %t", l, apart)
	}
}

func TestFirstWrittenOut(t *testing.T) { // P26.2, rule 5
	for _, c := range []struct {
		l            []uint64
		ahead, later int
		same         bool
	}{
		{nil, 0, 0, false},
		{[]uint64{}, 0, 0, false},
		{[]uint64{0}, 0, 0, false},
		{[]uint64{5}, 0, 0, false},
		{[]uint64{5, 5}, 0, 1, true},
		{[]uint64{0, 0}, 0, 1, true},
		{[]uint64{most, most}, 0, 1, true},
		{[]uint64{high, high}, 0, 1, true},
		{[]uint64{5, 6}, 0, 0, false},
		{[]uint64{0, high}, 0, 0, false},
		{[]uint64{high - 1, most}, 0, 0, false},
		{[]uint64{5, high + 5}, 0, 0, false},
		{[]uint64{1, 1 << 32, 1<<32 + 1, high + 1}, 0, 0, false},
		{[]uint64{1 << 53, 1<<53 + 1}, 0, 0, false},
		{[]uint64{5, 6, 5}, 0, 2, true},
		{[]uint64{6, 5, 5}, 1, 2, true},
		{[]uint64{5, 5, 6}, 0, 1, true},
		{[]uint64{5, 5, 5}, 0, 1, true},
		{[]uint64{1, 5, 2, 5, 5}, 1, 3, true},
		{[]uint64{1, 2, 1, 2}, 0, 2, true},
		{[]uint64{1, 2, 2, 1}, 1, 2, true},
		{[]uint64{1, 1, 2, 2}, 0, 1, true},
		{[]uint64{3, 1, 2, 2, 1, 3}, 2, 3, true},
		{[]uint64{3, 1, 2, 3, 1, 2}, 0, 3, true},
		{[]uint64{1, 2, 3, 4, 2, 1}, 1, 4, true},
		{[]uint64{1, 2, 3, 4, 5, 6, 7, 8, 9, 1}, 0, 9, true},
		{[]uint64{9, 1, 2, 3, 4, 5, 6, 7, 8, 8}, 8, 9, true},
	} {
		if a, b, ok := nonce.First(c.l); a != c.ahead || b != c.later || ok != c.same {
			t.Fatal(c.l, a, b, ok)
		}
		if apart := nonce.Apart(c.l); apart != !c.same {
			t.Fatal(c.l, apart)
		}
	}
}

// All lists of up to seven of a few numbers, some of which are the same but for one bit.
func TestEachShortList(t *testing.T) { // P26.2
	for _, of := range [][]uint64{{0, 1, 2}, {0, high, most}, {5, high + 5, 1<<32 + 5}, {1 << 53, 1<<53 + 1, 1<<63 + 1<<53}, {7, 7, 8}} {
		for long := range 8 {
			rows := 1
			for range long {
				rows *= len(of)
			}
			for row := range rows {
				l := make([]uint64, long)
				for i := range l {
					l[i] = of[row%len(of)]
					row /= len(of)
				}
				check(t, l)
			}
		}
	}
	for row := range 6 * 6 * 6 * 6 * 6 * 6 {
		l := make([]uint64, 6)
		for i := range l {
			l[i] = uint64(row % 6)
			row /= 6
		}
		check(t, l)
	}
}

// Many lists, short ones and long ones, in which the same numbers come early, late, often or not at all.
func TestManyLists(t *testing.T) { // P26.2
	for _, l := range lists() {
		check(t, l)
	}
	for seed := range 3000 {
		next := drawn(seed)
		of := noise(seed, 1+next(200))
		check(t, few(seed+1, next(40), of))
		check(t, few(seed+1, next(40), edges))
	}
}

// All places of a pair of the same, in lists whose other numbers are apart.
func TestEachPair(t *testing.T) { // P26.2
	for _, long := range []int{2, 3, 4, 5, 8, 9, 16, 17, 40} {
		for later := range long {
			for ahead := range later {
				for _, l := range [][]uint64{counted(0, 1, long), counted(high-5, 1, long), counted(3, 1<<59+1<<32, long)} {
					l[later] = l[ahead]
					if a, b, ok := nonce.First(l); a != ahead || b != later || !ok || nonce.Apart(l) {
						t.Fatal(long, ahead, later, a, b, ok)
					}
				}
			}
		}
	}
}

// Of two pairs that one counts whose later place comes first, whatever their places ahead; and of three that are the same the first two.
func TestTwoPairs(t *testing.T) { // P26.2
	const long = 9
	for a := range long {
		for b := a + 1; b < long; b++ {
			for c := range long {
				for d := c + 1; d < long; d++ {
					l := counted(50, 1, long)
					l[a], l[b] = 1, 1
					l[c], l[d] = 2, 2 // over the others, if the places are the same
					check(t, l)
					l[c], l[d] = 1, 1
					check(t, l)
				}
			}
		}
	}
}

// The same ones far from each other, behind many others and ahead of many others.
func TestFarApart(t *testing.T) { // P26.2
	const many = 200000
	l := noise(3, many)
	if a, b, ok := nonce.First(l); a != 0 || b != 0 || ok || !nonce.Apart(l) {
		t.Fatal(a, b, ok)
	}
	for _, c := range [][2]int{{0, many - 1}, {0, many / 2}, {1, many - 2}, {many / 2, many - 1}, {many - 2, many - 1}, {0, 1}, {65535, 65536}, {0, 65536}, {255, 70000}} {
		was := l[c[1]]
		l[c[1]] = l[c[0]]
		if a, b, ok := nonce.First(l); a != c[0] || b != c[1] || !ok || nonce.Apart(l) {
			t.Fatal(c, a, b, ok)
		}
		l[c[1]] = was
	}
	for i, n := range []uint64{1, 1 << 32, 1 << 40} { // such as have the same low bits
		l := counted(n, n, many)
		if a, b, ok := nonce.First(l); a != 0 || b != 0 || ok || !nonce.Apart(l) {
			t.Fatal(i, a, b, ok)
		}
	}
}

// Numbers that are the same but for one bit, whichever it is, aren't the same.
func TestEachBit(t *testing.T) { // P26.2
	for _, n := range edges {
		l := []uint64{n}
		for bit := range 64 {
			other := n ^ 1<<bit
			if !nonce.Apart([]uint64{n, other}) || !nonce.Apart([]uint64{other, n}) || !answers([]uint64{n, other}, 0, 0, false) {
				t.Fatal(n, bit)
			}
			if !answers([]uint64{other, n, other}, 0, 2, true) || !answers([]uint64{other, n, n}, 1, 2, true) {
				t.Fatal(n, bit)
			}
			l = append(l, other)
		}
		if !nonce.Apart(l) || !answers(l, 0, 0, false) {
			t.Fatal(n)
		}
		if !answers(append(l, n^high), 64, 65, true) {
			t.Fatal(n)
		}
	}
}

// What was drawn of no list of its own is apart, and of one whose numbers are below 2^63 if these are.
func TestDrawnAreApart(t *testing.T) { // P26.1, P26.2
	for _, l := range [][]uint64{nil, {5}, {0, high - 1}, counted(0, 1<<40, 500)} {
		w := opened(t, l...)
		w.draws(len(l) + 500)
		if !nonce.Apart(w.s.Used()) || !answers(w.s.Used(), 0, 0, false) {
			t.Fatal(len(l))
		}
	}
}

// What is handed to New isn't changed, nor is the room behind it, by any call.
func TestWhatIsHandedInStays(t *testing.T) { // P26.1, rule 3
	for _, given := range lists() {
		l, same := spare(given)
		s := nonce.New(l)
		for i := range min(len(l), 300) + 20 {
			s.Next()
			if i%7 == 0 {
				spoil(s.Used())
			}
			if !same() {
				t.Fatal(len(l), i)
			}
		}
		spoil(s.Used())
		if !same() {
			t.Fatal(len(l))
		}
	}
}

// What was handed to New may be written afterwards, at any time, without any later answer being another one.
func TestWhatIsHandedInIsNotKept(t *testing.T) { // P26.1, rule 3
	for _, given := range lists() {
		if len(given) > 300 {
			continue
		}
		for _, at := range []int{0, 1, len(given) / 2, len(given), len(given) + 3} {
			l, _ := spare(given)
			w := &twin{t: t, s: nonce.New(l), left: slices.Clone(given)}
			w.draws(at)
			overwrite(l)
			w.holds()
			w.draws(len(given) + 5)
			w.holds()
			clear(l[:cap(l)])
			w.draws(5)
			w.holds()
		}
	}
}

// One list for many sources, written anew ahead of each.
func TestOneListForAll(t *testing.T) { // P26.1, rule 3
	l := make([]uint64, 20)
	var all []*twin
	for seed := range 50 {
		copy(l, noise(seed, len(l)))
		w := &twin{t: t, s: nonce.New(l), left: slices.Clone(l)}
		w.draws(seed % 25)
		all = append(all, w)
	}
	clear(l)
	for _, w := range all {
		w.holds()
		w.draws(25)
		w.holds()
	}
}

// Of one list two sources may be made, and of parts of it that overlap.
func TestSourcesOfOneList(t *testing.T) { // P26.1, rules 3 and 4
	l, same := spare(noise(2, 12))
	var all []*twin
	for from := range l {
		for to := from; to <= len(l); to++ {
			all = append(all, &twin{t: t, s: nonce.New(l[from:to]), left: slices.Clone(l[from:to])})
		}
	}
	for range 15 {
		for _, w := range all {
			w.draw()
			spoil(w.s.Used())
		}
	}
	for _, w := range all {
		w.holds()
	}
	if !same() {
		t.Fatal(l)
	}
}

// What Used tells may be written, cut and grown.
func TestUsedIsNewMemory(t *testing.T) { // P26.1, rule 3
	for _, l := range lists() {
		if len(l) > 300 {
			continue
		}
		w := opened(t, l...)
		spoil(w.s.Used())
		w.holds()
		for range len(l) + 12 {
			w.draw()
			spoil(w.s.Used())
			w.holds()
			used := w.s.Used()
			_ = append(used, 1, 2, 3)
			_ = append(used[:0], 4, 5, 6)
			w.holds()
		}
	}
}

// Two answers of Used share nothing, whether something was drawn between them or not.
func TestAnswersShareNothing(t *testing.T) { // P26.1, rule 3
	for _, l := range lists() {
		if len(l) > 300 {
			continue
		}
		for between := range 4 {
			w := opened(t, l...)
			w.draws(len(l)/2 + 1)
			a, was := w.s.Used(), slices.Clone(w.told)
			w.draws(between)
			b := w.s.Used()
			spoil(a)
			if !slices.Equal(b, w.told) {
				t.Fatal(len(l), between, b)
			}
			a = w.s.Used()
			spoil(b)
			if !slices.Equal(a, w.told) || !slices.Equal(a[:len(was)], was) {
				t.Fatal(len(l), between, a)
			}
			w.holds()
		}
	}
}

// What was told stays what it was, whatever is drawn later.
func TestAnswersStay(t *testing.T) { // P26.1, rule 3
	for seed, l := range lists() {
		if len(l) > 300 {
			continue
		}
		next := drawn(seed)
		w := opened(t, l...)
		var told, were [][]uint64
		for range 40 {
			w.draws(next(4))
			used := w.s.Used()
			told = append(told, used)
			were = append(were, slices.Clone(used))
		}
		for i := range told {
			if !slices.Equal(told[i], were[i]) {
				t.Fatal(len(l), i)
			}
		}
	}
}

// What Used tells may be handed to New, Apart and First, and the one source then has nothing to do with the other one.
func TestFromOneToAnother(t *testing.T) { // rule 3
	x := opened(t, noise(6, 10)...)
	x.draws(14)
	used := x.s.Used()
	y := &twin{t: t, s: nonce.New(used), left: slices.Clone(used)}
	check(t, used)
	spoil(used)
	for range 20 {
		x.draw()
		y.draw()
		x.holds()
		y.holds()
	}
}

// What is handed to Apart and First isn't changed, nor is the room behind it.
func TestApartAndFirstChangeNothing(t *testing.T) { // P26.2, rule 3
	for _, given := range lists() {
		l, same := spare(given)
		for range 3 {
			nonce.Apart(l)
			nonce.First(l)
			if !same() {
				t.Fatal(len(l))
			}
		}
	}
}

// Of what Apart and First were handed nothing is kept: the next answer is of the next list.
func TestApartAndFirstKeepNothing(t *testing.T) { // P26.2, rules 3 and 4
	l := []uint64{1, 2, 3}
	for i := range uint64(1000) {
		l[0], l[1], l[2] = i, i+1, i+2
		if !nonce.Apart(l) || !answers(l, 0, 0, false) {
			t.Fatal(i)
		}
		l[2] = i
		if nonce.Apart(l) || !answers(l, 0, 2, true) {
			t.Fatal(i)
		}
		l[1] = i
		if nonce.Apart(l) || !answers(l, 0, 1, true) || !nonce.Apart(l[2:]) || !nonce.Apart(l[:1]) || !nonce.Apart(nil) {
			t.Fatal(i)
		}
	}
}

// unmade are the sources that New did not make.
func unmade() []*nonce.Source {
	return []*nonce.Source{nil, new(nonce.Source), {}}
}

// nothing fails the test if the source, which New did not make, isn't such.
func nothing(t *testing.T, s *nonce.Source) {
	t.Helper()
	if n := s.Next(); n != 0 {
		t.Fatal(n)
	}
	if l := s.Used(); len(l) != 0 {
		t.Fatal(l)
	}
}

// Each call as the first one, and each behind each other one.
func TestUnmade(t *testing.T) { // P26.1, rule 1
	calls := []func(s *nonce.Source) bool{
		func(s *nonce.Source) bool { return s.Next() == 0 },
		func(s *nonce.Source) bool { return s.Next() == 0 && s.Next() == 0 },
		func(s *nonce.Source) bool { return len(s.Used()) == 0 },
	}
	for i := range unmade() {
		for first, f := range calls {
			for second, g := range calls {
				s := unmade()[i]
				for range 20 {
					if !f(s) || !g(s) {
						t.Fatal(i, first, second)
					}
				}
				nothing(t, s)
			}
		}
	}
}

// A source that is a part of something else, and that nobody made, is no other than one of its own.
func TestUnmadeInside(t *testing.T) { // P26.1, rule 1
	var in struct {
		before uint64
		s      nonce.Source
		after  uint64
	}
	var l [3]nonce.Source
	for range 40 {
		nothing(t, &in.s)
		for i := range l {
			nothing(t, &l[i])
		}
		if in.before != 0 || in.after != 0 {
			t.Fatal(in.before, in.after)
		}
	}
}

// A source has the calls of the chapter, and nothing of it can be seen but by them.
func TestNoOtherCalls(t *testing.T) { // P26.1
	s := reflect.TypeFor[*nonce.Source]()
	var names []string
	for m := range s.Methods() {
		names = append(names, m.Name)
	}
	if want := []string{"Next", "Used"}; !slices.Equal(names, want) {
		t.Fatal(names)
	}
	for f := range s.Elem().Fields() {
		if f.IsExported() {
			t.Fatal(f.Name)
		}
	}
}

// Sources have nothing to do with one another, nor with one that nobody made.
func TestTwoSources(t *testing.T) { // rule 4
	next := drawn(7)
	x, y, z := opened(t, noise(1, 100)...), opened(t), opened(t, noise(1, 100)...)
	for range 500 {
		for _, w := range []*twin{x, y, z} {
			w.draws(next(2))
		}
		for _, s := range unmade() {
			nothing(t, s)
		}
		opened(t, 1, 2).draws(3)
		x.holds()
		y.holds()
		z.holds()
	}
}

// The same calls are answered alike, many times over: what is told hangs on no order in which a map is gone through.
func TestTheSameAgain(t *testing.T) { // rule 4
	run := func() string {
		next := drawn(3)
		said := ""
		for seed := range 12 {
			s := nonce.New(few(seed, next(30), edges[:12]))
			for range 25 {
				if next(3) == 0 {
					said += fmt.Sprint(s.Used())
				}
				said += fmt.Sprint(s.Next())
				a, b, ok := nonce.First(s.Used())
				said += fmt.Sprint(a, b, ok, nonce.Apart(s.Used()))
			}
		}
		return said
	}
	first := run()
	for i := range 100 {
		if run() != first {
			t.Fatal(i)
		}
	}
}

// A list of several pairs, asked many times over, has the same first one each time.
func TestFirstIsTheSameAgain(t *testing.T) { // P26.2, rule 4
	l := slices.Concat(counted(1, 3, 50), counted(148, math.MaxUint64-2, 50)) // up to 148, and down again
	for i := range 2000 {
		if a, b, ok := nonce.First(l); a != 49 || b != 50 || !ok {
			t.Fatal(i, a, b, ok)
		}
	}
	l = slices.Concat(counted(1, 3, 50), counted(1, 3, 50))
	for i := range 2000 {
		if a, b, ok := nonce.First(l); a != 0 || b != 50 || !ok {
			t.Fatal(i, a, b, ok)
		}
	}
}

// inUse is how many bytes are kept.
func inUse() int {
	var m runtime.MemStats
	runtime.GC()
	runtime.GC()
	runtime.ReadMemStats(&m)
	return int(m.HeapAlloc)
}

// Of what was asked nothing is kept, and of what was handed in no more than the numbers, whatever room stood behind them.
func TestWhatIsKept(t *testing.T) { // P26.1, P26.2
	const many = 200
	var l [many]*nonce.Source
	before := inUse()
	for i := range l {
		given := make([]uint64, 10, 10000)
		l[i] = nonce.New(given)
		for range 100 {
			l[i].Next()
			l[i].Used()
		}
		nonce.Apart(given[:5000])
		nonce.First(counted(uint64(i), 1, 1000))
	}
	kept := inUse() - before
	for _, s := range l {
		if n := s.Next(); n != high+90 {
			t.Fatal(n)
		}
	}
	if kept > many*2000 { // 110 numbers are fewer than 1000 bytes, 10000 are 80000
		t.Fatal(kept / many)
	}
}

// A list that was asked about may go when it is asked about no more.
func TestAskedListsAreNotKept(t *testing.T) { // P26.2, rule 3
	before := inUse()
	for range 3 {
		if l := counted(1, 1, 1<<20); !nonce.Apart(l) || !answers(l, 0, 0, false) {
			t.Fatal("some are the same")
		}
	}
	if kept := inUse() - before; kept > 1<<20 { // such a list is eight times that
		t.Fatal(kept)
	}
}
