package tally_test

import (
	"bytes"
	"fmt"
	"kedge/tally"
	"math"
	"runtime"
	"slices"
	"testing"
)

// labels are such as the chapter allows: any; among them such as are others if they are cut short or have no sign.
var labels = []int{
	0, 1, 2, 3, 7, 127, 128, 254, 255, 256, 257, 511, 512, 65535, 65536, 65537,
	1<<31 - 1, 1 << 31, 1<<31 + 1, 1<<32 - 1, 1 << 32, 1<<32 + 1, 1 << 33, 1 << 53, 1<<53 + 1, 1 << 62, math.MaxInt - 1, math.MaxInt,
	-1, -2, -3, -127, -128, -129, -255, -256, -257, -65535, -65536, -65537,
	-1 << 31, -1<<31 - 1, 1 - 1<<31, -1 << 32, 1 - 1<<32, -1 - 1<<32, -1 << 62, math.MinInt + 1, math.MinInt,
}

// others are labels that no list above has.
var others = []int{4, 5, 6, 8, 253, 258, 1<<31 + 7, 1<<32 + 7, 1<<62 + 1, math.MaxInt - 2, -4, -254, -258, -1<<31 + 7, -1<<62 + 1, math.MinInt + 2}

// messages are each another one: none, few bytes, zeros at the end and at the beginning, some with which others begin, texts that are not UTF-8, and such as are alike but for case or a form, and long ones.
func messages() [][]byte {
	l := [][]byte{
		nil, {0}, {0, 0}, {0, 0, 0}, {0, 'a'}, []byte("a"), []byte("a\x00"), []byte("a\x00\x00"), []byte("A"), []byte("a "), []byte(" a"), []byte("aa"), []byte("ab"), []byte("ba"), []byte("abc"), []byte("b"), []byte("bb"),
		{0x80}, {0xff}, {0xff, 0xff}, {0xfe}, {0xc0, 0x80}, {0xed, 0xa0, 0x80}, {0xed, 0xbf, 0xbf}, {0xef, 0xbf, 0xbd}, {0xef, 0xbf}, {0xc3}, {0xc3, 0x28}, {0xf5, 0x80, 0x80, 0x80}, {0xef, 0xbb, 0xbf, 'a'},
		[]byte("\u00e9"), []byte("e\u0301"), {0xe9}, {0x7e}, {0x7d, 0x5e}, {1}, {1, 0}, {0, 1}, {255, 0}, {0, 255}, {'\n'}, {'\r', '\n'}, []byte("0"), []byte("1"), []byte("10"), []byte("-1"),
	}
	for _, n := range []int{7, 8, 9, 15, 16, 17, 31, 32, 33, 63, 64, 65, 95, 96, 97, 511, 512, 513, 4095, 4096, 4097, 20000} {
		b := noise(n, n)
		low, high := bytes.Clone(b), bytes.Clone(b)
		low[0] ^= 1
		high[n-1] ^= 128
		l = append(l, make([]byte, n), b, low, high, slices.Concat(b, []byte{0}))
	}
	return l
}

// told is a label, a message and how often it was told.
type told struct {
	label int
	data  string
	count uint64
}

// twin is a tally, and beside it a list of what was told, in the order in which it was told first, kept as the chapter says and searched one by one.
type twin struct {
	t    *testing.T
	x    *tally.Tally
	list []told
	adds uint64
}

// opened is a tally to which nothing was told.
func opened(t *testing.T) *twin {
	t.Helper()
	x := tally.New()
	if x == nil {
		t.Fatal("New() is nil")
	}
	w := &twin{t: t, x: x}
	w.holds()
	return w
}

// count is how often the message was told, by the list.
func (w *twin) count(label int, data []byte) uint64 {
	for _, r := range w.list {
		if r.label == label && r.data == string(data) {
			return r.count
		}
	}
	return 0
}

// add tells a message, and the list, too.
func (w *twin) add(label int, data []byte) {
	w.t.Helper()
	at := slices.IndexFunc(w.list, func(r told) bool { return r.label == label && r.data == string(data) })
	if at < 0 {
		at = len(w.list)
		w.list = append(w.list, told{label, string(data), 0})
	}
	w.list[at].count++
	w.adds++
	if n := w.x.Add(label, data); n != w.list[at].count {
		w.t.Fatalf("Add(%d, %s) = %d, not %d", label, short(data), n, w.list[at].count)
	}
}

// texts tells texts under a label, one behind the other.
func (w *twin) texts(label int, l ...string) {
	w.t.Helper()
	for _, s := range l {
		w.add(label, []byte(s))
	}
}

// clear clears, and the list, too.
func (w *twin) clear() {
	w.x.Clear()
	w.list, w.adds = nil, 0
}

// counts fails the test if the message isn't told as often as the list says.
func (w *twin) counts(label int, data []byte) {
	w.t.Helper()
	if n := w.x.Count(label, data); n != w.count(label, data) {
		w.t.Fatalf("Count(%d, %s) = %d, not %d", label, short(data), n, w.count(label, data))
	}
}

// best fails the test if the label's Best isn't the list's: the count that is above all ahead of it, and not below any behind it.
func (w *twin) best(label int) {
	w.t.Helper()
	var want told
	for i := len(w.list) - 1; i >= 0; i-- {
		if r := w.list[i]; r.label == label && r.count >= want.count {
			want = r
		}
	}
	b, n := w.x.Best(label)
	if string(b) != want.data || n != want.count {
		w.t.Fatalf("Best(%d) = %s, %d, not %s, %d", label, short(b), n, short([]byte(want.data)), want.count)
	}
}

// rows fails the test if Rows aren't the list.
func (w *twin) rows() {
	w.t.Helper()
	w.are(w.x.Rows())
}

// are fails the test if these rows aren't the list.
func (w *twin) are(got []tally.Row) {
	w.t.Helper()
	if len(got) != len(w.list) {
		w.t.Fatalf("%d rows, not %d", len(got), len(w.list))
	}
	for i, r := range w.list {
		if x := got[i]; x.Label != r.label || string(x.Data) != r.data || x.Count != r.count {
			w.t.Fatalf("row %d is %d, %s, %d, not %d, %s, %d", i, x.Label, short(x.Data), x.Count, r.label, short([]byte(r.data)), r.count)
		}
	}
}

// holds fails the test if the tally isn't, as a whole, what the list is: by its rows, each message's count, and each label's best.
func (w *twin) holds() {
	w.t.Helper()
	w.rows()
	for _, r := range w.list {
		w.counts(r.label, []byte(r.data))
		w.best(r.label)
	}
}

// short is a text for a failing test's words.
func short(b []byte) string {
	if len(b) > 20 {
		return fmt.Sprintf("%x.. (%d bytes)", b[:20], len(b))
	}
	return fmt.Sprintf("%q", b)
}

// drawn answers a function that tells numbers that look like noise, below n, the same ones in each run.
func drawn(begin int) func(n int) int {
	x := uint64(begin)
	return func(n int) int {
		x = x*6364136223846793005 + 1442695040888963407
		return int(x>>33) % n
	}
}

// noise is n bytes that look like noise.
func noise(begin, n int) []byte {
	next := drawn(begin)
	b := make([]byte, n)
	for i := range b {
		b[i] = byte(next(256))
	}
	return b
}

// spare answers b with room behind it in which a guard stands, and a function that tells whether b and the guard are as they were.
func spare(b []byte) ([]byte, func() bool) {
	whole := slices.Concat([]byte{7}, b, noise(len(b), 100))
	was := bytes.Clone(whole)
	return whole[1 : 1+len(b)], func() bool { return bytes.Equal(whole, was) }
}

// overwrite puts other bytes in all of b's memory, up to its capacity.
func overwrite(b []byte) {
	b = b[:cap(b)]
	for i := range b {
		b[i] = ^b[i]
	}
}

func TestExample(t *testing.T) { // P18.1, P18.2
	x := tally.New()
	for i, c := range []struct {
		label int
		data  string
		want  uint64
	}{{0, "a", 1}, {0, "b", 1}, {0, "b", 2}, {1, "c", 1}} {
		if n := x.Add(c.label, []byte(c.data)); n != c.want {
			t.Fatal(i, n)
		}
	}
	if b, n := x.Best(0); string(b) != "b" || n != 2 {
		t.Fatal(string(b), n)
	}
	if b, n := x.Best(1); string(b) != "c" || n != 1 {
		t.Fatal(string(b), n)
	}
	if b, n := x.Best(2); len(b) != 0 || n != 0 {
		t.Fatal(string(b), n)
	}
	if x.Count(0, []byte("a")) != 1 || x.Count(0, []byte("b")) != 2 || x.Count(1, []byte("c")) != 1 || x.Count(0, []byte("c")) != 0 || x.Count(1, []byte("a")) != 0 {
		t.Fatal(x.Rows())
	}
	want := []tally.Row{{Label: 0, Data: []byte("a"), Count: 1}, {Label: 0, Data: []byte("b"), Count: 2}, {Label: 1, Data: []byte("c"), Count: 1}}
	if got := x.Rows(); !slices.EqualFunc(got, want, same) {
		t.Fatal(got)
	}
	x.Clear()
	if b, n := x.Best(0); len(b) != 0 || n != 0 || len(x.Rows()) != 0 || x.Count(0, []byte("b")) != 0 || x.Add(0, []byte("b")) != 1 {
		t.Fatal(string(b), n, x.Rows())
	}
}

// same tells whether two rows are.
func same(a, b tally.Row) bool {
	return a.Label == b.Label && a.Count == b.Count && bytes.Equal(a.Data, b.Data)
}

func TestNothingTold(t *testing.T) { // P18.1, P18.2
	w := opened(t)
	for _, label := range slices.Concat(labels, others) {
		for _, m := range messages() {
			w.counts(label, m)
		}
		w.best(label)
	}
	w.rows()
}

// Each Add answers how often it was by now, that one, too.
func TestAddCounts(t *testing.T) { // P18.1
	x := tally.New()
	for i := range uint64(1000) {
		if n := x.Add(3, []byte("a")); n != i+1 {
			t.Fatal(i, n)
		}
		if n := x.Count(3, []byte("a")); n != i+1 {
			t.Fatal(i, n)
		}
		if b, n := x.Best(3); string(b) != "a" || n != i+1 {
			t.Fatal(i, string(b), n)
		}
		if l := x.Rows(); len(l) != 1 || !same(l[0], tally.Row{Label: 3, Data: []byte("a"), Count: i + 1}) {
			t.Fatal(i, l)
		}
	}
}

// Counts go on where a number of 8 or 16 bits, with or without a sign, would end.
func TestManyOfOne(t *testing.T) { // P18.1, P18.2, P18.3
	const many = 200000
	x := tally.New()
	x.Add(0, []byte("b"))
	for range many {
		x.Add(0, []byte("a"))
	}
	if n := x.Count(0, []byte("a")); n != many {
		t.Fatal(n)
	}
	if n := x.Add(0, []byte("a")); n != many+1 {
		t.Fatal(n)
	}
	if b, n := x.Best(0); string(b) != "a" || n != many+1 {
		t.Fatal(string(b), n)
	}
	if l := x.Rows(); len(l) != 2 || l[0].Count != 1 || l[1].Count != many+1 {
		t.Fatal(l)
	}
}

// Any label is one of its own.
func TestEachLabel(t *testing.T) { // P18.1, P18.2
	w := opened(t)
	for i, label := range labels {
		w.best(label)
		w.texts(label, "a")
		w.holds()
		for range i % 4 {
			w.texts(label, "b")
		}
		for _, l := range slices.Concat(labels[i+1:], others) {
			w.best(l)
			w.counts(l, []byte("a"))
		}
	}
	for _, label := range labels {
		w.texts(label, "a", "b")
	}
	w.holds()
	if len(w.x.Rows()) != 2*len(labels) {
		t.Fatal(len(w.x.Rows()))
	}
	w.clear()
	w.holds()
	for _, label := range labels {
		w.best(label)
		w.counts(label, []byte("a"))
	}
}

// Labels that stand side by side, and many of them.
func TestManyLabels(t *testing.T) { // P18.1, P18.2
	w := opened(t)
	for label := -300; label <= 300; label++ {
		for range 1 + (label+300)%3 {
			w.texts(label, "a")
		}
	}
	w.holds()
	for label := 300; label >= -300; label-- {
		w.texts(label, "b", "b")
	}
	w.holds()
}

// Any bytes are a message of their own.
func TestEachMessage(t *testing.T) { // P18.1, P18.2
	w := opened(t)
	l := messages()
	for i, m := range l {
		for _, later := range l[i:] {
			w.counts(0, later)
		}
		w.add(0, m)
		w.counts(0, m)
		w.best(0)
	}
	w.holds()
	if n := len(w.x.Rows()); n != len(l) {
		t.Fatal(n, len(l))
	}
	for i := range l {
		w.add(0, l[len(l)-1-i])
		w.best(0)
	}
	w.holds()
}

// Each message alone: it is its label's best, whatever is in it.
func TestEachMessageAlone(t *testing.T) { // P18.1, P18.2
	for _, label := range []int{0, -1, math.MinInt, math.MaxInt} {
		for _, m := range messages() {
			w := opened(t)
			for i := range uint64(3) {
				w.add(label, m)
				w.holds()
				if b, n := w.x.Best(label); !bytes.Equal(b, m) || n != i+1 {
					t.Fatal(short(b), n)
				}
			}
		}
	}
}

// Each byte, alone and ahead of and behind others.
func TestEachByte(t *testing.T) { // P18.1, P18.2
	w := opened(t)
	for i := range 256 {
		for n := range 1 + i%3 {
			w.add(-5, []byte{byte(i)})
			w.add(5, []byte{'x', byte(i)})
			w.add(5, []byte{byte(i), 'x', byte(n)})
		}
	}
	w.holds()
	for i := range 256 {
		if n := w.x.Count(-5, []byte{byte(i)}); n != uint64(1+i%3) {
			t.Fatal(i, n)
		}
	}
	if n := len(w.x.Rows()); n < 3*256 {
		t.Fatal(n)
	}
}

// Each message of two bytes is one of its own.
func TestEachTwoBytes(t *testing.T) { // P18.1, P18.3
	x := tally.New()
	for i := range 65536 {
		if n := x.Add(1, []byte{byte(i >> 8), byte(i)}); n != 1 {
			t.Fatal(i, n)
		}
	}
	for i, r := range x.Rows() {
		if !same(r, tally.Row{Label: 1, Data: []byte{byte(i >> 8), byte(i)}, Count: 1}) {
			t.Fatal(i, r)
		}
	}
}

// nil and an empty list are one message; no other one is that.
func TestNoByte(t *testing.T) { // P18.1, P18.2
	empty := [][]byte{nil, {}, make([]byte, 0, 9), []byte("abc")[:0], []byte("abc")[3:]}
	for i, first := range empty {
		x := tally.New()
		if b, n := x.Best(0); len(b) != 0 || n != 0 {
			t.Fatal(b, n)
		}
		if n := x.Add(0, first); n != 1 {
			t.Fatal(i, n)
		}
		for j, m := range empty {
			if n := x.Count(0, m); n != uint64(j+1) {
				t.Fatal(i, j, n)
			}
			if n := x.Add(0, m); n != uint64(j+2) {
				t.Fatal(i, j, n)
			}
		}
		if n := x.Count(0, []byte{0}); n != 0 {
			t.Fatal(n)
		}
		if b, n := x.Best(0); len(b) != 0 || n != 6 {
			t.Fatal(b, n)
		}
		if l := x.Rows(); len(l) != 1 || !same(l[0], tally.Row{Count: 6}) {
			t.Fatal(l)
		}
		if n := x.Add(0, []byte{0}); n != 1 || x.Count(0, nil) != 6 {
			t.Fatal(n)
		}
	}
}

// A message without a byte may be the best one, and isn't when another one is.
func TestBestOfNoByte(t *testing.T) { // P18.2
	w := opened(t)
	w.texts(0, "a", "", "")
	w.best(0)
	if b, n := w.x.Best(0); len(b) != 0 || n != 2 {
		t.Fatal(short(b), n)
	}
	w.texts(0, "a")
	if b, n := w.x.Best(0); string(b) != "a" || n != 2 {
		t.Fatal(short(b), n)
	}
	w.holds()
}

// A label and a message are told apart, wherever the one ends and the other one begins.
func TestLabelAndMessageApart(t *testing.T) { // P18.1, P18.3
	w := opened(t)
	for _, s := range []told{
		{1, "2", 0}, {12, "", 0}, {1, "", 0}, {2, "1", 0}, {0, "12", 0}, {-1, "2", 0}, {0, "-12", 0}, {1, "-2", 0}, {11, "2", 0}, {1, "12", 0}, {112, "", 0},
		{0, "\x01", 0}, {1, "\x00", 0}, {256, "", 0}, {0, "\x01\x00", 0}, {1, "\x00\x00", 0}, {65536, "", 0},
		{1, " 2", 0}, {1, ",2", 0}, {1, "/2", 0}, {1, ":2", 0}, {1, "\x002", 0}, {0, "1 2", 0}, {0, "1,2", 0}, {0, "1/2", 0}, {0, "1:2", 0}, {0, "1\x002", 0},
		{0, "0", 0}, {0, "\x00\x00\x00\x00\x00\x00\x00\x01", 0}, {1, "\x00\x00\x00\x00\x00\x00\x00", 0}, {97, "", 0}, {97, "a", 0}, {0, "aa", 0}, {0, "97a", 0},
	} {
		w.counts(s.label, []byte(s.data))
		w.texts(s.label, s.data)
		if n := w.x.Count(s.label, []byte(s.data)); n != 1 {
			t.Fatalf("Count(%d, %q) = %d", s.label, s.data, n)
		}
		w.holds()
	}
}

// One message under two labels is counted under each, two messages under one label each.
func TestOneMessageTwoLabels(t *testing.T) { // P18.1, P18.2
	w := opened(t)
	w.texts(1, "a")
	w.texts(2, "a", "a", "a")
	w.texts(1, "b", "b")
	w.holds()
	for _, c := range []struct {
		label int
		data  string
		want  uint64
	}{{1, "a", 1}, {2, "a", 3}, {1, "b", 2}, {2, "b", 0}, {3, "a", 0}} {
		if n := w.x.Count(c.label, []byte(c.data)); n != c.want {
			t.Fatal(c, n)
		}
	}
	if b, n := w.x.Best(1); string(b) != "b" || n != 2 {
		t.Fatal(string(b), n)
	}
	if b, n := w.x.Best(2); string(b) != "a" || n != 3 {
		t.Fatal(string(b), n)
	}
}

// What is told under one label doesn't show under another one.
func TestBestOfItsLabelAlone(t *testing.T) { // P18.2
	for _, label := range labels {
		for _, other := range others {
			w := opened(t)
			w.texts(other, "a", "a", "a", "a")
			w.best(label)
			w.texts(label, "b")
			w.best(label)
			w.best(other)
			if b, n := w.x.Best(label); string(b) != "b" || n != 1 {
				t.Fatal(label, other, string(b), n)
			}
			w.texts(label, "a")
			w.best(label)
			w.texts(label, "a")
			w.best(label)
			w.best(other)
		}
	}
}

func TestBestWrittenOut(t *testing.T) { // P18.2
	for _, c := range []struct {
		adds, best string
		count      uint64
	}{
		{"", "", 0},
		{"a", "a", 1},
		{"aa", "a", 2},
		{"ab", "a", 1},
		{"ba", "b", 1},
		{"abc", "a", 1},
		{"cba", "c", 1},
		{"abb", "b", 2},
		{"aba", "a", 2},
		{"abba", "a", 2},
		{"abab", "a", 2},
		{"abbab", "b", 3},
		{"abbaba", "a", 3},
		{"abbabba", "b", 4},
		{"baab", "b", 2},
		{"baaba", "a", 3},
		{"abcbc", "b", 2},
		{"abccb", "b", 2},
		{"abccba", "a", 2},
		{"abccbac", "c", 3},
		{"abccbacb", "b", 3},
		{"cbaab", "b", 2},
		{"cbaabc", "c", 2},
		{"zyxzyx", "z", 2},
		{"zyxxyz", "z", 2},
		{"aaabbbccc", "a", 3},
		{"abbccc", "c", 3},
		{"abbcccbbaaa", "a", 4},
		{"abbcccbbaa", "b", 4},
	} {
		w := opened(t)
		for _, a := range c.adds {
			w.texts(9, string(a))
			w.holds()
		}
		if b, n := w.x.Best(9); string(b) != c.best || n != c.count {
			t.Fatalf("%s: Best is %q, %d", c.adds, b, n)
		}
	}
}

// Of several that were told equally often it is the one that was told first, in whatever order they were told later.
func TestBestOfSeveral(t *testing.T) { // P18.2
	for seed := range 200 {
		next := drawn(seed)
		w := opened(t)
		order := []int{0, 1, 2, 3, 4, 5, 6}
		shuffle(next, order)
		first := byte('a' + order[0])
		for round := range uint64(4) {
			for _, i := range order {
				w.add(0, []byte{byte('a' + i)})
				w.best(0)
			}
			if b, n := w.x.Best(0); len(b) != 1 || b[0] != first || n != round+1 {
				t.Fatal(seed, string(b), n)
			}
			shuffle(next, order)
		}
	}
}

// shuffle turns a list about.
func shuffle(next func(int) int, l []int) {
	for i := range l {
		j := i + next(len(l)-i)
		l[i], l[j] = l[j], l[i]
	}
}

// One that was told later draws level, which changes nothing, and then goes ahead; then the first one does so, which draws level at once.
func TestDrawLevelAndGoAhead(t *testing.T) { // P18.2
	for ahead := 1; ahead < 12; ahead++ {
		w := opened(t)
		is := func(data string, count int) {
			t.Helper()
			if b, n := w.x.Best(0); string(b) != data || n != uint64(count) {
				t.Fatalf("%d ahead: Best is %q, %d, not %q, %d", ahead, b, n, data, count)
			}
		}
		for i := range ahead {
			w.texts(0, "a")
			is("a", i+1)
		}
		for range ahead {
			w.texts(0, "b")
			is("a", ahead)
		}
		w.texts(0, "b")
		is("b", ahead+1)
		w.texts(0, "c")
		is("b", ahead+1)
		w.texts(0, "a")
		is("a", ahead+1)
		w.texts(0, "b")
		is("b", ahead+2)
		w.texts(0, "b")
		is("b", ahead+3)
		w.texts(0, "a", "a")
		is("a", ahead+3)
		w.holds()
	}
}

// Rows stand in the order in which they were told first: not in that of labels, bytes or counts, nor in which they were told last.
func TestRowsInOrder(t *testing.T) { // P18.2
	w := opened(t)
	firsts := []told{{5, "m", 0}, {-5, "z", 0}, {5, "", 0}, {0, "m", 0}, {5, "a", 0}, {math.MaxInt, "\xff", 0}, {math.MinInt, "\x00", 0}, {5, "zz", 0}, {0, "", 0}, {1, "m", 0}}
	for i, s := range firsts {
		for range 1 + (i*7)%5 {
			w.texts(s.label, s.data)
		}
		w.rows()
	}
	for i := range firsts {
		s := firsts[len(firsts)-1-i]
		for range i {
			w.texts(s.label, s.data)
			w.rows()
		}
	}
	got := w.x.Rows()
	if len(got) != len(firsts) {
		t.Fatal(got)
	}
	for i, s := range firsts {
		if got[i].Label != s.label || string(got[i].Data) != s.data {
			t.Fatal(i, got[i])
		}
	}
}

// Many rows, each told once more in another order.
func TestManyRowsInOrder(t *testing.T) { // P18.2
	for seed := range 10 {
		next := drawn(seed)
		order := make([]int, 500)
		for i := range order {
			order[i] = i
		}
		w := opened(t)
		for range 2 {
			shuffle(next, order)
			for _, i := range order {
				w.add(i%7-3, noise(i, i%9))
			}
			w.rows()
		}
		w.holds()
	}
}

// Who asks changes nothing: what was asked for, too, was not told by that.
func TestAskingTellsNothing(t *testing.T) { // P18.1, P18.2
	w := opened(t)
	w.texts(0, "a", "b")
	for range 3 {
		for _, label := range slices.Concat(labels, others) {
			for _, s := range []string{"", "a", "b", "c", "ab", "a\x00"} {
				w.counts(label, []byte(s))
			}
			w.best(label)
		}
		w.rows()
	}
	w.texts(0, "c", "c")
	w.texts(1, "c")
	w.holds()
	for _, s := range []string{"a", "b", "c"} {
		if n := w.x.Add(7, []byte(s)); n != 1 {
			t.Fatal(s, n)
		}
	}
}

// What was never told counts 0, though others that are nearly it were told.
func TestCountOfWhatWasNeverTold(t *testing.T) { // P18.1
	w := opened(t)
	l := messages()
	for i, m := range l {
		if i%2 == 0 {
			w.add(4, m)
		}
	}
	for i, m := range l {
		if n := w.x.Count(4, m); n != uint64(1-i%2) {
			t.Fatal(short(m), n)
		}
		if n := w.x.Count(5, m); n != 0 {
			t.Fatal(short(m), n)
		}
	}
}

func TestClear(t *testing.T) { // P18.1, P18.2
	w := opened(t)
	for round := range 4 {
		for range round { // none, once, twice in a row, and more
			w.clear()
			w.holds()
		}
		for _, label := range []int{0, 1, -1, 1 << 40} {
			w.best(label)
			for _, m := range messages() {
				w.counts(label, m)
			}
		}
		for i, m := range messages() {
			w.add(i%5, m)
			w.add(i%3, m)
		}
		w.texts(0, "new", "new", "new")
		w.holds()
		w.clear()
		if len(w.x.Rows()) != 0 {
			t.Fatal(w.x.Rows())
		}
	}
}

// Behind a Clear all is told first anew: counts begin at 1, and the order is another one.
func TestAddsBehindClear(t *testing.T) { // P18.1, P18.2
	w := opened(t)
	w.texts(0, "a", "b", "a", "b", "c")
	w.clear()
	w.texts(0, "c")
	if b, n := w.x.Best(0); string(b) != "c" || n != 1 {
		t.Fatal(string(b), n)
	}
	w.texts(0, "b", "a")
	if b, n := w.x.Best(0); string(b) != "c" || n != 1 {
		t.Fatal(string(b), n)
	}
	want := []tally.Row{{Data: []byte("c"), Count: 1}, {Data: []byte("b"), Count: 1}, {Data: []byte("a"), Count: 1}}
	if got := w.x.Rows(); !slices.EqualFunc(got, want, same) {
		t.Fatal(got)
	}
	w.texts(0, "a", "b")
	if b, n := w.x.Best(0); string(b) != "b" || n != 2 {
		t.Fatal(string(b), n)
	}
	w.holds()
}

// mixed does an act that is drawn: mostly an Add of one of few messages under one of few labels; a Clear where clears says so.
func (w *twin) mixed(next func(int) int, names []int, l [][]byte, clears int) {
	if next(1000) < clears {
		w.clear()
		return
	}
	w.add(names[next(len(names))], l[next(len(l))])
}

// all fails the test if the tally isn't what the list is, of each of these labels and messages, told or not.
func (w *twin) all(names []int, l [][]byte) {
	w.t.Helper()
	w.rows()
	for _, label := range names {
		w.best(label)
		for _, m := range l {
			w.counts(label, m)
		}
	}
}

func TestManyActs(t *testing.T) { // P18.1 to P18.3
	all := messages()
	for seed := range 120 {
		next := drawn(seed)
		names := make([]int, 1+next(5))
		for i := range names {
			names[i] = labels[next(len(labels))]
		}
		l := make([][]byte, 1+next(7))
		for i := range l {
			l[i] = all[next(len(all))]
		}
		w := opened(t)
		for range 120 {
			w.mixed(next, names, l, 15)
			w.all(names, l)
		}
	}
}

// With two labels and two messages, each short row of Adds and Clears.
func TestEachShortRow(t *testing.T) { // P18.1 to P18.3
	names, l := []int{0, 1}, [][]byte{[]byte("a"), []byte("b")}
	const deep = 6
	rows := 1
	for range deep {
		rows *= 5
	}
	for row := range rows {
		w := opened(t)
		for range deep {
			if act := row % 5; act == 4 {
				w.clear()
			} else {
				w.add(names[act%2], l[act/2])
			}
			row /= 5
			w.all(names, l)
		}
	}
}

// All counts together are how often there was an Add since the last Clear: by the answers alone.
func TestAllCountsTogether(t *testing.T) { // P18.3
	l := messages()
	for seed := range 60 {
		next := drawn(seed)
		x := tally.New()
		adds := uint64(0)
		for range 200 {
			if next(60) == 0 {
				x.Clear()
				adds = 0
			} else {
				x.Add(next(4)-2, l[next(1+seed%len(l))])
				adds++
			}
			sum := uint64(0)
			for _, r := range x.Rows() {
				sum += r.Count
				if r.Count == 0 || r.Count != x.Count(r.Label, r.Data) {
					t.Fatal(r.Label, short(r.Data), r.Count)
				}
			}
			if sum != adds {
				t.Fatal(seed, sum, adds)
			}
		}
	}
}

// No message stands twice under one label: by the answers alone.
func TestNoMessageTwice(t *testing.T) { // P18.3
	l := messages()
	for seed := range 60 {
		next := drawn(seed)
		x := tally.New()
		for range 400 {
			if next(150) == 0 {
				x.Clear()
			}
			m := l[next(2+seed%len(l))]
			if next(2) == 0 {
				m = slices.Concat(m) // the same bytes elsewhere
			}
			x.Add(next(3), m)
		}
		rows := x.Rows()
		for i, a := range rows {
			for _, b := range rows[i+1:] {
				if a.Label == b.Label && bytes.Equal(a.Data, b.Data) {
					t.Fatal(seed, a.Label, short(a.Data))
				}
			}
		}
	}
}

// What is handed in isn't changed, nor what stands behind it.
func TestWhatIsHandedInStays(t *testing.T) { // rule 3
	w := opened(t)
	for _, m := range messages() {
		b, untouched := spare(m)
		w.counts(0, b)
		w.add(0, b)
		w.add(0, b)
		w.add(1, b)
		w.counts(0, b)
		w.best(0)
		w.best(1)
		w.rows()
		if !untouched() {
			t.Fatal(short(m))
		}
	}
}

// What is handed in may be changed: what was told is what it was by then.
func TestWhatIsHandedInIsNotKept(t *testing.T) { // P18.1, P18.2, rule 3
	w := opened(t)
	for _, m := range messages() {
		mine, _ := spare(m)
		was := bytes.Clone(m)
		w.add(2, mine)
		overwrite(mine)
		w.counts(2, was)
		w.counts(2, mine)
		w.rows()
		w.best(2)
		w.add(2, was)
		w.counts(2, was)
		w.best(2)

		mine, _ = spare(m)
		w.counts(3, mine)
		w.counts(2, mine)
		overwrite(mine)
		w.counts(2, was)
		w.rows()
	}
	w.holds()
}

// One list of bytes, written over for each Add.
func TestOneBufferForAll(t *testing.T) { // P18.1, rule 3
	w := opened(t)
	buffer := make([]byte, 4)
	for i := range 300 {
		for at := range buffer {
			buffer[at] = byte(i >> at)
		}
		w.add(0, buffer[:1+i%4])
		w.rows()
	}
	w.holds()
}

// filled is a tally with all messages under two labels, told once to three times.
func filled(t *testing.T) *twin {
	t.Helper()
	w := opened(t)
	for i, m := range messages() {
		for n := range 1 + i%3 {
			w.add(n%2, m)
		}
	}
	return w
}

// What Best tells may be written, cut and grown.
func TestBestTellsNewMemory(t *testing.T) { // P18.2, rule 3
	for _, m := range messages() {
		w := opened(t)
		w.add(0, m)
		w.add(0, m)
		w.add(0, []byte("other"))
		a, n := w.x.Best(0)
		b, _ := w.x.Best(0)
		rows := w.x.Rows()
		overwrite(a)
		_ = append(a, 1, 2, 3)
		_ = append(a[:len(a)/2], 4)
		if n != 2 || !bytes.Equal(b, m) {
			t.Fatal(n, short(b), short(m))
		}
		w.are(rows)
		w.holds()
		w.counts(0, a)
		w.add(0, m)
		w.holds()
		if !bytes.Equal(b, m) {
			t.Fatal(short(b), short(m))
		}
	}
}

// What Rows tells may be written, cut and grown: rows, and the bytes in them.
func TestRowsTellsNewMemory(t *testing.T) { // P18.2, rule 3
	w := filled(t)
	a, b := w.x.Rows(), w.x.Rows()
	best, n := w.x.Best(0)
	keep := bytes.Clone(best)
	for i := range a {
		overwrite(a[i].Data)
		_ = append(a[i].Data, 7, 8, 9)
		a[i].Data = append(a[i].Data[:len(a[i].Data)/2], 4)
		w.are(b)
	}
	w.holds()
	for i := range a {
		a[i] = tally.Row{Label: -9, Data: []byte("written"), Count: 77}
	}
	w.are(b)
	w.holds()
	grown := append(a[:1], tally.Row{Label: 1, Data: []byte("grown"), Count: 5})
	grown = append(grown, make([]tally.Row, cap(a))...)
	grown[0].Count++
	full := a[:cap(a)]
	clear(full)
	w.are(b)
	w.holds()
	w.texts(3, "more")
	w.holds()
	if got, m := w.x.Best(0); !bytes.Equal(got, keep) || m != n || !bytes.Equal(best, keep) {
		t.Fatal(short(got), m)
	}
}

// Of one answer, no two rows share their bytes' memory: each may be written up to its capacity.
func TestRowsShareNothing(t *testing.T) { // rule 3
	w := filled(t)
	a := w.x.Rows()
	for i := range a {
		overwrite(a[i].Data)
		for j := i + 1; j < len(a); j++ {
			if r := w.list[j]; string(a[j].Data) != r.data {
				t.Fatal(i, j)
			}
		}
		overwrite(a[i].Data)
	}
	w.are(a)
}

// What was told stays what it was, whatever is told later.
func TestAnswersStay(t *testing.T) { // P18.2, rule 3
	w := filled(t)
	old := *w
	old.list = slices.Clone(w.list)
	rows := w.x.Rows()
	best, _ := w.x.Best(1)
	keep := bytes.Clone(best)
	for i, m := range messages() {
		w.add(i%3, m)
	}
	old.are(rows)
	w.clear()
	old.are(rows)
	w.texts(1, "a", "b", "c")
	old.are(rows)
	if !bytes.Equal(best, keep) {
		t.Fatal(short(best), short(keep))
	}
	w.holds()
}

// unmade are the tallies that New did not make.
func unmade() []*tally.Tally {
	return []*tally.Tally{nil, new(tally.Tally), {}}
}

// nothing fails the test if the tally, which New did not make, tells anything.
func nothing(t *testing.T, x *tally.Tally) {
	t.Helper()
	if l := x.Rows(); len(l) != 0 {
		t.Fatal(l)
	}
	for _, label := range []int{0, 1, -1, 256, math.MinInt, math.MaxInt} {
		if b, n := x.Best(label); len(b) != 0 || n != 0 {
			t.Fatal(label, b, n)
		}
		for _, s := range []string{"", "a", "\x00"} {
			if n := x.Count(label, []byte(s)); n != 0 {
				t.Fatal(label, s, n)
			}
		}
	}
}

// Each call as the first one, and each behind each other one.
func TestUnmade(t *testing.T) { // P18.1, P18.2, rules 1 and 2
	calls := []func(x *tally.Tally) bool{
		func(x *tally.Tally) bool { return x.Add(0, []byte("a")) == 0 },
		func(x *tally.Tally) bool { return x.Add(math.MinInt, nil) == 0 && x.Add(0, nil) == 0 },
		func(x *tally.Tally) bool { return x.Count(0, []byte("a")) == 0 && x.Count(-1, nil) == 0 },
		func(x *tally.Tally) bool { b, n := x.Best(0); return len(b) == 0 && n == 0 },
		func(x *tally.Tally) bool { return len(x.Rows()) == 0 },
		func(x *tally.Tally) bool { x.Clear(); return true },
	}
	for i := range unmade() {
		for first, f := range calls {
			for second, g := range calls {
				x := unmade()[i]
				for range 3 {
					if !f(x) || !g(x) {
						t.Fatal(i, first, second)
					}
				}
				nothing(t, x)
			}
		}
	}
	for _, x := range unmade() {
		nothing(t, x)
		for range 300 {
			for _, m := range [][]byte{nil, []byte("a"), make([]byte, 5000)} {
				b, untouched := spare(m)
				if x.Add(1, b) != 0 || x.Count(1, b) != 0 || !untouched() {
					t.Fatal("it counts")
				}
			}
			x.Clear()
		}
		nothing(t, x)
	}
}

// A tally that is a part of something else, and that nobody made, is no other than one of its own.
func TestUnmadeInside(t *testing.T) { // P18.1, P18.2, rule 1
	var s struct {
		before uint64
		x      tally.Tally
		after  uint64
	}
	for range 3 {
		s.x.Clear()
		if s.x.Add(0, []byte("a")) != 0 || s.before != 0 || s.after != 0 {
			t.Fatal(s.before, s.after)
		}
		nothing(t, &s.x)
	}
}

// Tallies have nothing to do with one another, nor with one that nobody made.
func TestTwoTallies(t *testing.T) { // rule 4
	x, y := opened(t), opened(t)
	next := drawn(7)
	l := messages()
	for i := range 150 {
		x.add(i%3, l[next(len(l))])
		y.mixed(next, []int{0, 1}, l, 50)
		for _, z := range unmade() {
			z.Add(0, []byte("a"))
			z.Clear()
			nothing(t, z)
		}
		opened(t).texts(0, "a", "b")
		x.rows()
		y.rows()
		x.best(1)
		y.best(1)
	}
	y.clear()
	x.holds()
	y.holds()
}

// What is answered hangs on the calls so far alone, not on the order in which a map is gone through: each answer again and again, and of another tally that was told the same.
func TestTheSameAgain(t *testing.T) { // rule 4
	fill := func() *twin {
		w := opened(t)
		next := drawn(11)
		for range 900 {
			w.add(next(5)-2, noise(next(150), 1+next(3)))
		}
		return w
	}
	first := fill()
	rows := first.x.Rows()
	if len(rows) < 400 {
		t.Fatal(len(rows))
	}
	for range 20 {
		again := fill()
		for range 3 {
			for _, w := range []*twin{first, again} {
				if !slices.EqualFunc(w.x.Rows(), rows, same) {
					t.Fatal("other rows")
				}
				for label := -3; label <= 3; label++ {
					w.best(label)
				}
			}
		}
	}
}

// Of many that were told equally often it is always the first one, though a map has them in any order.
func TestBestOfManyAgain(t *testing.T) { // P18.2, rule 4
	for seed := range 30 {
		w := opened(t)
		for i := range 200 {
			w.add(0, fmt.Appendf(nil, "%d", (i*77+seed)%200))
			w.add(1, fmt.Appendf(nil, "%d", (i*33+seed)%200))
		}
		for range 20 {
			for label := range 2 {
				if b, n := w.x.Best(label); string(b) != fmt.Sprint(seed) || n != 1 {
					t.Fatal(seed, label, string(b), n)
				}
			}
		}
	}
}

// inUse is how many bytes are kept.
func inUse() int {
	var m runtime.MemStats
	runtime.GC()
	runtime.GC()
	runtime.ReadMemStats(&m)
	return int(m.HeapAlloc)
}

// A message is kept once, however often it is told and asked for; behind a Clear nothing is.
func TestWhatIsKept(t *testing.T) { // P18.1, P18.3
	const many, long = 200, 60000
	x := tally.New()
	before := inUse()
	for i := range many {
		for range 5 {
			m := noise(i, 20)
			m = append(m, make([]byte, long)...)
			x.Add(0, m)
			x.Count(1, m)
		}
	}
	full := inUse() - before
	x.Clear()
	left := inUse() - before
	if full < many*long || full > 3*many*long || left > many*long/10 {
		t.Fatal(full, left)
	}
	if len(x.Rows()) != 0 || x.Add(0, nil) != 1 {
		t.Fatal(x.Rows())
	}
}
