package puller_test

import (
	"bytes"
	"fmt"
	"kedge/api"
	"kedge/puller"
	"kedge/pusher"
	"kedge/slide"
	"maps"
	"math"
	"reflect"
	"runtime"
	"slices"
	"strconv"
	"strings"
	"testing"
)

// The numbers that the chapter names, written out, so that the tests hold whatever api says.
const (
	maxData = 64
	maxRoom = 16
	maxMod  = 65536
	maxLife = 4096
	maxWide = 64
)

// The errors that the chapter names, written out.
const (
	fine      api.Errno = 0
	errArg    api.Errno = 1
	errWindow api.Errno = 220
	errMod    api.Errno = 221
	errLife   api.Errno = 222
)

// settings are such as may be: windows that are narrower than the room, as wide, and wider, and numbers that are just enough, and more than that.
var settings = []api.Config{
	{W: 1, M: 5, L: 1, Room: 1},
	{W: 1, M: 5, L: 1, Room: 3},
	{W: 1, M: 8195, L: 4096, Room: 16},
	{W: 2, M: 9, L: 2, Room: 1},
	{W: 2, M: 9, L: 2, Room: 4},
	{W: 2, M: 10, L: 2, Room: 16},
	{W: 3, M: 13, L: 3, Room: 2},
	{W: 3, M: 13, L: 3, Room: 3},
	{W: 3, M: 100, L: 40, Room: 16},
	{W: 4, M: 17, L: 4, Room: 8},
	{W: 5, M: 65536, L: 4096, Room: 7},
	{W: 7, M: 256, L: 9, Room: 16},
	{W: 8, M: 33, L: 8, Room: 16},
	{W: 15, M: 61, L: 15, Room: 16},
	{W: 16, M: 65, L: 16, Room: 15},
	{W: 17, M: 69, L: 17, Room: 16},
	{W: 32, M: 129, L: 32, Room: 2},
	{W: 63, M: 253, L: 63, Room: 9},
	{W: 64, M: 257, L: 64, Room: 1},
	{W: 64, M: 257, L: 64, Room: 16},
	{W: 64, M: 8321, L: 4096, Room: 16},
	{W: 64, M: 65536, L: 64, Room: 5},
}

// far are ints far outside of all bounds; among them such as may be, if they are cut short or have no sign.
var far = []int{
	-1, -2, -16, -64, -255, -256, -65536, -65537, -1 << 31, -1 << 32, 1 - 1<<32, 4 - 1<<32, -1 << 62, 1 - 1<<62, math.MinInt, math.MinInt + 1, math.MinInt + 4,
	65537, 1 << 17, 1<<31 - 1, 1 << 31, 1<<32 - 1, 1 << 32, 1<<32 + 1, 1<<32 + 4, 1<<32 + 64, 1 << 60, 1 << 62, 1<<62 + 1, math.MaxInt - 1, math.MaxInt,
}

// twin is a puller, and beside it what the chapter says of it, kept apart.
type twin struct {
	t                 *testing.T
	p                 *puller.Puller
	c                 api.Config
	entered, returned int // the place that is waited for is entered
	kept              []string
	ahead             map[int]string
}

// opened is a puller whose queue is empty.
func opened(t *testing.T, c api.Config) *twin {
	t.Helper()
	p, e := puller.New(c)
	if p == nil || e != fine {
		t.Fatalf("New(%+v) = %v, %d", c, p, e)
	}
	w := &twin{t: t, p: p, c: c, ahead: map[int]string{}}
	w.holds()
	return w
}

// enters has messages enter, and is how many did.
func (w *twin) enters() int {
	n := 0
	for len(w.kept) < w.c.Room {
		m, ok := w.ahead[w.entered]
		if !ok {
			break
		}
		delete(w.ahead, w.entered)
		w.kept = append(w.kept, m)
		w.entered++
		n++
	}
	return n
}

// tells is what it tells.
func (w *twin) tells() api.Slide {
	s := api.Slide{Ack: true, Seq: w.entered % w.c.M}
	for place := range w.ahead {
		bit := uint64(1)
		for range place - w.entered {
			bit += bit
		}
		s.Bits += bit
	}
	return s
}

// near is the place that a number tells, of the W from the one that is waited for on, or -1.
func (w *twin) near(seq int) int {
	for place := w.entered; place < w.entered+w.c.W; place++ {
		if place%w.c.M == seq {
			return place
		}
	}
	return -1
}

// take hands in a packet, and is kept; it answers what was told.
func (w *twin) take(s api.Slide) string {
	w.t.Helper()
	var want []api.Slide
	if !s.Ack {
		place := w.near(s.Seq)
		if _, ok := w.ahead[place]; place >= 0 && !ok && len(s.Data) <= maxData {
			w.ahead[place] = string(s.Data)
		}
		w.enters()
		want = []api.Slide{w.tells()}
	}
	return w.are(w.p.Take(s), want, "Take", s)
}

// number is the number of a place, or of one that would be below 0.
func (w *twin) number(place int) int {
	return (place%w.c.M + w.c.M) % w.c.M
}

// comes hands in a place's message, which tells of the place.
func (w *twin) comes(place int) string {
	w.t.Helper()
	return w.take(api.Slide{Seq: w.number(place), Data: fmt.Appendf(nil, "m%d", place)})
}

// come hands in the messages of places, one behind the other; it answers what was told last.
func (w *twin) come(places ...int) string {
	w.t.Helper()
	text := ""
	for _, place := range places {
		text = w.comes(place)
	}
	return text
}

// receive receives, and is kept; it answers what was told.
func (w *twin) receive() string {
	w.t.Helper()
	m, there := "", len(w.kept) > 0
	var want []api.Slide
	if there {
		m, w.kept = w.kept[0], w.kept[1:]
		w.returned++
		if w.enters() > 0 {
			want = []api.Slide{w.tells()}
		}
	}
	got, l, ok := w.p.Receive()
	if string(got) != m || ok != there {
		w.t.Fatalf("%+v: Receive() = %q, %v, not %q, %v", w.c, got, ok, m, there)
	}
	deface(got)
	return w.are(l, want, "Receive")
}

// drain receives until there is no message.
func (w *twin) drain() {
	w.t.Helper()
	for len(w.kept) > 0 {
		w.receive()
	}
	w.receive()
}

// on has messages enter and be returned, until so many entered.
func (w *twin) on(entered int) {
	w.t.Helper()
	for w.entered < entered {
		w.comes(w.entered)
		w.receive()
	}
}

// are fails the test if these packets aren't those; what was told is spoilt then.
func (w *twin) are(got, want []api.Slide, what ...any) string {
	w.t.Helper()
	text := told(got)
	if text != told(want) {
		w.t.Fatalf("%+v, %v: %s, not %s", w.c, what, text, told(want))
	}
	spoil(got)
	return text
}

// places are the places that are ahead, rising.
func (w *twin) places() []int {
	return slices.Sorted(maps.Keys(w.ahead))
}

// holds fails the test if the puller isn't what is kept.
func (w *twin) holds() {
	w.t.Helper()
	if got, want := w.p.State(), (puller.State{Entered: w.entered, Returned: w.returned}); got != want {
		w.t.Fatalf("%+v: State() = %v, not %v", w.c, got, want)
	}
	kept := w.p.Kept()
	if !slices.Equal(texts(kept), w.kept) {
		w.t.Fatalf("%+v: Kept() = %q, not %q", w.c, kept, w.kept)
	}
	defaceAll(kept)
	ahead := w.p.Ahead()
	if !slices.Equal(ahead, w.places()) {
		w.t.Fatalf("%+v: Ahead() = %v, not %v", w.c, ahead, w.places())
	}
	for i := range ahead[:cap(ahead)] {
		ahead[:cap(ahead)][i] = -7
	}
}

// is fails the test if the puller isn't at this.
func (w *twin) is(entered, returned int, ahead ...int) {
	w.t.Helper()
	if s := w.p.State(); s != (puller.State{Entered: entered, Returned: returned}) || !slices.Equal(w.p.Ahead(), ahead) {
		w.t.Fatalf("%+v: %v, %v, not %d, %d, %v", w.c, s, w.p.Ahead(), entered, returned, ahead)
	}
}

// told is packets as a text: all that each has.
func told(l []api.Slide) string {
	var s []string
	for _, x := range l {
		one := strconv.Itoa(x.Seq) + "/" + strconv.FormatUint(x.Bits, 16)
		if !x.Ack {
			one += " no ack"
		}
		if len(x.Data) > 0 {
			one += " " + strconv.Quote(string(x.Data))
		}
		s = append(s, one)
	}
	return strings.Join(s, ", ")
}

// texts is messages as texts.
func texts(l [][]byte) []string {
	s := make([]string, len(l))
	for i, m := range l {
		s[i] = string(m)
	}
	return s
}

// drawn answers a function that tells numbers that look like noise, below n, the same ones in each run.
func drawn(begin int) func(n int) int {
	x := uint64(begin)
	return func(n int) int {
		x = x*6364136223846793005 + 1442695040888963407
		return int(x>>33) % n
	}
}

// noise is n bytes that look like noise.
func noise(begin, n int) []byte {
	next := drawn(begin)
	b := make([]byte, n)
	for i := range b {
		b[i] = byte(next(256))
	}
	return b
}

// messages are each another one: none, few bytes, such as mean something to other layers, and all lengths up to the longest.
func messages() [][]byte {
	l := [][]byte{nil, {0}, {0, 0}, {0, 'a'}, []byte("a"), []byte("a\x00"), {0x7e}, {0x7d}, {0xff}, {0xc0, 0x80}}
	for n := 1; n <= maxData; n++ {
		l = append(l, noise(n, n))
	}
	return l
}

// tooLong are lengths of bytes that are no message's; among them such as are one, if they are cut short.
var tooLong = []int{maxData + 1, maxData + 2, 96, 127, 128, 255, 256, 257, 320, 512, 4096, 65535, 65536, 65537, 65600}

// overwrite puts other bytes in all of b's memory, up to its capacity.
func overwrite(b []byte) {
	b = b[:cap(b)]
	for i := range b {
		b[i] = ^b[i]
	}
}

// deface writes, cuts and grows a message that was told.
func deface(b []byte) {
	overwrite(b)
	_ = append(b[:len(b)/2], "written"...)
	_ = append(b, "more"...)
}

// defaceAll writes, cuts and grows messages that were told, and their list.
func defaceAll(l [][]byte) {
	all := l[:cap(l)]
	for i := range all {
		deface(all[i])
		all[i] = []byte("other")
	}
	_ = append(l[:len(l)/2], []byte("cut"))
	_ = append(l, []byte("more"), nil)
}

// spoil writes, cuts and grows what was told, and the Data in it.
func spoil(l []api.Slide) {
	all := l[:cap(l)]
	for i := range all {
		deface(all[i].Data)
		all[i].Seq, all[i].Bits, all[i].Ack, all[i].Data = -5, 5, false, []byte("spoilt")
	}
	_ = append(l[:len(l)/2], api.Slide{Seq: 3})
	_ = append(l, api.Slide{Seq: 4}, api.Slide{Seq: 5})
}

func TestExample(t *testing.T) { // P25.1 to P25.3
	p, e := puller.New(api.Config{W: 2, M: 9, L: 2, Room: 2})
	if e != fine {
		t.Fatal(e)
	}
	if l := p.Take(api.Slide{Seq: 1, Data: []byte("b")}); told(l) != "0/2" {
		t.Fatal(told(l))
	}
	if l := p.Take(api.Slide{Seq: 0, Data: []byte("a")}); told(l) != "2/0" {
		t.Fatal(told(l))
	}
	if m, l, ok := p.Receive(); string(m) != "a" || !ok || len(l) != 0 {
		t.Fatal(m, told(l), ok)
	}
	if m, l, ok := p.Receive(); string(m) != "b" || !ok || len(l) != 0 {
		t.Fatal(m, told(l), ok)
	}
}

func TestTheNumbersOfApi(t *testing.T) { // P25.1, P25.2
	for i, so := range []bool{
		api.OK == fine, api.ErrArg == errArg, api.ErrWindow == errWindow, api.ErrMod == errMod, api.ErrLife == errLife,
		api.MaxData == maxData, api.MaxRoom == maxRoom, api.MaxMod == maxMod, api.MaxLife == maxLife, api.MaxWide == maxWide,
	} {
		if !so {
			t.Error(i)
		}
	}
}

// step is an act, and what it tells, and what State, Kept and Ahead tell behind it.
type step struct {
	act               string // a message of one letter, or receive, none, ack, long
	seq               int
	told              string
	entered, returned int
	kept              string
	ahead             []int
}

// steps does acts, and fails the test where one tells other than is written.
func steps(t *testing.T, c api.Config, l []step) {
	t.Helper()
	p, e := puller.New(c)
	if e != fine {
		t.Fatal(e)
	}
	for i, s := range l {
		var out []api.Slide
		switch s.act {
		case "none":
			m, l, ok := p.Receive()
			if len(m) != 0 || ok {
				t.Fatal(i, m, ok)
			}
			out = l
		case "ack":
			out = p.Take(api.Slide{Ack: true, Seq: s.seq, Bits: 3})
		case "long":
			out = p.Take(api.Slide{Seq: s.seq, Data: make([]byte, 65)})
		default:
			if m, ok := strings.CutPrefix(s.act, "receive "); ok {
				got, l, ok := p.Receive()
				if string(got) != m || !ok {
					t.Fatal(i, got, ok)
				}
				out = l
				break
			}
			out = p.Take(api.Slide{Seq: s.seq, Data: []byte(s.act)})
		}
		kept := strings.Join(texts(p.Kept()), "")
		if told(out) != s.told || p.State() != (puller.State{Entered: s.entered, Returned: s.returned}) || kept != s.kept || !slices.Equal(p.Ahead(), s.ahead) {
			t.Fatal(i, s, told(out), p.State(), kept, p.Ahead())
		}
	}
}

// Each act, what it told, and how it stands behind that.
func TestWrittenOut(t *testing.T) { // P25.1 to P25.3
	steps(t, api.Config{W: 3, M: 13, L: 3, Room: 2}, []step{
		{"none", 0, "", 0, 0, "", nil},
		{"ack", 0, "", 0, 0, "", nil},
		{"x", 3, "0/0", 0, 0, "", nil},
		{"x", 12, "0/0", 0, 0, "", nil},
		{"x", -1, "0/0", 0, 0, "", nil},
		{"x", 13, "0/0", 0, 0, "", nil},
		{"c", 2, "0/4", 0, 0, "", []int{2}},
		{"x", 2, "0/4", 0, 0, "", []int{2}},
		{"long", 0, "0/4", 0, 0, "", []int{2}},
		{"a", 0, "1/2", 1, 0, "a", []int{2}},
		{"x", 0, "1/2", 1, 0, "a", []int{2}},
		{"d", 3, "1/6", 1, 0, "a", []int{2, 3}},
		{"b", 1, "2/3", 2, 0, "ab", []int{2, 3}},
		{"x", 2, "2/3", 2, 0, "ab", []int{2, 3}},
		{"e", 4, "2/7", 2, 0, "ab", []int{2, 3, 4}},
		{"x", 5, "2/7", 2, 0, "ab", []int{2, 3, 4}},
		{"ack", 5, "", 2, 0, "ab", []int{2, 3, 4}},
		{"receive a", 0, "3/3", 3, 1, "bc", []int{3, 4}},
		{"receive b", 0, "4/1", 4, 2, "cd", []int{4}},
		{"receive c", 0, "5/0", 5, 3, "de", nil},
		{"receive d", 0, "", 5, 4, "e", nil},
		{"f", 5, "6/0", 6, 4, "ef", nil},
		{"g", 6, "6/1", 6, 4, "ef", []int{6}},
		{"receive e", 0, "7/0", 7, 5, "fg", nil},
		{"receive f", 0, "", 7, 6, "g", nil},
		{"receive g", 0, "", 7, 7, "", nil},
		{"none", 0, "", 7, 7, "", nil},
		{"j", 9, "7/4", 7, 7, "", []int{9}},
		{"i", 8, "7/6", 7, 7, "", []int{8, 9}},
		{"none", 0, "", 7, 7, "", []int{8, 9}},
		{"h", 7, "9/1", 9, 7, "hi", []int{9}},
		{"l", 11, "9/5", 9, 7, "hi", []int{9, 11}},
		{"receive h", 0, "10/2", 10, 8, "ij", []int{11}},
		{"receive i", 0, "", 10, 9, "j", []int{11}},
		{"m", 12, "10/6", 10, 9, "j", []int{11, 12}},
		{"x", 0, "10/6", 10, 9, "j", []int{11, 12}},
		{"k", 10, "11/3", 11, 9, "jk", []int{11, 12}},
		{"n", 0, "11/7", 11, 9, "jk", []int{11, 12, 13}},
		{"receive j", 0, "12/3", 12, 10, "kl", []int{12, 13}},
		{"receive k", 0, "0/1", 13, 11, "lm", []int{13}},
		{"p", 2, "0/5", 13, 11, "lm", []int{13, 15}},
		{"receive l", 0, "1/2", 14, 12, "mn", []int{15}},
		{"x", 0, "1/2", 14, 12, "mn", []int{15}},
		{"o", 1, "1/3", 14, 12, "mn", []int{14, 15}},
		{"receive m", 0, "2/1", 15, 13, "no", []int{15}},
		{"receive n", 0, "3/0", 16, 14, "op", nil},
		{"receive o", 0, "", 16, 15, "p", nil},
		{"receive p", 0, "", 16, 16, "", nil},
		{"none", 0, "", 16, 16, "", nil},
	})
}

// The third of the document's examples: the second message arrives first, is kept, and told by a bit.
func TestSecondArrivesFirst(t *testing.T) { // P25.1, P25.2
	steps(t, api.Config{W: 2, M: 9, L: 2, Room: 16}, []step{
		{"b", 1, "0/2", 0, 0, "", []int{1}},
		{"none", 0, "", 0, 0, "", []int{1}},
		{"a", 0, "2/0", 2, 0, "ab", nil},
		{"b", 1, "2/0", 2, 0, "ab", nil},
		{"receive a", 0, "", 2, 1, "b", nil},
		{"receive b", 0, "", 2, 2, "", nil},
		{"none", 0, "", 2, 2, "", nil},
	})
}

// A window of one: a place is waited for, or it is ahead because there is no room.
func TestWindowOfOne(t *testing.T) { // P25.1 to P25.3
	steps(t, api.Config{W: 1, M: 5, L: 1, Room: 1}, []step{
		{"x", 1, "0/0", 0, 0, "", nil},
		{"a", 0, "1/0", 1, 0, "a", nil},
		{"a", 0, "1/0", 1, 0, "a", nil},
		{"b", 1, "1/1", 1, 0, "a", []int{1}},
		{"c", 2, "1/1", 1, 0, "a", []int{1}},
		{"x", 1, "1/1", 1, 0, "a", []int{1}},
		{"receive a", 0, "2/0", 2, 1, "b", nil},
		{"c", 2, "2/1", 2, 1, "b", []int{2}},
		{"receive b", 0, "3/0", 3, 2, "c", nil},
		{"receive c", 0, "", 3, 3, "", nil},
		{"none", 0, "", 3, 3, "", nil},
		{"d", 3, "4/0", 4, 3, "d", nil},
		{"e", 4, "4/1", 4, 3, "d", []int{4}},
		{"receive d", 0, "0/0", 5, 4, "e", nil},
		{"f", 0, "0/1", 5, 4, "e", []int{5}},
		{"receive e", 0, "1/0", 6, 5, "f", nil},
	})
}

// may is what New should tell.
func may(c api.Config) api.Errno {
	switch {
	case c.L <= 0 || c.L >= 4097:
		return errLife
	case c.W <= 0 || c.W >= 65 || c.W > c.L:
		return errWindow
	case c.M >= 65537 || c.M <= 2*c.W+2*c.L:
		return errMod
	case c.Room <= 0 || c.Room >= 17:
		return errArg
	}
	return fine
}

// news fails the test if New doesn't tell what it should, or answers something with an error.
func news(t *testing.T, c api.Config) {
	t.Helper()
	p, e := puller.New(c)
	if want := may(c); e != want || (p != nil) != (want == fine) {
		t.Fatalf("New(%+v) = %v, %d, not %d", c, p, e, want)
	}
}

func TestNewWrittenOut(t *testing.T) { // P25.1
	for _, c := range []struct {
		w, m, l, room int
		want          api.Errno
	}{
		{1, 5, 1, 1, fine},
		{1, 4, 1, 1, errMod},
		{1, 65536, 1, 16, fine},
		{1, 65537, 1, 16, errMod},
		{1, -5, 1, 16, errMod},
		{0, 5, 1, 1, errWindow},
		{-1, 5, 1, 1, errWindow},
		{2, 9, 1, 1, errWindow},
		{2, 9, 2, 1, fine},
		{64, 257, 64, 1, fine},
		{64, 256, 64, 1, errMod},
		{65, 65536, 65, 1, errWindow},
		{64, 8321, 4096, 1, fine},
		{64, 8320, 4096, 1, errMod},
		{1, 65536, 4096, 1, fine},
		{1, 65536, 4097, 1, errLife},
		{1, 65536, 0, 1, errLife},
		{1, 65536, -1, 1, errLife},
		{1, 5, 1, 0, errArg},
		{1, 5, 1, -1, errArg},
		{1, 5, 1, -16, errArg},
		{1, 5, 1, 2, fine},
		{1, 5, 1, 15, fine},
		{1, 5, 1, 16, fine},
		{1, 5, 1, 17, errArg},
		{0, 0, 0, 0, errLife},
		{0, 0, 1, 0, errWindow},
		{1, 0, 1, 0, errMod},
		{1, 4, 1, 17, errMod},
		{2, 4, 1, 17, errWindow},
		{2, 4, 0, 17, errLife},
		{65, 5, 4097, -1, errLife},
		{65, 5, 4096, -1, errWindow},
		{64, 5, 4096, -1, errMod},
		{64, 8321, 4096, -1, errArg},
	} {
		p, e := puller.New(api.Config{W: c.w, M: c.m, L: c.l, Room: c.room})
		if e != c.want || (p != nil) != (c.want == fine) {
			t.Errorf("%+v: %v, %d", c, p, e)
		}
	}
}

// Each number about its bounds, and far from them, with all others as they may be, and with one another.
func TestNew(t *testing.T) { // P25.1, rules 1 and 2
	for _, c := range settings {
		for _, n := range slices.Concat(far, []int{0, 1, 2, 3, 4, 5, 15, 16, 17, 18, 63, 64, 65, 66, 4095, 4096, 4097, 65535, 65536, 2*c.W + 2*c.L, 2*c.W + 2*c.L + 1, c.L, c.L + 1, c.W - 1}) {
			w, m, l, room := c, c, c, c
			w.W, m.M, l.L, room.Room = n, n, n, n
			for _, x := range []api.Config{w, m, l, room} {
				news(t, x)
			}
		}
	}
	for w := -1; w <= 4; w++ {
		for m := -1; m <= 18; m++ {
			for l := -1; l <= 4; l++ {
				for room := -1; room <= 18; room++ {
					news(t, api.Config{W: w, M: m, L: l, Room: room})
				}
			}
		}
	}
	few := []int{math.MinInt, -1, 0, 1, 2, 15, 16, 17, 64, 65, 300, 4096, 4097, 65536, 65537, 1 << 32, 1<<32 + 1, math.MaxInt}
	for i := range len(few) * len(few) * len(few) * len(few) {
		at := func() int { x := few[i%len(few)]; i /= len(few); return x }
		news(t, api.Config{W: at(), M: at(), L: at(), Room: at()})
	}
}

// Each room that there is, and each window; nothing is kept, nor ahead, at first.
func TestNewIsEmpty(t *testing.T) { // P25.1
	for room := 1; room <= maxRoom; room++ {
		for wide := 1; wide <= maxWide; wide++ {
			w := opened(t, api.Config{W: wide, M: 4*wide + 1, L: wide, Room: room})
			if w.p.State() != (puller.State{}) || len(w.p.Kept()) != 0 || len(w.p.Ahead()) != 0 || w.receive() != "" {
				t.Fatal(room, wide)
			}
			if l := w.comes(wide); l != "0/0" {
				t.Fatal(room, wide, l)
			}
			w.holds()
		}
	}
}

// With an error New answers no puller that could be used as one.
func TestNewWithAnError(t *testing.T) { // P25.1, rules 1 and 2
	good := api.Config{W: 2, M: 9, L: 2, Room: 4}
	bad := []api.Config{{}}
	for _, n := range []int{0, -1, 70000} {
		w, m, l, room := good, good, good, good
		w.W, m.M, l.L, room.Room = n, n, n, n
		bad = append(bad, w, m, l, room)
	}
	for _, c := range bad {
		p, e := puller.New(c)
		if e == fine || p != nil {
			t.Fatalf("New(%+v) = %v, %d", c, p, e)
		}
		nothing(t, p)
	}
}

// Which engine is asked for, what its timers are, and how many questions are open at first, are others' concern.
func TestNewOfOtherFields(t *testing.T) { // P25.1
	for _, n := range slices.Concat(far, []int{0, 1, 2, 3, 4, 64, 65}) {
		for _, begin := range []uint64{0, 1, 1 << 63, math.MaxUint64} {
			for _, c := range []api.Config{{Engine: n, Begin: begin}, {B: n, Begin: begin}} {
				c.W, c.M, c.L, c.Room = 2, 9, 2, 2
				w := opened(t, c)
				if w.come(1) != "0/2" || w.come(0) != "2/0" || w.come(2) != "2/1" || w.receive() != "3/0" {
					t.Fatal(c)
				}
				w.holds()
				c.M = 8
				news(t, c)
			}
		}
	}
}

// An Ack is nothing, whatever else it has.
func TestTakeOfAnAck(t *testing.T) { // P25.2
	for _, c := range settings {
		w := opened(t, c)
		for range 3 {
			for seq := w.entered - 2; seq < w.entered+c.W+3; seq++ {
				for _, bits := range []uint64{0, 1, 2, math.MaxUint64} {
					for _, data := range [][]byte{nil, {}, []byte("a"), make([]byte, maxData+1)} {
						if l := w.take(api.Slide{Ack: true, Seq: w.number(seq), Bits: bits, Data: data}); l != "" {
							t.Fatal(c, seq, l)
						}
						w.holds()
					}
				}
			}
			for _, seq := range far {
				if l := w.take(api.Slide{Ack: true, Seq: seq}); l != "" {
					t.Fatal(c, seq, l)
				}
			}
			for i := range min(c.W, 4) { // some are ahead, some have entered, or there is no room for them
				w.comes(w.entered + c.W - 1 - i)
			}
			w.come(w.entered, w.entered)
		}
	}
}

// Which numbers are taken, written out: of four places from the one that is waited for on.
func TestTakeOfEachNumber(t *testing.T) { // P25.1, P25.2
	for _, base := range []int{0, 1, 3, 12, 13, 14, 15, 16, 17, 18, 33, 34, 40, 67, 68} {
		for seq := -20; seq < 60; seq++ {
			w := opened(t, api.Config{W: 4, M: 17, L: 4, Room: 2})
			w.on(base)
			by := 0 // from the place that is waited for on
			for by < 17 && (base+by)%17 != seq {
				by++
			}
			l := w.take(api.Slide{Seq: seq, Data: []byte("x")})
			switch {
			case by == 0:
				w.is(base+1, base)
				if l != fmt.Sprintf("%d/0", (base+1)%17) {
					t.Fatal(base, seq, l)
				}
			case by < 4:
				w.is(base, base, base+by)
				if l != fmt.Sprintf("%d/%d", base%17, 1<<by) {
					t.Fatal(base, seq, l)
				}
			default:
				w.is(base, base)
				if l != fmt.Sprintf("%d/0", base%17) {
					t.Fatal(base, seq, l)
				}
			}
			w.holds()
		}
		w := opened(t, api.Config{W: 4, M: 17, L: 4, Room: 2})
		w.on(base)
		for _, seq := range far {
			if l := w.take(api.Slide{Seq: seq, Data: []byte("x")}); l != fmt.Sprintf("%d/0", base%17) {
				t.Fatal(base, seq, l)
			}
		}
		w.is(base, base)
	}
}

// Of each setting: the places about the one that is waited for, by their numbers, and all of these with M added and taken away, while there is room, and while there is none.
func TestTakeAboutTheWindow(t *testing.T) { // P25.1, P25.2
	for _, c := range settings {
		for _, full := range []bool{false, true} {
			for by := -c.W - c.L%70 - 1; by <= 2*c.W+2; by++ {
				for _, add := range []int{0, c.M, -c.M, 1 << 32, -1 << 32} {
					w := opened(t, c)
					w.on(2)
					for full && len(w.kept) < c.Room {
						w.comes(w.entered)
					}
					was := w.entered
					l := w.take(api.Slide{Seq: w.number(was+by) + add, Data: []byte("x")})
					w.holds()
					in, now := add == 0 && by >= 0 && by < c.W, was
					if in && by == 0 && !full {
						now++
					}
					want := fmt.Sprintf("%d/0", now%c.M)
					if in && now == was {
						want = fmt.Sprintf("%d/%x", was%c.M, uint64(1)<<by)
					}
					if l != want || w.entered != now {
						t.Fatal(c, full, by, add, l, want)
					}
				}
			}
		}
	}
}

// A place that is ahead already has the message that it came with first, whatever comes again; the same is told each time.
func TestAheadAlready(t *testing.T) { // P25.2
	for _, c := range settings {
		for by := 1; by < c.W; by++ {
			w := opened(t, c)
			want := fmt.Sprintf("0/%x", uint64(1)<<by)
			for _, data := range []string{"first", "first", "other", "", "first and more", "firs", strings.Repeat("x", maxData), strings.Repeat("x", maxData+1)} {
				if l := w.take(api.Slide{Seq: by, Data: []byte(data)}); l != want {
					t.Fatal(c, by, l)
				}
				w.is(0, 0, by)
			}
			for place := range by {
				w.comes(place)
			}
			w.drain()
			if w.entered != by+1 || w.returned != by+1 { // receive holds each against its message
				t.Fatal(c, by, w.entered, w.returned)
			}
		}
	}
	for _, first := range messages() {
		for _, second := range [][]byte{nil, []byte("a"), first, noise(5, maxData)} {
			w := opened(t, settings[4])
			w.take(api.Slide{Seq: 1, Data: first})
			w.take(api.Slide{Seq: 1, Data: second})
			w.take(api.Slide{Seq: 0})
			w.receive()
			m, l, ok := w.p.Receive()
			if !bytes.Equal(m, first) || len(l) != 0 || !ok {
				t.Fatal(first, second, m, l, ok)
			}
		}
	}
}

// The place that is waited for, which is ahead since there is no room, has the message that it came with first.
func TestWaitedForAlready(t *testing.T) { // P25.2, P25.3
	for _, c := range settings {
		w := opened(t, c)
		for place := range c.Room {
			w.comes(place)
		}
		for _, data := range []string{"first", "first", "other", ""} {
			if l := w.take(api.Slide{Seq: w.number(c.Room), Data: []byte(data)}); l != fmt.Sprintf("%d/1", c.Room%c.M) {
				t.Fatal(c, data, l)
			}
			w.is(c.Room, 0, c.Room)
		}
		if l := w.receive(); l != fmt.Sprintf("%d/0", (c.Room+1)%c.M) {
			t.Fatal(c, l)
		}
		if kept := texts(w.p.Kept()); kept[c.Room-1] != "first" {
			t.Fatal(c, kept)
		}
		w.drain()
	}
}

// What entered, or was returned, is taken no more, and is told as what is behind.
func TestEnteredAlready(t *testing.T) { // P25.2, P25.4
	for _, c := range settings {
		w := opened(t, c)
		for range 4 * c.Room {
			was := w.entered
			w.comes(was)
			for place := max(0, was-c.W-c.L%70); place <= was; place++ {
				if l := w.take(api.Slide{Seq: w.number(place), Data: []byte("other")}); l != fmt.Sprintf("%d/0", (was+1)%c.M) {
					t.Fatal(c, place, l)
				}
				w.is(was+1, w.returned)
			}
			if len(w.kept) == c.Room {
				w.drain()
			}
			w.holds()
		}
	}
}

// Each message is returned as it came, be it entered at once, or ahead first.
func TestEachMessage(t *testing.T) { // P25.2, P25.3
	w := opened(t, settings[4])
	for _, m := range messages() {
		for range 2 {
			w.take(api.Slide{Seq: w.number(w.entered), Data: m})
			w.holds()
			w.take(api.Slide{Seq: w.number(w.entered + 1), Data: m})
			w.holds()
			w.comes(w.entered)
			w.drain()
			w.holds()
		}
	}
}

// A message of no byte is one, whether it is nil or empty: it is ahead, enters and is returned.
func TestNoByte(t *testing.T) { // P25.2, P25.3, rule 3
	for _, none := range [][]byte{nil, {}, make([]byte, 0, 9)} {
		w := opened(t, api.Config{W: 3, M: 13, L: 3, Room: 2})
		for i, seq := range []int{1, 2, 1, 0, 3} {
			want := []string{"0/2", "0/6", "0/6", "2/1", "2/3"}[i]
			if l := w.take(api.Slide{Seq: seq, Data: none}); l != want {
				t.Fatal(i, l)
			}
			w.holds()
		}
		for i := range 4 {
			want := []string{"3/1", "4/0", "", ""}[i]
			if l := w.receive(); l != want { // which holds it against a message of no byte, and true
				t.Fatal(i, l)
			}
			w.holds()
		}
		if w.receive(); w.returned != 4 {
			t.Fatal(w.returned)
		}
	}
}

// The longest message is taken, and a longer one is not, at whichever place: what is told is what was told; a shorter one is taken there later.
func TestTooLong(t *testing.T) { // P25.2
	for _, c := range settings {
		w := opened(t, c)
		for by := range c.W {
			was := told([]api.Slide{w.tells()})
			for _, n := range tooLong {
				if l := w.take(api.Slide{Seq: w.number(w.entered + by), Data: noise(n, n)}); l != was {
					t.Fatal(c, by, n, l)
				}
				if l := w.take(api.Slide{Seq: w.number(w.entered + by), Data: make([]byte, n)}); l != was {
					t.Fatal(c, by, n, l)
				}
				w.holds()
			}
			if by > 0 {
				w.take(api.Slide{Seq: w.number(w.entered + by), Data: noise(by, maxData-by%2)})
				w.holds()
				if !slices.Contains(w.p.Ahead(), w.entered+by) {
					t.Fatal(c, by)
				}
			}
		}
		w.take(api.Slide{Seq: 0, Data: noise(1, maxData)})
		if w.entered != min(c.W, c.Room) {
			t.Fatal(c, w.entered)
		}
		for w.returned < c.W {
			w.receive()
			w.holds()
		}
	}
}

// One that is too long has nothing enter, and takes nothing away; neither while there is no room.
func TestTooLongWithoutRoom(t *testing.T) { // P25.2, P25.3
	for _, c := range settings {
		w := opened(t, c)
		for place := range c.Room {
			w.comes(place)
		}
		for _, n := range tooLong {
			if l := w.take(api.Slide{Seq: w.number(c.Room), Data: make([]byte, n)}); l != fmt.Sprintf("%d/0", c.Room%c.M) {
				t.Fatal(c, n, l)
			}
		}
		w.is(c.Room, 0)
		w.receive()
		for _, n := range tooLong {
			if l := w.take(api.Slide{Seq: w.number(c.Room), Data: make([]byte, n)}); l != fmt.Sprintf("%d/0", c.Room%c.M) {
				t.Fatal(c, n, l)
			}
		}
		w.is(c.Room, 1)
		w.comes(c.Room)
		w.is(c.Room+1, 1)
	}
}

// A list's bytes count, not the room behind them.
func TestRoomBehindIsNoByte(t *testing.T) { // P25.2
	w := opened(t, settings[4])
	for _, n := range []int{0, 1, maxData - 1, maxData} {
		b := noise(n, n+5000)[:n]
		w.take(api.Slide{Seq: w.number(w.entered + 1), Data: b})
		w.take(api.Slide{Seq: w.number(w.entered), Data: b})
		if w.drain(); w.entered%2 != 0 {
			t.Fatal(n, w.entered)
		}
	}
}

// Bits of a packet with a message say nothing, then and later.
func TestBitsOfAPacket(t *testing.T) { // P25.2
	for _, bits := range []uint64{0, 1, 2, 3, 6, 1 << 63, math.MaxUint64} {
		w := opened(t, api.Config{W: 3, M: 13, L: 3, Room: 2})
		for i, c := range []struct {
			seq  int
			told string
		}{{1, "0/2"}, {5, "0/2"}, {0, "2/0"}, {2, "2/1"}, {4, "2/5"}, {0, "2/5"}} {
			if l := w.take(api.Slide{Seq: c.seq, Bits: bits, Data: []byte("x")}); l != c.told {
				t.Fatal(bits, i, l)
			}
			w.holds()
		}
		if l := w.receive(); l != "3/2" {
			t.Fatal(bits, l)
		}
		w.holds()
	}
}

// One that lets nothing enter, one, several and all of those that are ahead: by how many are ahead without a gap behind the place that is waited for, with and without others behind the gap.
func TestHowManyEnter(t *testing.T) { // P25.2
	for _, c := range settings {
		for row := range c.W { // places 1 to row are ahead
			for _, behind := range []int{0, 1, 2, c.W} { // places from row + 2 on are ahead
				w := opened(t, c)
				bits := uint64(0)
				for place := c.W - 1; place >= 1; place-- {
					if place <= row || place >= row+2 && place < row+2+behind {
						w.comes(place)
						bits |= 1 << place
						if s := w.p.State(); s.Entered != 0 {
							t.Fatal(c, row, place, s)
						}
					}
				}
				w.holds()
				n := min(1+row, c.Room)
				if l, want := w.comes(0), fmt.Sprintf("%d/%x", n%c.M, (bits|1)>>n); l != want {
					t.Fatal(c, row, behind, l, want)
				}
				w.holds()
				if w.entered != n {
					t.Fatal(c, row, behind, w.entered)
				}
				if got := texts(w.p.Kept()); len(got) != n || got[n-1] != fmt.Sprintf("m%d", n-1) {
					t.Fatal(c, row, behind, got)
				}
			}
		}
	}
}

// Several that are due, and room for fewer: as many enter as there is room for, the others stay ahead, the one that is waited for among them, which is told by the bit 0.
func TestRoomForFewer(t *testing.T) { // P25.1 to P25.3
	for room := 1; room <= maxRoom; room++ {
		for filled := range room + 1 {
			for due := 1; due <= 20; due++ {
				w := opened(t, api.Config{W: 20, M: 81, L: 20, Room: room})
				for place := range filled {
					w.comes(place)
				}
				for place := filled + due - 1; place >= filled; place-- {
					w.comes(place)
				}
				n := min(room, filled+due)
				left := filled + due - n
				w.is(n, 0, count(n, left)...)
				if l, want := w.comes(n+19), fmt.Sprintf("%d/%x", n, 1<<left-1|1<<19); l != want {
					t.Fatal(room, filled, due, l, want)
				}
				w.holds()
				for i := range left {
					n++
					w.receive()
					if s := w.p.State(); s.Entered < n || s.Returned != i+1 {
						t.Fatal(room, filled, due, s)
					}
					w.holds()
				}
				w.drain()
				w.holds()
			}
		}
	}
}

// count is so many numbers from one on.
func count(from, n int) []int {
	var l []int
	for i := range n {
		l = append(l, from+i)
	}
	return l
}

// What is told where nothing is taken, is what was told: far off, ahead already, entered already, returned already, too long, with some ahead and with none, with room and without.
func TestToldWhereNothingIsTaken(t *testing.T) { // P25.1, P25.2
	for _, room := range []int{1, 3, 5, 16} {
		for ahead := range 64 {
			w := opened(t, api.Config{W: 6, M: 25, L: 6, Room: room})
			w.on(20)
			for place := range 3 {
				w.comes(20 + place)
			}
			base := w.entered
			for by := range 6 {
				if ahead>>by&1 == 1 {
					w.comes(base + by)
				}
			}
			want := told([]api.Slide{w.tells()})
			refused := []api.Slide{{Seq: -1}, {Seq: 25}, {Seq: w.number(base) - 25}, {Seq: w.number(base) + 25}, {Seq: math.MinInt}, {Seq: math.MaxInt}}
			for by := 6; by <= 18; by++ {
				refused = append(refused, api.Slide{Seq: w.number(w.entered + by), Data: []byte("far")})
			}
			for place := range w.ahead {
				refused = append(refused, api.Slide{Seq: w.number(place), Data: []byte("again")})
			}
			for place := w.entered - 12; place < w.entered; place++ {
				refused = append(refused, api.Slide{Seq: w.number(place), Data: []byte("again")})
			}
			for by := range 6 {
				refused = append(refused, api.Slide{Seq: w.number(w.entered + by), Data: make([]byte, maxData+1)})
			}
			for _, s := range refused {
				if l := w.take(s); l != want {
					t.Fatal(room, ahead, s, l, want)
				}
				w.holds()
			}
		}
	}
}

// Each bit alone: of the place that is waited for only where there is no room.
func TestEachBitAlone(t *testing.T) { // P25.1, P25.2
	for wide := 1; wide <= maxWide; wide++ {
		for bit := range wide {
			w := opened(t, api.Config{W: wide, M: 4*wide + 1, L: wide, Room: 1})
			w.comes(0)
			want := fmt.Sprintf("1/%x", uint64(1)<<bit)
			if l := w.comes(1 + bit); l != want {
				t.Fatal(wide, bit, l, want)
			}
			if l := w.comes(1 + wide); l != want {
				t.Fatal(wide, bit, l, want)
			}
			w.is(1, 0, 1+bit)
			w.holds()
		}
	}
}

// All bits at once, one by one from either end, and then fewer as messages enter.
func TestAllBits(t *testing.T) { // P25.1 to P25.3
	for wide := 1; wide <= maxWide; wide++ {
		for _, up := range []bool{true, false} {
			w := opened(t, api.Config{W: wide, M: 4*wide + 1, L: wide, Room: 1})
			w.comes(0)
			all := uint64(1)<<(wide-1)<<1 - 1
			bits := uint64(0)
			for i := range wide {
				by := i
				if !up {
					by = wide - 1 - i
				}
				bits |= 1 << by
				if l := w.comes(1 + by); l != fmt.Sprintf("1/%x", bits) {
					t.Fatal(wide, up, i, l)
				}
				w.holds()
			}
			if bits != all {
				t.Fatal(wide, bits)
			}
			w.is(1, 0, count(1, wide)...)
			for i := range wide {
				all >>= 1
				if l := w.receive(); l != fmt.Sprintf("%d/%x", 2+i, all) {
					t.Fatal(wide, up, i, l)
				}
				w.holds()
			}
			if w.receive() != "" || w.receive() != "" || w.entered != wide+1 {
				t.Fatal(wide, up)
			}
		}
	}
}

// All that six places may be: which are ahead is which bits are told, in whatever order they come.
func TestWhichAreAhead(t *testing.T) { // P25.1 to P25.3
	for bits := range uint64(64) {
		for seed := range 4 {
			w := opened(t, api.Config{W: 6, M: 25, L: 6, Room: 1})
			w.on(23)
			w.comes(23) // no room is left; the place that is waited for is told as 24
			next := drawn(seed)
			for range 60 {
				if by := next(6); bits>>by&1 == 1 {
					w.comes(24 + by)
				}
			}
			var ahead []int
			for by := range 6 {
				if bits>>by&1 == 1 {
					w.comes(24 + by)
					ahead = append(ahead, 24+by)
				}
			}
			if l := w.comes(30); l != fmt.Sprintf("24/%x", bits) {
				t.Fatal(bits, l)
			}
			w.is(24, 23, ahead...)
			w.holds()
			for bits&1 == 1 {
				w.receive()
				bits >>= 1
			}
			w.holds()
		}
	}
}

// Of an empty queue Receive tells none, sends nothing, and changes nothing, whatever is ahead.
func TestReceiveOfAnEmptyQueue(t *testing.T) { // P25.3
	for _, c := range settings {
		w := opened(t, c)
		for range 3 {
			for by := c.W - 1; by >= 1; by-- {
				w.comes(w.entered + by)
				for range 2 {
					if m, l, ok := w.p.Receive(); len(m) != 0 || len(l) != 0 || ok {
						t.Fatal(c, by, m, l, ok)
					}
					w.holds()
				}
			}
			w.comes(w.entered)
			w.drain()
			w.drain()
			w.holds()
		}
	}
}

// Where none is ahead, or there is a gap, none enters by a Receive, and nothing is sent.
func TestReceiveThatLetsNothingEnter(t *testing.T) { // P25.3
	for _, c := range settings {
		for n := 1; n <= c.Room; n++ {
			w := opened(t, c)
			for place := range n {
				w.comes(place)
			}
			for by := 1; by < c.W; by++ { // a gap stands ahead of all of these
				w.comes(n + by)
			}
			for i := range n {
				m, l, ok := w.p.Receive()
				if string(m) != fmt.Sprintf("m%d", i) || len(l) != 0 || !ok {
					t.Fatal(c, n, i, m, l, ok)
				}
				w.kept, w.returned = w.kept[1:], i+1
				w.holds()
			}
		}
	}
}

// Where there was no room, and the place that is waited for is ahead, just one enters by each Receive, and what is told then is sent.
func TestReceiveThatLetsOneEnter(t *testing.T) { // P25.3
	for _, c := range settings {
		w := opened(t, c)
		for place := range c.Room + c.W {
			w.comes(place)
		}
		w.is(c.Room, 0, count(c.Room, c.W)...)
		for i := range c.W {
			m, l, ok := w.p.Receive()
			bits := uint64(1)<<(c.W-1-i) - 1
			if string(m) != fmt.Sprintf("m%d", i) || told(l) != fmt.Sprintf("%d/%x", (c.Room+1+i)%c.M, bits) || !ok {
				t.Fatal(c, i, m, told(l), ok)
			}
			w.is(c.Room+1+i, 1+i, count(c.Room+1+i, c.W-1-i)...)
			if kept := w.p.Kept(); len(kept) != c.Room || string(kept[c.Room-1]) != fmt.Sprintf("m%d", c.Room+i) {
				t.Fatal(c, i, kept)
			}
		}
		for i := range c.Room {
			m, l, ok := w.p.Receive()
			if string(m) != fmt.Sprintf("m%d", c.W+i) || len(l) != 0 || !ok {
				t.Fatal(c, i, m, told(l), ok)
			}
		}
		if m, l, ok := w.p.Receive(); len(m) != 0 || len(l) != 0 || ok {
			t.Fatal(c, m, l, ok)
		}
	}
}

// Room is for what entered: what is ahead takes none of it, and each that is returned makes room for one more.
func TestRoom(t *testing.T) { // P25.2, P25.3
	for _, c := range settings {
		w := opened(t, c)
		for by := 1; by < c.W; by++ {
			w.comes(by)
		}
		for w.entered < c.Room {
			w.comes(w.entered)
		}
		if kept := w.p.Kept(); len(kept) != c.Room {
			t.Fatal(c, len(kept))
		}
		for i := range 3 * c.Room {
			for by := range c.W {
				w.comes(w.entered + by)
			}
			if s := w.p.State(); s.Entered != c.Room+i || s.Returned != i {
				t.Fatal(c, i, s)
			}
			w.receive()
			w.holds()
		}
	}
}

// The places that are ahead are told rising, in whatever order they came, also where their numbers begin anew.
func TestAheadIsRising(t *testing.T) { // P25.3
	for seed := range 40 {
		w := opened(t, api.Config{W: 64, M: 257, L: 64, Room: 3})
		next := drawn(seed)
		w.on(next(600))
		base := w.entered
		for range 400 {
			w.comes(base + 1 + next(63))
		}
		w.holds() // which has them sorted
		if l := w.p.Ahead(); !slices.IsSorted(l) || len(l) < 50 || len(slices.Compact(l)) != len(w.ahead) {
			t.Fatal(seed, l)
		}
	}
}

// Kept is the queue, the first one first, at each length and wherever its first one stands.
func TestKept(t *testing.T) { // P25.3
	for room := 1; room <= maxRoom; room++ {
		w := opened(t, api.Config{W: 1, M: 5, L: 1, Room: room})
		for first := range 20 {
			for n := 1; n <= room; n++ {
				w.comes(w.entered)
				var want []string
				for place := first; place < w.entered; place++ {
					want = append(want, fmt.Sprintf("m%d", place))
				}
				if got := texts(w.p.Kept()); !slices.Equal(got, want) {
					t.Fatal(room, first, n, got, want)
				}
				w.holds()
				if len(want) == room {
					break
				}
			}
			w.receive()
		}
	}
}

// Asking how it stands changes nothing.
func TestAskingChangesNothing(t *testing.T) { // P25.3
	for _, c := range settings {
		w := opened(t, c)
		for i := range 40 {
			for range 5 {
				w.holds()
			}
			w.comes(w.entered + i%(c.W+1))
			w.holds()
			if i%3 == 0 {
				w.receive()
			}
		}
	}
}

// Places whose numbers go round more than once, each by its number, of as few numbers as may be and of many.
func TestNumbersBeginAnew(t *testing.T) { // P25.1, P25.2
	for _, m := range []int{5, 6, 255, 256, 257, 65535, 65536} {
		p, _ := puller.New(api.Config{W: 1, M: m, L: 1, Room: 1})
		for place := range 2*m + 7 {
			want := place%m + 1
			if want == m {
				want = 0
			}
			data := fmt.Append(nil, place)
			if l := p.Take(api.Slide{Seq: place % m, Data: data}); told(l) != fmt.Sprintf("%d/0", want) {
				t.Fatal(m, place, told(l))
			}
			if got, l, ok := p.Receive(); !bytes.Equal(got, data) || len(l) != 0 || !ok {
				t.Fatal(m, place, got, l, ok)
			}
		}
		if s := p.State(); s != (puller.State{Entered: 2*m + 7, Returned: 2*m + 7}) {
			t.Fatal(m, s)
		}
	}
}

// The same with several ahead, so that the window stands across the last number.
func TestNumbersBeginAnewInTheWindow(t *testing.T) { // P25.1 to P25.3
	for _, c := range settings {
		w := opened(t, c)
		for w.entered < 3*min(c.M, 700)+5 {
			for by := c.W - 1; by >= 0; by-- {
				w.comes(w.entered + by)
			}
			w.holds()
			for len(w.kept) > 0 {
				w.receive()
			}
			w.holds()
		}
	}
	for base := range 60 {
		w := opened(t, api.Config{W: 4, M: 17, L: 4, Room: 1})
		w.on(base)
		w.come(base+3, base+1)
		if l := w.comes(base + 2); l != fmt.Sprintf("%d/e", base%17) {
			t.Fatal(base, l)
		}
		w.is(base, base, base+1, base+2, base+3)
		if l := w.comes(base); l != fmt.Sprintf("%d/7", (base+1)%17) {
			t.Fatal(base, l)
		}
		w.drain()
		w.holds()
	}
}

// mix does n acts of all kinds, by chance, and holds behind each.
func (w *twin) mix(next func(int) int, n int) {
	w.t.Helper()
	for range n {
		if next(7) < 2 {
			w.receive()
		} else {
			w.take(w.packet(next))
		}
		w.holds()
	}
}

// packet is a packet by chance: for the most part one of a place of the window.
func (w *twin) packet(next func(int) int) api.Slide {
	s := api.Slide{Ack: next(20) == 0}
	switch next(6) {
	case 0:
		s.Seq = next(w.c.M)
	case 1:
		s.Seq = w.number(w.entered)
	case 2, 3:
		s.Seq = w.number(w.entered + next(w.c.W))
	case 4:
		s.Seq = w.number(w.entered + next(w.c.W+4) - 2)
	default:
		s.Seq = []int{w.number(w.entered - 1), w.number(w.entered + w.c.W), w.number(w.entered) - w.c.M, w.number(w.entered) + w.c.M, -1, w.c.M}[next(6)]
	}
	long := next(7)
	if next(9) == 0 {
		long = 60 + next(8)
	}
	s.Data = noise(next(1000), long)
	if next(9) == 0 {
		s.Bits = uint64(next(1<<30))<<34 | uint64(next(1<<16))
	}
	return s
}

// Acts of all kinds, by many seeds, in all settings.
func TestManyActs(t *testing.T) { // P25.1 to P25.4
	for i, c := range settings {
		for seed := range 60 {
			opened(t, c).mix(drawn(100*i+seed), 120)
		}
		w := opened(t, c)
		w.mix(drawn(i), 4000)
		if w.entered < 150 || w.returned < 150 {
			t.Fatal(c, w.entered, w.returned)
		}
	}
}

// Each window and room, with as few numbers as may be, and with more.
func TestManySettings(t *testing.T) { // P25.1 to P25.4
	next := drawn(77)
	for wide := 1; wide <= maxWide; wide++ {
		for room := 1; room <= maxRoom; room++ {
			l := wide + next(3)*next(40)
			least := 2*wide + 2*l + 1
			for _, m := range []int{least, least + 1, least + next(maxMod-least)} {
				opened(t, api.Config{W: wide, M: m, L: l, Room: room}).mix(next, 60)
			}
		}
	}
}

// All short rows of acts.
func TestEachShortRow(t *testing.T) { // P25.1 to P25.4
	acts := []func(w *twin){
		func(w *twin) { w.receive() },
		func(w *twin) { w.comes(w.entered) },
		func(w *twin) { w.comes(w.entered + 1) },
		func(w *twin) { w.comes(w.entered + 2) },
		func(w *twin) { w.take(api.Slide{Seq: w.number(w.entered + 1), Data: []byte("other")}) },
		func(w *twin) { w.comes(w.entered - 1) },
		func(w *twin) { w.take(api.Slide{Seq: w.number(w.entered), Data: make([]byte, maxData+1)}) },
	}
	for _, kind := range []struct {
		long int
		c    api.Config
	}{
		{5, api.Config{W: 1, M: 5, L: 1, Room: 1}},
		{5, api.Config{W: 2, M: 9, L: 2, Room: 1}},
		{5, api.Config{W: 2, M: 9, L: 2, Room: 2}},
		{6, api.Config{W: 3, M: 13, L: 3, Room: 1}},
		{6, api.Config{W: 3, M: 13, L: 3, Room: 2}},
	} {
		rows := 1
		for range kind.long {
			rows *= len(acts)
		}
		for row := range rows {
			w := opened(t, kind.c)
			for range kind.long {
				acts[row%len(acts)](w)
				row /= len(acts)
			}
			w.holds()
		}
	}
}

// What P25.4 says, held against nothing but what comes and what is told: messages enter in the order of their places, each once, and what is told is never behind what was told ahead of it.
func TestInOrderEachOnce(t *testing.T) { // P25.2 to P25.4
	for i, c := range settings {
		for seed := range 25 {
			next := drawn(1000*i + seed)
			p, _ := puller.New(c)
			var got []string
			waits := 0 // the place that was told last
			hear := func(l []api.Slide) {
				for _, x := range l {
					by := (x.Seq - waits%c.M + c.M) % c.M
					if !x.Ack || x.Seq < 0 || x.Seq >= c.M || len(x.Data) > 0 || by > c.W {
						t.Fatal(c, waits, told(l))
					}
					waits += by
				}
			}
			for range 400 {
				was := waits
				switch next(4) {
				case 0:
					m, l, ok := p.Receive()
					if hear(l); len(l) > 1 || (len(l) == 1) != (waits > was) {
						t.Fatal(c, told(l))
					}
					if ok {
						got = append(got, string(m))
					}
				default: // nothing that is in place of which another one has the number is on its way
					place := max(0, p.State().Entered-c.W+next(2*c.W+1))
					if next(3) == 0 {
						place = p.State().Entered
					}
					l := p.Take(api.Slide{Seq: place % c.M, Data: []byte(strconv.Itoa(place))})
					if hear(l); len(l) != 1 {
						t.Fatal(c, told(l))
					}
				}
				s := p.State()
				kept := texts(p.Kept())
				if s.Entered != waits || s.Returned != len(got) || len(kept) != s.Entered-s.Returned || len(kept) > c.Room {
					t.Fatal(c, s, waits, len(got), kept)
				}
				for n, m := range slices.Concat(got[max(0, len(got)-3):], kept) {
					if m != strconv.Itoa(max(0, len(got)-3)+n) {
						t.Fatal(c, n, m)
					}
				}
				for n, place := range p.Ahead() {
					if place < s.Entered || place >= s.Entered+c.W || n >= c.W || place == s.Entered && len(kept) < c.Room {
						t.Fatal(c, s, p.Ahead())
					}
				}
			}
			for n, m := range got {
				if m != strconv.Itoa(n) {
					t.Fatal(c, n, m)
				}
			}
			if len(got) < 20 {
				t.Fatal(c, len(got))
			}
		}
	}
}

// All orders of six places, each of which may come twice: they enter in their own.
func TestEachOrder(t *testing.T) { // P25.2, P25.4
	places := []int{0, 1, 2, 3, 4, 5}
	var all func(n int, f func())
	all = func(n int, f func()) {
		if n == len(places) {
			f()
			return
		}
		for i := n; i < len(places); i++ {
			places[n], places[i] = places[i], places[n]
			all(n+1, f)
			places[n], places[i] = places[i], places[n]
		}
	}
	for _, room := range []int{1, 2, 5, 6, 16} {
		all(0, func() {
			w := opened(t, api.Config{W: 6, M: 25, L: 6, Room: room})
			for i, place := range places {
				w.comes(place)
				w.comes(places[i/2])
			}
			w.holds()
			for i := range 6 {
				if m, _, ok := w.p.Receive(); string(m) != fmt.Sprintf("m%d", i) || !ok {
					t.Fatal(places, room, i, m, ok)
				}
			}
			if m, l, ok := w.p.Receive(); len(m) != 0 || len(l) != 0 || ok {
				t.Fatal(places, room, m, l, ok)
			}
		})
	}
}

// air is a direction of a channel: what is on its way, each with how many were sent behind it.
type air struct {
	flying []api.Slide
	behind []int
}

// put sends packets; those that outlived so many others are gone.
func (a *air) put(life int, l ...api.Slide) {
	for _, s := range l {
		for i := range a.behind {
			a.behind[i]++
		}
		a.flying, a.behind = append(a.flying, s), append(a.behind, 0)
		for a.behind[0] >= life {
			a.take(0)
		}
	}
}

// take answers what is the i'th on its way, which it is no longer.
func (a *air) take(i int) api.Slide {
	s := a.flying[i]
	a.flying, a.behind = slices.Delete(a.flying, i, i+1), slices.Delete(a.behind, i, i+1)
	return s
}

// ends are a transmitter and a receiver, and a channel between them that loses and turns about.
type ends struct {
	t           *testing.T
	c           api.Config
	next        func(int) int
	from        *pusher.Pusher
	to          *puller.Puller
	sent, got   []string
	there, back air
}

// send sends a message, each another one.
func (x *ends) send() {
	m := fmt.Appendf(nil, "%d %d", len(x.sent), x.next(1000))
	if _, l, e := x.from.Send(m); e == fine {
		x.sent = append(x.sent, string(m))
		x.there.put(x.c.L, l...)
	}
}

// receive receives a message.
func (x *ends) receive() bool {
	m, l, ok := x.to.Receive()
	if ok {
		x.got = append(x.got, string(m))
	}
	x.back.put(x.c.L, l...)
	return ok
}

// act does something that is drawn.
func (x *ends) act() {
	switch n := x.next(10); {
	case n < 2:
		x.send()
	case n == 2:
		x.receive()
	case n < 5:
		x.there.put(x.c.L, x.from.Tick()...)
	case n < 7 && len(x.there.flying) > 0:
		x.back.put(x.c.L, x.to.Take(x.there.take(x.next(len(x.there.flying))))...)
	case n < 9 && len(x.back.flying) > 0:
		x.there.put(x.c.L, x.from.Take(x.back.take(x.next(len(x.back.flying))))...)
	case len(x.there.flying) > 0 && x.next(2) == 0:
		x.there.take(x.next(len(x.there.flying)))
	case len(x.back.flying) > 0:
		x.back.take(x.next(len(x.back.flying)))
	}
}

// round has all that is on its way, and what is due, come to its end, and messages be received.
func (x *ends) round() {
	for range x.c.B {
		x.there.put(x.c.L, x.from.Tick()...)
		x.over()
	}
	for x.receive() {
	}
	x.over()
}

// over has all that is on its way come to its end.
func (x *ends) over() {
	for len(x.there.flying)+len(x.back.flying) > 0 {
		for len(x.there.flying) > 0 {
			x.back.put(x.c.L, x.to.Take(x.there.take(0))...)
		}
		for len(x.back.flying) > 0 {
			x.there.put(x.c.L, x.from.Take(x.back.take(0))...)
		}
	}
}

// holds fails the test if what was returned is not a beginning of what was accepted, or if a place was sent first ahead of its time.
func (x *ends) holds() {
	x.t.Helper()
	from, to := x.from.State(), x.to.State()
	if len(x.got) > len(x.sent) || !slices.Equal(x.got, x.sent[:len(x.got)]) || to.Returned != len(x.got) {
		x.t.Fatal(x.c, len(x.got), len(x.sent), to)
	}
	if from.Base > to.Entered || to.Entered > from.Next || from.Next > to.Entered+x.c.W {
		x.t.Fatal(x.c, from, to)
	}
	for i, m := range x.to.Kept() {
		if string(m) != x.sent[to.Returned+i] {
			x.t.Fatal(x.c, i, m)
		}
	}
	for _, place := range x.to.Ahead() {
		if place < to.Entered || place >= from.Next {
			x.t.Fatal(x.c, from, to, x.to.Ahead())
		}
	}
}

// With a transmitter: all that was sent comes in order, each once, over a channel that loses and turns about, and where nothing is lost any more nothing waits at last.
func TestWithAPusher(t *testing.T) { // P25.1 to P25.4
	for i, c := range settings {
		for seed := range 6 {
			c.B = 1 + (i+7*seed)%64
			x := &ends{t: t, c: c, next: drawn(10*i + seed)}
			x.from, _ = pusher.New(c)
			x.to, _ = puller.New(c)
			for range 1500 {
				x.act()
				x.holds()
			}
			x.send()
			s := x.from.State()
			for range 8 * (s.Accepted - s.Base + 1) {
				x.round()
				x.holds()
			}
			if s := x.from.State(); s.Base != len(x.sent) || len(x.got) != len(x.sent) || len(x.sent) < 15 {
				t.Fatal(c, s, len(x.got), len(x.sent))
			}
			if len(x.from.Tick()) != 0 || len(x.to.Ahead()) != 0 || len(x.to.Kept()) != 0 {
				t.Fatal(c, x.to.Ahead(), x.to.Kept())
			}
		}
	}
}

// What is told is such as layer 14 has it: a packet that is right, which is the same behind its way as bytes.
func TestWhatIsToldIsRight(t *testing.T) { // P25.1
	for i, c := range settings {
		w := opened(t, c)
		next := drawn(i)
		for range 400 {
			l := w.p.Take(w.packet(next))
			if next(3) == 0 {
				_, more, _ := w.p.Receive()
				l = append(l, more...)
			}
			w.entered = w.p.State().Entered
			for _, s := range l {
				b, e := slide.Put(s, c.M)
				if e != fine {
					t.Fatal(c, told(l), e)
				}
				if back, e := slide.Get(b, c.M); e != fine || !back.Ack || !slide.Same(s, back) {
					t.Fatal(c, told(l), e)
				}
			}
		}
	}
}

// spare answers b with room behind it in which a guard stands, and a function that tells whether b and the guard are as they were.
func spare(b []byte) ([]byte, func() bool) {
	whole := slices.Concat([]byte{7}, b, noise(len(b), 100))
	was := bytes.Clone(whole)
	return whole[1 : 1+len(b)], func() bool { return bytes.Equal(whole, was) }
}

// What is handed in isn't changed, nor what stands behind it, whether it is taken or not, and whatever comes later.
func TestWhatIsHandedInStays(t *testing.T) { // rule 3
	w := opened(t, settings[4])
	for i, m := range append(messages(), noise(1, maxData+1), noise(2, 500)) {
		var checks []func() bool
		for _, by := range []int{1, 1, -1, 2, 0} {
			b, same := spare(m)
			w.take(api.Slide{Seq: w.number(w.entered + by), Data: b})
			w.take(api.Slide{Ack: true, Seq: w.number(w.entered + by), Data: b})
			w.holds()
			checks = append(checks, same)
		}
		w.drain()
		w.comes(w.entered)
		w.drain()
		for n, same := range checks {
			if !same() {
				t.Fatal(i, n, m)
			}
		}
	}
	for _, p := range unmade() {
		b, same := spare([]byte("abc"))
		p.Take(api.Slide{Data: b})
		p.Take(api.Slide{Ack: true, Data: b})
		if !same() {
			t.Fatal(b)
		}
	}
}

// What was handed in may be written afterwards: what is kept, and what is returned, is what it was, be it ahead, due without room, or entered at once.
func TestWhatIsHandedInIsNotKept(t *testing.T) { // rule 3
	for _, m := range messages() {
		for _, order := range [][]int{{0, 1, 2, 3}, {3, 2, 1, 0}, {2, 0, 3, 1}} {
			w := opened(t, api.Config{W: 4, M: 17, L: 4, Room: 2})
			for _, place := range order {
				mine, _ := spare(m)
				w.take(api.Slide{Seq: place, Data: mine})
				overwrite(mine)
				w.holds()
				w.take(api.Slide{Seq: place, Data: mine})
				overwrite(mine)
				w.holds()
			}
			for range 5 {
				w.receive()
				w.holds()
			}
			if w.returned != 4 {
				t.Fatal(m, w.returned)
			}
		}
	}
}

// One list of bytes, written over for each Take.
func TestOneBufferForAll(t *testing.T) { // rule 3
	for i, c := range settings {
		w := opened(t, c)
		buffer := make([]byte, 5)
		next := drawn(i)
		for n := range 200 {
			for at := range buffer {
				buffer[at] = byte(n + at)
			}
			w.take(api.Slide{Seq: w.number(w.entered + next(c.W)), Data: buffer[:1+n%5]})
			clear(buffer)
			w.holds()
			if next(3) == 0 {
				w.receive()
				w.holds()
			}
		}
	}
}

// What one packet is written over with is seen in no other one, whether it came ahead or comes later.
func TestPacketsAreNewMemory(t *testing.T) { // rule 3
	p, _ := puller.New(api.Config{W: 4, M: 17, L: 4, Room: 1})
	var answers [][]api.Slide
	for _, place := range []int{2, 2, 1, 0, 3, 9} {
		answers = append(answers, p.Take(api.Slide{Seq: place, Data: []byte("m")}))
	}
	for range 4 {
		_, l, _ := p.Receive()
		answers = append(answers, l)
	}
	var were []string
	for _, l := range answers {
		were = append(were, told(l))
	}
	if all := strings.Join(were, " "); all != "0/4 0/4 0/6 1/3 1/7 1/7 2/3 3/1 4/0 " {
		t.Fatal(all)
	}
	for i, l := range answers {
		spoil(l)
		for j := i + 1; j < len(answers); j++ {
			if told(answers[j]) != were[j] {
				t.Fatal(i, j, told(answers[j]), were[j])
			}
		}
	}
	if l := p.Take(api.Slide{Seq: 9}); told(l) != "4/0" {
		t.Fatal(told(l))
	}
}

// What Receive told may be written, cut and grown, and no later answer is another one; nor is one that came ahead.
func TestReceivedIsNewMemory(t *testing.T) { // rule 3
	for _, m := range messages() {
		w := opened(t, api.Config{W: 4, M: 17, L: 4, Room: 2})
		for place := 3; place >= 0; place-- {
			w.take(api.Slide{Seq: place, Data: m})
		}
		var answers [][]byte
		for range 4 {
			before := w.p.Kept()
			got, l, ok := w.p.Receive()
			if !bytes.Equal(got, m) || !ok {
				t.Fatal(m, got, ok)
			}
			spoil(l)
			answers = append(answers, got)
			again := bytes.Clone(before[0])
			deface(got)
			if !bytes.Equal(before[0], again) {
				t.Fatal(m, before[0])
			}
			for _, x := range w.p.Kept() {
				if !bytes.Equal(x, m) {
					t.Fatal(m, x)
				}
			}
			copy(got, m)
		}
		for i, got := range answers {
			deface(got)
			for _, other := range answers[i+1:] {
				if !bytes.Equal(other, m) {
					t.Fatal(m, other)
				}
			}
		}
	}
}

// What Kept told, and each message in it, may be written, cut and grown, and no later answer is another one; two answers, and two messages of one, share nothing.
func TestKeptIsNewMemory(t *testing.T) { // P25.3, rule 3
	for _, m := range messages() {
		w := opened(t, api.Config{W: 4, M: 17, L: 4, Room: 4})
		for place := 3; place >= 0; place-- {
			w.take(api.Slide{Seq: place, Data: m})
		}
		for i := range 4 {
			a, b := w.p.Kept(), w.p.Kept()
			deface(a[i])
			for j := range a {
				if j != i && !bytes.Equal(a[j], m) {
					t.Fatal(m, i, j, a[j])
				}
			}
			defaceAll(a)
			if want := slices.Repeat([]string{string(m)}, 4); !slices.Equal(texts(b), want) || !slices.Equal(texts(w.p.Kept()), want) {
				t.Fatal(m, b, w.p.Kept())
			}
			w.holds()
		}
		for range 5 {
			w.receive()
			w.holds()
		}
		defaceAll(w.p.Kept())
		w.holds()
	}
}

// What Ahead told may be written, cut and grown, and no later answer is another one; two answers share nothing.
func TestAheadIsNewMemory(t *testing.T) { // P25.3, rule 3
	for _, c := range settings {
		w := opened(t, c)
		for i := range 60 {
			a, b := w.p.Ahead(), w.p.Ahead()
			for i := range a[:cap(a)] {
				a[:cap(a)][i] = 99 - i
			}
			_ = append(a[:len(a)/2], 1, 2, 3)
			_ = append(a, 4, 5, 6)
			if !slices.Equal(b, w.places()) || !slices.Equal(w.p.Ahead(), w.places()) {
				t.Fatal(c, b, w.p.Ahead())
			}
			w.comes(w.entered + (i*i+1)%c.W)
			if i%5 == 4 {
				w.comes(w.entered)
				w.receive()
			}
			w.holds()
		}
	}
}

// What was told stays what it was, whatever comes later.
func TestAnswersStay(t *testing.T) { // rule 3
	for i, c := range settings {
		w := opened(t, c)
		next := drawn(i)
		var packets [][]api.Slide
		var received []byte
		var kept [][][]byte
		var ahead [][]int
		var were []string
		text := func(i int) string { return fmt.Sprintf("%s %q %v", told(packets[i]), kept[i], ahead[i]) }
		for range 400 {
			l := w.p.Take(w.packet(next))
			if next(3) == 0 {
				m, more, _ := w.p.Receive()
				if !bytes.Equal(received, noise(len(received), len(received))) {
					t.Fatal(c, received)
				}
				l = append(l, more...)
				received = m
				copy(received, noise(len(m), len(m)))
			}
			w.entered = w.p.State().Entered
			packets, kept, ahead = append(packets, l), append(kept, w.p.Kept()), append(ahead, w.p.Ahead())
			were = append(were, text(len(packets)-1))
		}
		for i := range packets {
			if text(i) != were[i] {
				t.Fatal(c, i, text(i), were[i])
			}
		}
	}
}

// What was told may be handed in again, and be written then.
func TestToldIsTakenAgain(t *testing.T) { // rule 3
	p, _ := puller.New(api.Config{W: 2, M: 9, L: 2, Room: 1})
	p.Take(api.Slide{Data: []byte("a")})
	for n := 1; n < 80; n += 2 { // so many entered, the last one is kept, and none is ahead
		kept := p.Kept()
		if l := p.Take(api.Slide{Seq: (n + 1) % 9, Data: kept[0]}); told(l) != fmt.Sprintf("%d/2", n%9) {
			t.Fatal(n, told(l))
		}
		defaceAll(kept)
		m, l, ok := p.Receive()
		if string(m) != "a" || len(l) != 0 || !ok {
			t.Fatal(n, m, told(l), ok)
		}
		l = p.Take(api.Slide{Seq: n % 9, Data: m})
		if deface(m); told(l) != fmt.Sprintf("%d/1", (n+1)%9) {
			t.Fatal(n, told(l))
		}
		if more := p.Take(l[0]); len(more) != 0 { // an Ack
			t.Fatal(n, told(more))
		}
		spoil(l)
		m, l, ok = p.Receive()
		if string(m) != "a" || told(l) != fmt.Sprintf("%d/0", (n+2)%9) || !ok {
			t.Fatal(n, m, told(l), ok)
		}
		deface(m)
		spoil(l)
	}
}

// unmade are the pullers that New did not make.
func unmade() []*puller.Puller {
	return []*puller.Puller{nil, new(puller.Puller), {}}
}

// nothing fails the test if the puller, which New did not make, is one.
func nothing(t *testing.T, p *puller.Puller) {
	t.Helper()
	for _, seq := range slices.Concat(far, []int{0, 1, 2}) {
		for _, s := range []api.Slide{{Seq: seq}, {Seq: seq, Ack: true}, {Seq: seq, Ack: true, Bits: math.MaxUint64}, {Seq: seq, Data: []byte("a")}, {Seq: seq, Data: make([]byte, maxData+1)}} {
			if l := p.Take(s); len(l) != 0 {
				t.Fatal(s, l)
			}
		}
	}
	if m, l, ok := p.Receive(); len(m) != 0 || len(l) != 0 || ok {
		t.Fatal(m, l, ok)
	}
	if s := p.State(); s != (puller.State{}) {
		t.Fatal(s)
	}
	if l := p.Kept(); len(l) != 0 {
		t.Fatal(l)
	}
	if l := p.Ahead(); len(l) != 0 {
		t.Fatal(l)
	}
}

// Each call as the first one, and each behind each other one.
func TestUnmade(t *testing.T) { // P25.1 to P25.3, rules 1 and 2
	calls := []func(p *puller.Puller) bool{
		func(p *puller.Puller) bool { return len(p.Take(api.Slide{})) == 0 },
		func(p *puller.Puller) bool { return len(p.Take(api.Slide{Data: []byte("a")})) == 0 },
		func(p *puller.Puller) bool { return len(p.Take(api.Slide{Seq: 1, Data: make([]byte, 1000)})) == 0 },
		func(p *puller.Puller) bool { return len(p.Take(api.Slide{Ack: true})) == 0 },
		func(p *puller.Puller) bool { m, l, ok := p.Receive(); return len(m) == 0 && len(l) == 0 && !ok },
		func(p *puller.Puller) bool { return p.State() == puller.State{} },
		func(p *puller.Puller) bool { return len(p.Kept()) == 0 },
		func(p *puller.Puller) bool { return len(p.Ahead()) == 0 },
	}
	for i := range unmade() {
		for first, f := range calls {
			for second, g := range calls {
				p := unmade()[i]
				for range 20 {
					if !f(p) || !g(p) {
						t.Fatal(i, first, second)
					}
				}
				nothing(t, p)
			}
		}
	}
}

// A puller that is a part of something else, and that nobody made, is no other than one of its own.
func TestUnmadeInside(t *testing.T) { // P25.1 to P25.3, rule 1
	var s struct {
		before uint64
		p      puller.Puller
		after  uint64
	}
	var l [3]puller.Puller
	for range 40 {
		nothing(t, &s.p)
		for i := range l {
			nothing(t, &l[i])
		}
		if s.before != 0 || s.after != 0 {
			t.Fatal(s.before, s.after)
		}
	}
}

// A puller has the chapter's calls, and no others.
func TestNoOtherCalls(t *testing.T) { // P25.1 to P25.3
	p := reflect.TypeFor[*puller.Puller]()
	var names []string
	for m := range p.Methods() {
		names = append(names, m.Name)
	}
	if want := []string{"Ahead", "Kept", "Receive", "State", "Take"}; !slices.Equal(names, want) {
		t.Fatal(names)
	}
	for f := range p.Elem().Fields() {
		if f.IsExported() {
			t.Fatal(f.Name)
		}
	}
}

// Pullers have nothing to do with one another, nor with one that nobody made.
func TestTwoPullers(t *testing.T) { // rule 4
	next := drawn(7)
	x, y, z := opened(t, settings[4]), opened(t, settings[12]), opened(t, settings[4])
	for i := range 400 {
		x.mix(next, 1)
		y.mix(next, 2)
		if i%3 == 0 {
			z.mix(next, 1)
		}
		for _, p := range unmade() {
			nothing(t, p)
		}
		opened(t, settings[4]).come(1, 0, 2)
		x.holds()
		y.holds()
		z.holds()
	}
}

// What one puller told is handed to another one, and written then.
func TestFromOneToAnother(t *testing.T) { // rule 3
	x, y := opened(t, settings[4]), opened(t, settings[4])
	for i := range 40 {
		x.come(i+1, i)
		m, _, _ := x.p.Receive()
		x.kept, x.returned = x.kept[1:], x.returned+1
		y.take(api.Slide{Seq: y.number(y.entered + 1), Data: m})
		y.take(api.Slide{Seq: y.number(y.entered), Data: m})
		deface(m)
		y.holds()
		y.drain()
		x.holds()
	}
}

// run is all that is told by calls that look like noise, the same ones of the same seed.
func run(c api.Config, seed int) string {
	p, _ := puller.New(c)
	next := drawn(seed)
	var said strings.Builder
	for range 250 {
		switch next(4) {
		case 0:
			m, l, ok := p.Receive()
			fmt.Fprintf(&said, "%q %s %v\n", m, told(l), ok)
		default:
			seq := (p.State().Entered + next(c.W+2)) % c.M
			fmt.Fprintln(&said, told(p.Take(api.Slide{Ack: next(30) == 0, Seq: seq, Data: noise(next(100), next(66))})))
		}
		fmt.Fprintf(&said, "%v %q %v\n", p.State(), p.Kept(), p.Ahead())
	}
	return said.String()
}

// The same calls on two objects are answered alike, many times over.
func TestTheSameAgain(t *testing.T) { // rule 4
	for seed, c := range settings {
		first := run(c, seed)
		for range 12 {
			if run(c, seed) != first {
				t.Fatal(c)
			}
		}
	}
}

// inUse is how many bytes are kept.
func inUse() int {
	var m runtime.MemStats
	runtime.GC()
	runtime.GC()
	runtime.ReadMemStats(&m)
	return int(m.HeapAlloc)
}

// Of the messages that were returned nothing is kept, however many there were, nor of those that were not taken, nor of what is behind a message's bytes.
func TestWhatIsKept(t *testing.T) { // P25.2, P25.3
	const many = 100
	var l [many]*puller.Puller
	c := api.Config{W: 16, M: 65, L: 16, Room: 16}
	before := inUse()
	for i := range l {
		p, _ := puller.New(c)
		l[i] = p
		for n := range 10 {
			for by := 15; by >= 0; by-- {
				seq := (16*n + by) % c.M
				p.Take(api.Slide{Seq: seq, Data: make([]byte, 10000)})
				p.Take(api.Slide{Ack: true, Seq: seq, Data: make([]byte, 10000)})
				p.Take(api.Slide{Seq: (seq + 20) % c.M, Data: make([]byte, maxData)})
				p.Take(api.Slide{Seq: seq, Data: make([]byte, maxData, 10000)})
				p.Take(api.Slide{Seq: seq, Data: make([]byte, maxData)})
			}
			for range 17 {
				p.Receive()
			}
		}
	}
	left := inUse() - before
	for _, p := range l {
		if s := p.State(); s != (puller.State{Entered: 160, Returned: 160}) || len(p.Ahead()) != 0 {
			t.Fatal(s, p.Ahead())
		}
	}
	if left > many*3000 { // a queue, and a map of up to 16; 160 of the longest messages are more than thrice that
		t.Fatal(left / many)
	}
}

// Where none is returned any more, no more than a window and a queue full is kept, whatever comes.
func TestNoMoreIsKept(t *testing.T) { // P25.2
	const many = 100
	var l [many]*puller.Puller
	c := api.Config{W: 4, M: 17, L: 4, Room: 2}
	before := inUse()
	for i := range l {
		p, _ := puller.New(c)
		l[i] = p
		for range 50 {
			for seq := range c.M {
				p.Take(api.Slide{Seq: seq, Data: make([]byte, maxData, 4096)})
				p.Take(api.Slide{Seq: seq, Data: make([]byte, 4096)})
			}
		}
		if s := p.State(); s != (puller.State{Entered: 2}) || !slices.Equal(p.Ahead(), []int{2, 3, 4, 5}) {
			t.Fatal(s, p.Ahead())
		}
	}
	left := inUse() - before
	for _, p := range l {
		if kept := p.Kept(); len(kept) != 2 {
			t.Fatal(kept)
		}
	}
	if left > many*2500 {
		t.Fatal(left / many)
	}
}
