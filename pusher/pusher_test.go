package pusher_test

import (
	"bytes"
	"fmt"
	"kedge/api"
	"kedge/pusher"
	"kedge/slide"
	"maps"
	"math"
	"reflect"
	"runtime"
	"slices"
	"strconv"
	"strings"
	"testing"
)

// The numbers that the chapter names, written out, so that the tests hold whatever api says.
const (
	maxData = 64
	maxRoom = 16
	maxMod  = 65536
	maxLife = 4096
	maxWide = 64
	maxCap  = 64
)

// The errors and outcomes that the chapter names, written out.
const (
	fine      api.Errno = 0
	errArg    api.Errno = 1
	errLong   api.Errno = 2
	errFull   api.Errno = 3
	errNone   api.Errno = 4
	errNil    api.Errno = 5
	errWindow api.Errno = 220
	errMod    api.Errno = 221
	errLife   api.Errno = 222
	waiting             = 0
	confirmed           = 1
)

// settings are such as may be: windows that are narrower than the room, as wide, and wider, and numbers that are just enough, and more than that.
var settings = []api.Config{
	{W: 1, M: 5, L: 1, B: 1, Room: 1},
	{W: 1, M: 5, L: 1, B: 4, Room: 3},
	{W: 1, M: 8195, L: 4096, B: 64, Room: 16},
	{W: 2, M: 9, L: 2, B: 2, Room: 1},
	{W: 2, M: 9, L: 2, B: 4, Room: 4},
	{W: 2, M: 10, L: 2, B: 3, Room: 16},
	{W: 3, M: 13, L: 3, B: 8, Room: 2},
	{W: 3, M: 13, L: 3, B: 7, Room: 3},
	{W: 3, M: 100, L: 40, B: 1, Room: 16},
	{W: 4, M: 17, L: 4, B: 16, Room: 8},
	{W: 5, M: 65536, L: 4096, B: 5, Room: 7},
	{W: 7, M: 256, L: 9, B: 64, Room: 16},
	{W: 8, M: 33, L: 8, B: 6, Room: 16},
	{W: 15, M: 61, L: 15, B: 32, Room: 16},
	{W: 16, M: 65, L: 16, B: 9, Room: 16},
	{W: 16, M: 65, L: 16, B: 63, Room: 15},
	{W: 17, M: 69, L: 17, B: 4, Room: 16},
	{W: 32, M: 129, L: 32, B: 2, Room: 16},
	{W: 63, M: 253, L: 63, B: 12, Room: 9},
	{W: 64, M: 257, L: 64, B: 48, Room: 16},
	{W: 64, M: 8321, L: 4096, B: 64, Room: 16},
	{W: 64, M: 65536, L: 64, B: 8, Room: 5},
}

// far are ints far outside of all bounds; among them such as may be, if they are cut short or have no sign.
var far = []int{
	-1, -2, -16, -64, -255, -256, -65536, -65537, -1 << 31, -1 << 32, 1 - 1<<32, 4 - 1<<32, -1 << 62, 1 - 1<<62, math.MinInt, math.MinInt + 1, math.MinInt + 4,
	65537, 1 << 17, 1<<31 - 1, 1 << 31, 1<<32 - 1, 1 << 32, 1<<32 + 1, 1<<32 + 4, 1<<32 + 64, 1 << 60, 1 << 62, 1<<62 + 1, math.MaxInt - 1, math.MaxInt,
}

// dues are the ticks behind its being sent at which a place is sent again, of each B that stands here, reckoned by hand.
var dues = map[int][]int{
	1:  {1, 2, 3, 4, 5, 6, 7, 8},
	2:  {1, 3, 5, 7, 9, 11, 13},
	3:  {1, 3, 6, 9, 12, 15, 18},
	4:  {1, 3, 7, 11, 15, 19, 23},
	5:  {1, 3, 7, 12, 17, 22, 27},
	7:  {1, 3, 7, 14, 21, 28, 35},
	8:  {1, 3, 7, 15, 23, 31, 39},
	9:  {1, 3, 7, 15, 24, 33, 42},
	16: {1, 3, 7, 15, 31, 47, 63},
	17: {1, 3, 7, 15, 31, 48, 65},
	33: {1, 3, 7, 15, 31, 63, 96, 129},
	63: {1, 3, 7, 15, 31, 63, 126, 189},
	64: {1, 3, 7, 15, 31, 63, 127, 191, 255},
}

// due is whether a timer with that cap is due so many ticks behind its being set.
func due(cap, since int) bool {
	at, span := 1, 1
	for at < since {
		if span += span; span > cap {
			span = cap
		}
		at += span
	}
	return at == since
}

// twin is a pusher, and beside it what the chapter says of it, kept apart.
type twin struct {
	t          *testing.T
	p          *pusher.Pusher
	c          api.Config
	sent       []string // all that were accepted
	base, next int
	ticks      int
	since      map[int]int // of each place that has a timer, how many ticks there were when it was set
}

// opened is a pusher without messages.
func opened(t *testing.T, c api.Config) *twin {
	t.Helper()
	p, e := pusher.New(c)
	if p == nil || e != fine {
		t.Fatalf("New(%+v) = %v, %d", c, p, e)
	}
	w := &twin{t: t, p: p, c: c, since: map[int]int{}}
	w.holds()
	return w
}

// at is what a place is sent as.
func (w *twin) at(place int) api.Slide {
	return api.Slide{Seq: place % w.c.M, Data: []byte(w.sent[place])}
}

// goes is what goes on.
func (w *twin) goes() []api.Slide {
	var l []api.Slide
	for ; w.next < len(w.sent) && w.next-w.base < w.c.W; w.next++ {
		l = append(l, w.at(w.next))
		w.since[w.next] = w.ticks
	}
	return l
}

// send sends, and is kept; it answers what was told.
func (w *twin) send(m []byte) string {
	w.t.Helper()
	id, want := len(w.sent), fine
	var l []api.Slide
	switch {
	case len(m) > maxData:
		id, want = 0, errLong
	case len(w.sent)-w.base == w.c.Room:
		id, want = 0, errFull
	default:
		w.sent = append(w.sent, string(m))
		l = w.goes()
	}
	got, out, e := w.p.Send(m)
	if got != id || e != want {
		w.t.Fatalf("Send(%q) = %d, %d, not %d, %d", m, got, e, id, want)
	}
	return w.are(out, l, "Send", m)
}

// texts sends texts, one behind the other.
func (w *twin) texts(l ...string) {
	w.t.Helper()
	for _, s := range l {
		w.send([]byte(s))
	}
}

// some sends n messages, each another one.
func (w *twin) some(n int) {
	w.t.Helper()
	for range n {
		w.send(fmt.Appendf(nil, "m%d", len(w.sent)))
	}
}

// tick ticks, and is kept; it answers what was told.
func (w *twin) tick() string {
	w.t.Helper()
	w.ticks++
	var l []api.Slide
	for place := w.base; place < w.next; place++ {
		if at, ok := w.since[place]; ok && due(w.c.B, w.ticks-at) {
			l = append(l, w.at(place))
		}
	}
	return w.are(w.p.Tick(), l, "Tick")
}

// near is the place that a number tells, from base on, or -1.
func (w *twin) near(seq int) int {
	for place := w.base; place <= w.base+w.c.W; place++ {
		if place%w.c.M == seq {
			return place
		}
	}
	return -1
}

// take hands in a packet, and is kept; it answers what was told.
func (w *twin) take(s api.Slide) string {
	w.t.Helper()
	var l []api.Slide
	if q := w.near(s.Seq); s.Ack && q >= 0 && q <= w.next {
		w.base = q
		maps.DeleteFunc(w.since, func(place, _ int) bool { return place < q })
		if _, ok := w.since[q]; !ok && q < w.next {
			w.since[q] = w.ticks
		}
		for i, bit := 0, uint64(1); i < 64; i, bit = i+1, bit*2 {
			if i != 0 && s.Bits/bit%2 == 1 && q+i < w.next {
				delete(w.since, q+i)
			}
		}
		l = w.goes()
	}
	return w.are(w.p.Take(s), l, "Take", s)
}

// ack hands in an Ack of a place.
func (w *twin) ack(place int, bits uint64) string {
	w.t.Helper()
	return w.take(api.Slide{Ack: true, Seq: ((place % w.c.M) + w.c.M) % w.c.M, Bits: bits})
}

// are fails the test if these packets aren't those; what was told is spoilt then.
func (w *twin) are(got, want []api.Slide, what ...any) string {
	w.t.Helper()
	text := told(got)
	if text != told(want) {
		w.t.Fatalf("%+v, %v: %s, not %s", w.c, what, text, told(want))
	}
	spoil(got)
	return text
}

// poll fails the test if Poll doesn't tell what is kept.
func (w *twin) poll(id int) {
	w.t.Helper()
	outcome, want := waiting, fine
	switch {
	case id < 0 || id >= len(w.sent):
		want = errNone
	case id < w.base:
		outcome = confirmed
	}
	if got, e := w.p.Poll(id); got != outcome || e != want {
		w.t.Fatalf("%+v: Poll(%d) = %d, %d, not %d, %d", w.c, id, got, e, outcome, want)
	}
}

// timers are the places that have timers, rising.
func (w *twin) timers() []int {
	return slices.Sorted(maps.Keys(w.since))
}

// holds fails the test if the pusher isn't what is kept.
func (w *twin) holds() {
	w.t.Helper()
	if got, want := w.p.State(), (pusher.State{Accepted: len(w.sent), Base: w.base, Next: w.next}); got != want {
		w.t.Fatalf("%+v: State() = %v, not %v", w.c, got, want)
	}
	got := w.p.Timers()
	if !slices.Equal(got, w.timers()) {
		w.t.Fatalf("%+v: Timers() = %v, not %v", w.c, got, w.timers())
	}
	for i := range got[:cap(got)] {
		got[:cap(got)][i] = -7
	}
	n := len(w.sent)
	for _, id := range []int{-1, 0, w.base - 1, w.base, w.next - 1, w.next, n - 1, n, n + 1, math.MinInt, math.MaxInt} {
		w.poll(id)
	}
}

// told is packets as a text: all that each has.
func told(l []api.Slide) string {
	var s []string
	for _, x := range l {
		if x.Ack || x.Bits != 0 {
			s = append(s, fmt.Sprintf("ack %t bits %d", x.Ack, x.Bits))
		}
		s = append(s, strconv.Itoa(x.Seq)+" "+strconv.Quote(string(x.Data)))
	}
	return strings.Join(s, ", ")
}

// drawn answers a function that tells numbers that look like noise, below n, the same ones in each run.
func drawn(begin int) func(n int) int {
	x := uint64(begin)
	return func(n int) int {
		x = x*6364136223846793005 + 1442695040888963407
		return int(x>>33) % n
	}
}

// noise is n bytes that look like noise.
func noise(begin, n int) []byte {
	next := drawn(begin)
	b := make([]byte, n)
	for i := range b {
		b[i] = byte(next(256))
	}
	return b
}

// messages are each another one: none, few bytes, such as mean something to other layers, and all lengths up to the longest.
func messages() [][]byte {
	l := [][]byte{nil, {0}, {0, 0}, {0, 'a'}, []byte("a"), []byte("a\x00"), {0x7e}, {0x7d}, {0xff}, {0xc0, 0x80}}
	for n := 1; n <= maxData; n++ {
		l = append(l, noise(n, n))
	}
	return l
}

// overwrite puts other bytes in all of b's memory, up to its capacity.
func overwrite(b []byte) {
	b = b[:cap(b)]
	for i := range b {
		b[i] = ^b[i]
	}
}

// spoil writes, cuts and grows what was told, and the Data in it.
func spoil(l []api.Slide) {
	all := l[:cap(l)]
	for i := range all {
		overwrite(all[i].Data)
		_ = append(all[i].Data[:len(all[i].Data)/2], "written"...)
		_ = append(all[i].Data, "more"...)
		all[i].Seq, all[i].Bits, all[i].Ack, all[i].Data = -5, 5, true, nil
	}
	_ = append(l[:len(l)/2], api.Slide{Seq: 3})
	_ = append(l, api.Slide{Seq: 4}, api.Slide{Seq: 5})
}

func TestExample(t *testing.T) { // P24.1 to P24.4
	p, e := pusher.New(api.Config{W: 1, M: 5, L: 1, B: 1, Room: 2})
	if e != fine {
		t.Fatal(e)
	}
	id, l, e := p.Send([]byte("a"))
	if id != 0 || e != fine || told(l) != `0 "a"` {
		t.Fatal(id, told(l), e)
	}
	id, l, e = p.Send([]byte("b"))
	if id != 1 || e != fine || len(l) != 0 {
		t.Fatal(id, told(l), e)
	}
	if l := p.Take(api.Slide{Ack: true, Seq: 1}); told(l) != `1 "b"` {
		t.Fatal(told(l))
	}
}

func TestTheNumbersOfApi(t *testing.T) { // P24.1, P24.3
	for i, so := range []bool{
		api.OK == fine, api.ErrArg == errArg, api.ErrLong == errLong, api.ErrFull == errFull, api.ErrNone == errNone, api.ErrNil == errNil,
		api.ErrWindow == errWindow, api.ErrMod == errMod, api.ErrLife == errLife, api.Waiting == waiting, api.Confirmed == confirmed,
		api.MaxData == maxData, api.MaxRoom == maxRoom, api.MaxMod == maxMod, api.MaxLife == maxLife, api.MaxWide == maxWide, api.MaxCap == maxCap,
	} {
		if !so {
			t.Error(i)
		}
	}
}

// Each act, what it told, and what State and Timers tell behind it.
func TestWrittenOut(t *testing.T) { // P24.1 to P24.4
	p, _ := pusher.New(api.Config{W: 2, M: 9, L: 2, B: 4, Room: 4})
	for i, c := range []struct {
		act    string
		seq    int
		bits   uint64
		told   string
		state  pusher.State
		timers []int
	}{
		{"tick", 0, 0, ``, pusher.State{}, nil},
		{"ack", 0, 255, ``, pusher.State{}, nil},
		{"ack", 1, 0, ``, pusher.State{}, nil},
		{"a", 0, 0, `0 "a"`, pusher.State{Accepted: 1, Next: 1}, []int{0}},
		{"tick", 0, 0, `0 "a"`, pusher.State{Accepted: 1, Next: 1}, []int{0}},
		{"b", 0, 0, `1 "b"`, pusher.State{Accepted: 2, Next: 2}, []int{0, 1}},
		{"tick", 0, 0, `1 "b"`, pusher.State{Accepted: 2, Next: 2}, []int{0, 1}},
		{"tick", 0, 0, `0 "a"`, pusher.State{Accepted: 2, Next: 2}, []int{0, 1}},
		{"c", 0, 0, ``, pusher.State{Accepted: 3, Next: 2}, []int{0, 1}},
		{"ack", 0, 2, ``, pusher.State{Accepted: 3, Next: 2}, []int{0}},
		{"d", 0, 0, ``, pusher.State{Accepted: 4, Next: 2}, []int{0}},
		{"full", 0, 0, ``, pusher.State{Accepted: 4, Next: 2}, []int{0}},
		{"tick", 0, 0, ``, pusher.State{Accepted: 4, Next: 2}, []int{0}},
		{"ack", 1, 0, `2 "c"`, pusher.State{Accepted: 4, Base: 1, Next: 3}, []int{1, 2}},
		{"tick", 0, 0, `1 "b", 2 "c"`, pusher.State{Accepted: 4, Base: 1, Next: 3}, []int{1, 2}},
		{"ack", 0, 0, ``, pusher.State{Accepted: 4, Base: 1, Next: 3}, []int{1, 2}},
		{"ack", 3, 0, `3 "d"`, pusher.State{Accepted: 4, Base: 3, Next: 4}, []int{3}},
		{"e", 0, 0, `4 "e"`, pusher.State{Accepted: 5, Base: 3, Next: 5}, []int{3, 4}},
		{"f", 0, 0, ``, pusher.State{Accepted: 6, Base: 3, Next: 5}, []int{3, 4}},
		{"g", 0, 0, ``, pusher.State{Accepted: 7, Base: 3, Next: 5}, []int{3, 4}},
		{"ack", 5, 0, `5 "f", 6 "g"`, pusher.State{Accepted: 7, Base: 5, Next: 7}, []int{5, 6}},
		{"ack", 7, 0, ``, pusher.State{Accepted: 7, Base: 7, Next: 7}, nil},
		{"h", 0, 0, `7 "h"`, pusher.State{Accepted: 8, Base: 7, Next: 8}, []int{7}},
		{"ack", 8, 0, ``, pusher.State{Accepted: 8, Base: 8, Next: 8}, nil},
		{"i", 0, 0, `8 "i"`, pusher.State{Accepted: 9, Base: 8, Next: 9}, []int{8}},
		{"j", 0, 0, `0 "j"`, pusher.State{Accepted: 10, Base: 8, Next: 10}, []int{8, 9}},
		{"tick", 0, 0, `8 "i", 0 "j"`, pusher.State{Accepted: 10, Base: 8, Next: 10}, []int{8, 9}},
		{"ack", 1, 0, ``, pusher.State{Accepted: 10, Base: 10, Next: 10}, nil},
		{"tick", 0, 0, ``, pusher.State{Accepted: 10, Base: 10, Next: 10}, nil},
	} {
		var l []api.Slide
		switch c.act {
		case "tick":
			l = p.Tick()
		case "ack":
			l = p.Take(api.Slide{Ack: true, Seq: c.seq, Bits: c.bits})
		case "full":
			id, out, e := p.Send([]byte("x"))
			if id != 0 || e != errFull {
				t.Fatal(i, id, e)
			}
			l = out
		default:
			id, out, e := p.Send([]byte(c.act))
			if id != c.state.Accepted-1 || e != fine {
				t.Fatal(i, id, e)
			}
			l = out
		}
		if told(l) != c.told || p.State() != c.state || !slices.Equal(p.Timers(), c.timers) {
			t.Fatal(i, told(l), p.State(), p.Timers())
		}
	}
}

// may is what New should tell.
func may(c api.Config) api.Errno {
	switch {
	case c.L <= 0 || c.L >= 4097:
		return errLife
	case c.W <= 0 || c.W >= 65 || c.W > c.L:
		return errWindow
	case c.M >= 65537 || c.M <= 2*c.W+2*c.L:
		return errMod
	case c.B <= 0 || c.B >= 65 || c.Room <= 0 || c.Room >= 17:
		return errArg
	}
	return fine
}

// news fails the test if New doesn't tell what it should, or answers something with an error.
func news(t *testing.T, c api.Config) {
	t.Helper()
	p, e := pusher.New(c)
	if want := may(c); e != want || (p != nil) != (want == fine) {
		t.Fatalf("New(%+v) = %v, %d, not %d", c, p, e, want)
	}
}

func TestNewWrittenOut(t *testing.T) { // P24.1
	for _, c := range []struct {
		w, m, l, b, room int
		want             api.Errno
	}{
		{1, 5, 1, 1, 1, fine},
		{1, 4, 1, 1, 1, errMod},
		{1, 65536, 1, 64, 16, fine},
		{1, 65537, 1, 64, 16, errMod},
		{0, 5, 1, 1, 1, errWindow},
		{-1, 5, 1, 1, 1, errWindow},
		{2, 9, 1, 1, 1, errWindow},
		{2, 9, 2, 1, 1, fine},
		{64, 257, 64, 1, 1, fine},
		{64, 256, 64, 1, 1, errMod},
		{65, 65536, 65, 1, 1, errWindow},
		{64, 8321, 4096, 1, 1, fine},
		{64, 8320, 4096, 1, 1, errMod},
		{1, 65536, 4097, 1, 1, errLife},
		{1, 65536, 0, 1, 1, errLife},
		{1, 65536, -1, 1, 1, errLife},
		{1, 5, 1, 0, 1, errArg},
		{1, 5, 1, -1, 1, errArg},
		{1, 5, 1, 64, 1, fine},
		{1, 5, 1, 65, 1, errArg},
		{1, 5, 1, 1, 0, errArg},
		{1, 5, 1, 1, -1, errArg},
		{1, 5, 1, 1, 16, fine},
		{1, 5, 1, 1, 17, errArg},
		{0, 0, 0, 0, 0, errLife},
		{0, 0, 1, 0, 0, errWindow},
		{1, 0, 1, 0, 0, errMod},
		{1, 5, 1, 0, 0, errArg},
		{1, 4, 1, 0, 17, errMod},
		{2, 4, 1, 65, 17, errWindow},
		{2, 4, 0, 65, 17, errLife},
	} {
		p, e := pusher.New(api.Config{W: c.w, M: c.m, L: c.l, B: c.b, Room: c.room})
		if e != c.want || (p != nil) != (c.want == fine) {
			t.Errorf("%+v: %v, %d", c, p, e)
		}
	}
}

// Each number about its bounds, and far from them, with all others as they may be, and with one another.
func TestNew(t *testing.T) { // P24.1, rules 1 and 2
	for _, c := range settings {
		for _, n := range slices.Concat(far, []int{0, 1, 2, 3, 4, 5, 15, 16, 17, 18, 63, 64, 65, 66, 4095, 4096, 4097, 65535, 65536, 2*c.W + 2*c.L, 2*c.W + 2*c.L + 1, c.L, c.L + 1, c.W - 1}) {
			w, m, l, b, room := c, c, c, c, c
			w.W, m.M, l.L, b.B, room.Room = n, n, n, n, n
			for _, x := range []api.Config{w, m, l, b, room} {
				news(t, x)
			}
		}
	}
	for w := -1; w <= 4; w++ {
		for m := -1; m <= 18; m++ {
			for l := -1; l <= 4; l++ {
				for _, b := range []int{-1, 0, 1, 64, 65} {
					for _, room := range []int{-1, 0, 1, 16, 17} {
						news(t, api.Config{W: w, M: m, L: l, B: b, Room: room})
					}
				}
			}
		}
	}
	few := []int{math.MinInt, -1, 0, 1, 2, 16, 17, 64, 65, 300, 4096, 4097, 65536, 65537, 1<<32 + 1, math.MaxInt}
	for i := range len(few) * len(few) * len(few) * len(few) * len(few) {
		at := func() int { x := few[i%len(few)]; i /= len(few); return x }
		news(t, api.Config{W: at(), M: at(), L: at(), B: at(), Room: at()})
	}
}

// Each room and each cap that there are; there are no messages at first.
func TestNewIsEmpty(t *testing.T) { // P24.1
	for room := 1; room <= maxRoom; room++ {
		for b := 1; b <= maxCap; b++ {
			w := opened(t, api.Config{W: 2, M: 9, L: 2, B: b, Room: room})
			if w.p.State() != (pusher.State{}) || len(w.p.Timers()) != 0 || w.tick() != "" || w.ack(0, math.MaxUint64) != "" {
				t.Fatal(room, b)
			}
			w.holds()
		}
	}
}

// With an error New answers no pusher that could be used as one.
func TestNewWithAnError(t *testing.T) { // P24.1, rules 1 and 2
	good := api.Config{W: 2, M: 9, L: 2, B: 4, Room: 4}
	bad := []api.Config{{}}
	for _, n := range []int{0, -1, 70000} {
		w, m, l, b, room := good, good, good, good, good
		w.W, m.M, l.L, b.B, room.Room = n, n, n, n, n
		bad = append(bad, w, m, l, b, room)
	}
	for _, c := range bad {
		p, e := pusher.New(c)
		if e == fine || p != nil {
			t.Fatalf("New(%+v) = %v, %d", c, p, e)
		}
		nothing(t, p)
	}
}

// Which engine is asked for, and how many questions are open at first, are others' concern.
func TestNewOfOtherFields(t *testing.T) { // P24.1
	for _, engine := range slices.Concat(far, []int{0, 1, 2, 3, 4}) {
		for _, begin := range []uint64{0, 1, 1 << 63, math.MaxUint64} {
			w := opened(t, api.Config{Engine: engine, W: 2, M: 9, L: 2, B: 4, Room: 4, Begin: begin})
			w.texts("a", "b", "c")
			w.ack(1, 0)
			w.holds()
			news(t, api.Config{Engine: engine, W: 2, M: 8, L: 2, B: 4, Room: 4, Begin: begin})
		}
	}
}

// Each message is sent as it is, at first and again, with the number of its place.
func TestEachMessage(t *testing.T) { // P24.1, P24.3
	w := opened(t, api.Config{W: 1, M: 5, L: 1, B: 1, Room: 1})
	for i, m := range messages() {
		want := fmt.Sprintf("%d %q", i%5, m)
		if got := w.send(m); got != want {
			t.Fatal(got, want)
		}
		for range 3 {
			if got := w.tick(); got != want {
				t.Fatal(got, want)
			}
		}
		w.ack(i+1, 0)
		w.holds()
	}
}

// A message of no byte is one, whether it is nil or empty.
func TestNoByte(t *testing.T) { // P24.3, rule 3
	w := opened(t, api.Config{W: 2, M: 9, L: 2, B: 4, Room: 3})
	for i, m := range [][]byte{nil, {}, make([]byte, 0, 9)} {
		l := w.send(m)
		if i < 2 && l != fmt.Sprintf(`%d ""`, i) || i == 2 && l != "" {
			t.Fatal(i, l)
		}
		w.holds()
	}
	w.send(nil)
	w.send([]byte{})
	if w.p.State().Accepted != 3 || w.tick() != `0 "", 1 ""` || w.ack(2, 0) != `2 ""` {
		t.Fatal(w.p.State())
	}
}

// The longest message is taken, and a longer one is not, whether there is room or none; nothing changes by one that is refused.
func TestWhichErrorOfSend(t *testing.T) { // P24.3, rule 2
	for _, c := range settings {
		w := opened(t, c)
		for i := range c.Room {
			for _, n := range []int{maxData + 1, maxData + 2, 127, 128, 256, 320, 4096, 65536, 65600} {
				if id, l, e := w.p.Send(noise(n, n)); id != 0 || len(l) != 0 || e != errLong {
					t.Fatal(i, n, id, l, e)
				}
				w.holds()
			}
			w.send(noise(i, maxData-i%3))
			w.holds()
		}
		for _, n := range []int{0, 1, maxData - 1, maxData} {
			if id, l, e := w.p.Send(noise(n, n)); id != 0 || len(l) != 0 || e != errFull {
				t.Fatal(n, id, l, e)
			}
			w.holds()
		}
		if id, l, e := w.p.Send(make([]byte, maxData+1)); id != 0 || len(l) != 0 || e != errLong {
			t.Fatal(id, l, e)
		}
		for range 8 {
			w.tick()
			w.holds()
		}
	}
}

// Room is for what is not below Base: each place that is there makes room for one more, and no Bits do.
func TestRoom(t *testing.T) { // P24.3
	for _, c := range settings {
		w := opened(t, c)
		w.some(c.Room + 2)
		if len(w.sent) != c.Room {
			t.Fatal(c, len(w.sent))
		}
		w.ack(0, math.MaxUint64)
		if _, _, e := w.p.Send(nil); e != errFull {
			t.Fatal(c, e)
		}
		for place := 1; place <= 3*c.Room; place++ {
			w.ack(place, 0)
			if _, _, e := w.p.Send(make([]byte, maxData+1)); e != errLong {
				t.Fatal(c, e)
			}
			w.some(1)
			if _, _, e := w.p.Send(nil); e != errFull || len(w.sent) != c.Room+place {
				t.Fatal(c, e, len(w.sent))
			}
			w.holds()
		}
		all := min(c.W, c.Room)
		w.ack(w.base+all, 0)
		w.some(c.Room)
		if len(w.sent) != 4*c.Room+all {
			t.Fatal(c, len(w.sent), all)
		}
		w.holds()
	}
}

// While the window is open a message is sent at once, and else it is not.
func TestSentAtOnce(t *testing.T) { // P24.2, P24.3
	for _, c := range settings {
		w := opened(t, c)
		for round := range 3 {
			for i := range c.Room {
				place := w.base + i
				want := ""
				if i < c.W {
					want = fmt.Sprintf(`%d "m%d"`, place%c.M, place)
				}
				if got := w.send(fmt.Appendf(nil, "m%d", place)); got != want {
					t.Fatal(c, round, place, got, want)
				}
				w.holds()
			}
			for w.base < len(w.sent) {
				w.ack(w.next, 0)
			}
			w.holds()
		}
	}
}

// One at a time, in each window: the first one that the window has no room for is sent as soon as one is there.
func TestWindow(t *testing.T) { // P24.2, P24.4, P24.5
	for wide := 1; wide <= maxWide; wide++ {
		w := opened(t, api.Config{W: wide, M: 2*wide + 2*64 + 1, L: 64, B: 2, Room: maxRoom})
		w.some(maxRoom)
		first := min(wide, maxRoom)
		if s := w.p.State(); s.Next != first {
			t.Fatal(wide, s)
		}
		for place := range maxRoom {
			want := ""
			if next := place + wide; next < maxRoom {
				want = fmt.Sprintf(`%d "m%d"`, next, next)
			}
			if got := w.ack(place+1, 0); got != want {
				t.Fatal(wide, place, got, want)
			}
			w.holds()
		}
	}
}

// Many messages, so that numbers begin anew, and each outcome is told.
func TestManyMessages(t *testing.T) { // P24.1 to P24.4
	for _, c := range settings {
		w := opened(t, c)
		for i := range 3*min(c.M, 700) + 5 {
			if got, want := w.send([]byte{byte(i)}), fmt.Sprintf("%d %q", i%c.M, []byte{byte(i)}); got != want {
				t.Fatal(c, i, got, want)
			}
			if i%2 == 1 || c.Room == 1 || c.W == 1 {
				w.ack(i+1, 0)
			}
			if i%16 == 0 {
				w.holds()
			}
		}
		for id := range len(w.sent) {
			w.poll(id)
		}
	}
}

// As many as there are numbers at most, and more, each by its number.
func TestNumbersBeginAnew(t *testing.T) { // P24.1, P24.4
	for _, m := range []int{5, 6, 255, 256, 257, 65535, 65536} {
		p, _ := pusher.New(api.Config{W: 1, M: m, L: 1, B: 1, Room: 1})
		for place := range 2*m + 7 {
			id, l, e := p.Send(nil)
			if id != place || e != fine || len(l) != 1 || l[0].Seq != place%m {
				t.Fatal(m, id, l, e)
			}
			seq := place%m + 1
			if seq == m {
				seq = 0
			}
			if p.Take(api.Slide{Ack: true, Seq: seq}); p.State().Base != place+1 {
				t.Fatal(m, place, p.State())
			}
		}
	}
}

// Each place that was accepted, those about Base, and such as were not.
func TestPoll(t *testing.T) { // P24.3
	for _, c := range settings {
		w := opened(t, c)
		all := func() {
			t.Helper()
			for id := -3; id < len(w.sent)+4; id++ {
				w.poll(id)
			}
			for _, id := range far {
				w.poll(id)
			}
		}
		all()
		for range 4 {
			w.some(c.Room)
			all()
			w.ack(w.base, math.MaxUint64) // told by Bits is not below Base
			all()
			w.ack(w.base+1, 0)
			all()
			w.ack(w.next, 0)
			all()
		}
	}
	p, _ := pusher.New(settings[4])
	for i, c := range []struct {
		id, outcome int
		e           api.Errno
	}{{0, waiting, fine}, {1, waiting, fine}, {2, waiting, fine}, {3, 0, errNone}, {-1, 0, errNone}, {math.MinInt, 0, errNone}, {math.MaxInt, 0, errNone}} {
		if i == 0 {
			p.Send(nil)
			p.Send(nil)
			p.Send(nil)
		}
		if o, e := p.Poll(c.id); o != c.outcome || e != c.e {
			t.Fatal(c, o, e)
		}
	}
	p.Take(api.Slide{Ack: true, Seq: 1})
	for id, want := range []int{confirmed, waiting, waiting} {
		if o, e := p.Poll(id); o != want || e != fine {
			t.Fatal(id, o, e)
		}
	}
}

// Asking how it stands changes nothing.
func TestAskingChangesNothing(t *testing.T) { // P24.3, P24.4
	w := opened(t, settings[9])
	w.some(6)
	for range 40 {
		w.holds()
	}
	for range 20 {
		w.tick()
		for range 5 {
			w.holds()
		}
	}
	w.ack(2, 4)
	w.holds()
}

// Where nothing was sent, or all is there, no tick sends.
func TestTickOfNothing(t *testing.T) { // P24.3
	for _, c := range settings {
		w := opened(t, c)
		for range 200 {
			if w.tick() != "" {
				t.Fatal(c)
			}
		}
		w.some(c.Room)
		for w.base < len(w.sent) {
			w.tick()
			w.ack(w.next, 0)
		}
		for range 200 {
			if w.tick() != "" {
				t.Fatal(c)
			}
		}
		w.holds()
	}
}

// again is the ticks, of so many, at which that is sent again, and nothing else is.
func again(t *testing.T, p *pusher.Pusher, text string, ticks int) []int {
	t.Helper()
	var at []int
	for i := 1; i <= ticks; i++ {
		switch l := told(p.Tick()); l {
		case text:
			at = append(at, i)
		case "":
		default:
			t.Fatal(i, l)
		}
	}
	return at
}

// The ticks at which a place is sent again, by hand: of the first one, and of one that was sent later than it was accepted.
func TestSpans(t *testing.T) { // P24.3
	for b, want := range dues {
		last := want[len(want)-1]
		p, _ := pusher.New(api.Config{W: 1, M: 5, L: 1, B: b, Room: 2})
		p.Send([]byte("early"))
		p.Send([]byte("late"))
		if at := again(t, p, `0 "early"`, last); !slices.Equal(at, want) {
			t.Fatal(b, at)
		}
		p.Take(api.Slide{Ack: true, Seq: 1})
		if at := again(t, p, `1 "late"`, last); !slices.Equal(at, want) {
			t.Fatal(b, at)
		}
	}
}

// Each cap: the spans are 1, 2, 4 and so on, and at last the cap.
func TestEachCap(t *testing.T) { // P24.3
	for b := 1; b <= maxCap; b++ {
		p, _ := pusher.New(api.Config{W: 1, M: 5, L: 1, B: b, Room: 1})
		p.Send(nil)
		at, span := 1, 1
		var want []int
		for at <= 400 {
			want = append(want, at)
			span = min(span+span, b)
			at += span
		}
		if got := again(t, p, `0 ""`, 400); !slices.Equal(got, want) {
			t.Fatal(b, got, want)
		}
	}
}

// Several that are due at once are sent again in the order of their places, which is not that of their numbers where these begin anew.
func TestTickOfSeveral(t *testing.T) { // P24.3
	for begin := range 60 {
		w := opened(t, api.Config{W: 4, M: 17, L: 4, B: 4, Room: 4})
		for range begin {
			w.some(1)
			w.ack(w.next, 0)
		}
		w.some(4)
		var want []string
		for place := begin; place < begin+4; place++ {
			want = append(want, fmt.Sprintf(`%d "m%d"`, place%17, place))
		}
		for _, some := range [][]string{want, nil, want, nil, nil, nil, want} {
			if got := w.tick(); got != strings.Join(some, ", ") {
				t.Fatal(begin, got, some)
			}
		}
	}
}

// Places that were sent at other ticks are due at other ticks, each by its own span.
func TestTickOfEachByItsOwn(t *testing.T) { // P24.3
	p, _ := pusher.New(api.Config{W: 3, M: 13, L: 3, B: 4, Room: 3})
	for i, want := range []string{
		`0 "0"`, `1 "1"`, `0 "0", 2 "2"`, `1 "1"`, `2 "2"`, ``, `0 "0"`, `1 "1"`, `2 "2"`, ``, `0 "0"`, `1 "1"`, `2 "2"`,
	} {
		if i < 3 {
			p.Send(fmt.Appendf(nil, "%d", i))
		}
		if got := told(p.Tick()); got != want {
			t.Fatal(i, got, want)
		}
	}
}

// What is not told by Bits is sent again, and what is told is not; whichever bits.
func TestTickOfWhatIsNotTold(t *testing.T) { // P24.3, P24.4
	for bits := range uint64(64) {
		w := opened(t, api.Config{W: 5, M: 21, L: 5, B: 4, Room: 6})
		w.some(6)
		if l := w.ack(0, bits); l != "" {
			t.Fatal(bits, l)
		}
		want := []string{`0 "m0"`}
		for i := 1; i < 5; i++ {
			if bits>>i&1 == 0 {
				want = append(want, fmt.Sprintf(`%d "m%d"`, i, i))
			}
		}
		for _, some := range [][]string{want, nil, want, nil, nil, nil, want} {
			if got := w.tick(); got != strings.Join(some, ", ") {
				t.Fatal(bits, got, some)
			}
			w.holds()
		}
	}
}

// What is no Ack is nothing, whatever else it has.
func TestTakeOfNoAck(t *testing.T) { // P24.4
	for _, c := range settings {
		w := opened(t, c)
		for range 3 {
			w.some(c.Room)
			for seq := w.base - 2; seq < w.base+c.W+3; seq++ {
				for _, bits := range []uint64{0, 1, 2, math.MaxUint64} {
					for _, data := range [][]byte{nil, []byte("a")} {
						if l := w.take(api.Slide{Seq: seq % c.M, Bits: bits, Data: data}); l != "" {
							t.Fatal(c, seq, l)
						}
						w.holds()
					}
				}
			}
			w.tick()
			w.ack(w.base+1, 0)
		}
	}
}

// An Ack's Data says nothing.
func TestTakeOfAnAckWithData(t *testing.T) { // P24.4
	for _, data := range messages() {
		w := opened(t, settings[4])
		w.some(4)
		if l := w.take(api.Slide{Ack: true, Seq: 1, Data: data}); l != `2 "m2"` {
			t.Fatal(l)
		}
		w.holds()
	}
}

// Which numbers are taken, written out: of five places from Base on, of which four were sent, or fewer.
func TestTakeOfEachNumber(t *testing.T) { // P24.4
	open := func(base, n int) *twin {
		w := opened(t, api.Config{W: 4, M: 17, L: 4, B: 4, Room: 8})
		for range base {
			w.some(1)
			w.ack(w.next, 0)
		}
		w.some(n)
		w.tick()
		w.tick()
		return w
	}
	for _, base := range []int{0, 1, 3, 12, 13, 14, 15, 16, 17, 18, 33, 34, 40} {
		for n := range 9 {
			for seq := -20; seq < 60; seq++ {
				w := open(base, n)
				was := w.p.State()
				ahead := 0 // of Base by so many
				for ahead < 17 && (base+ahead)%17 != seq {
					ahead++
				}
				l := w.take(api.Slide{Ack: true, Seq: seq})
				moved := 0
				if ahead <= min(n, 4) {
					moved = ahead
				}
				first := min(n, 4+moved) - min(n, 4)
				if s := w.p.State(); s.Base != base+moved || s.Next != was.Next+first || s.Accepted != base+n {
					t.Fatal(base, n, seq, s)
				}
				if told := strings.Count(l, "m"); told != first {
					t.Fatal(base, n, seq, l)
				}
				w.holds()
				for range 5 {
					w.tick()
				}
				w.holds()
			}
			w := open(base, n)
			for _, seq := range far {
				if l := w.take(api.Slide{Ack: true, Seq: seq, Bits: math.MaxUint64}); l != "" {
					t.Fatal(seq, l)
				}
			}
			w.holds()
			for range 5 {
				w.tick()
			}
		}
	}
}

// Of each setting: the places about Base, by their numbers, and all of these with M added and taken away.
func TestTakeAboutBase(t *testing.T) { // P24.4
	for _, c := range settings {
		for _, n := range []int{0, 1, c.W - 1, c.W, c.W + 1, c.Room} {
			for by := -c.W - c.L%70 - 1; by <= 2*c.W+2; by++ {
				for _, add := range []int{0, c.M, -c.M, 1 << 32, -1 << 32} {
					w := opened(t, c)
					w.some(1)
					w.ack(1, 0)
					w.some(n)
					w.take(api.Slide{Ack: true, Seq: (1+by+c.M)%c.M + add, Bits: 6})
					w.holds()
					w.tick()
				}
			}
		}
	}
}

// An Ack of Base, of the last that was sent, of one below Base, of what was not sent, and each of these twice.
func TestTakeWrittenOut(t *testing.T) { // P24.4
	for i, c := range []struct {
		n, seq, base int
		told         string
		timers       []int
	}{
		{6, 3, 3, ``, []int{3, 4, 5, 6}},
		{6, 4, 4, `7 "m7"`, []int{4, 5, 6, 7}},
		{6, 5, 5, `7 "m7", 8 "m8"`, []int{5, 6, 7, 8}},
		{6, 7, 7, `7 "m7", 8 "m8"`, []int{7, 8}},
		{6, 8, 3, ``, []int{3, 4, 5, 6}},
		{6, 2, 3, ``, []int{3, 4, 5, 6}},
		{6, 0, 3, ``, []int{3, 4, 5, 6}},
		{6, 16, 3, ``, []int{3, 4, 5, 6}},
		{6, 20, 3, ``, []int{3, 4, 5, 6}},
		{6, 21, 3, ``, []int{3, 4, 5, 6}},
		{6, -14, 3, ``, []int{3, 4, 5, 6}},
		{6, -13, 3, ``, []int{3, 4, 5, 6}},
		{2, 3, 3, ``, []int{3, 4}},
		{2, 4, 4, ``, []int{4}},
		{2, 5, 5, ``, nil},
		{2, 6, 3, ``, []int{3, 4}},
		{2, 7, 3, ``, []int{3, 4}},
		{0, 3, 3, ``, nil},
		{0, 4, 3, ``, nil},
		{0, 2, 3, ``, nil},
		{8, 7, 7, `7 "m7", 8 "m8", 9 "m9", 10 "m10"`, []int{7, 8, 9, 10}},
	} {
		w := opened(t, api.Config{W: 4, M: 17, L: 4, B: 4, Room: 8})
		w.some(3)
		w.ack(3, 0)
		w.some(c.n)
		if l := w.take(api.Slide{Ack: true, Seq: c.seq}); l != c.told {
			t.Fatal(i, l)
		}
		if w.p.State().Base != c.base || !slices.Equal(w.p.Timers(), c.timers) {
			t.Fatal(i, w.p.State(), w.p.Timers())
		}
		if l := w.take(api.Slide{Ack: true, Seq: c.seq}); l != "" {
			t.Fatal(i, l)
		}
		if w.p.State().Base != c.base || !slices.Equal(w.p.Timers(), c.timers) {
			t.Fatal(i, w.p.State(), w.p.Timers())
		}
		w.holds()
	}
}

// Each bit alone, and each with all others, with few places sent, and with many, and by an Ack that moves Base, and one that doesn't.
func TestEachBit(t *testing.T) { // P24.4
	for _, c := range settings {
		for _, n := range []int{0, 1, 2, c.Room / 2, c.Room} {
			for bit := range 64 {
				for _, bits := range []uint64{1 << bit, ^uint64(0) << bit, ^uint64(0) >> bit, ^(uint64(1) << bit)} {
					for _, by := range []int{0, n / 2} {
						w := opened(t, c)
						w.some(n)
						w.ack(by, bits)
						w.holds()
					}
				}
			}
		}
	}
}

// Each bit alone, by hand: the timer of the place that it tells is no more, but not that of Base, nor of what is not sent.
func TestEachBitAlone(t *testing.T) { // P24.4
	for bit := range 64 {
		w := opened(t, api.Config{W: 20, M: 81, L: 20, B: 4, Room: 16})
		w.some(3)
		w.ack(3, 0)
		w.some(16)
		w.ack(3, 1<<bit)
		var want []int
		for place := 3; place < 19; place++ {
			if place == 3 || place != 3+bit {
				want = append(want, place)
			}
		}
		if got := w.p.Timers(); !slices.Equal(got, want) {
			t.Fatal(bit, got)
		}
		w.ack(3, 0) // what one told another one that does not tell it takes back nothing
		if got := w.p.Timers(); !slices.Equal(got, want) {
			t.Fatal(bit, got)
		}
	}
}

// All bits at once: Base alone has a timer.
func TestAllBits(t *testing.T) { // P24.4
	for _, c := range settings {
		w := opened(t, c)
		w.some(c.Room)
		sent := w.next
		for place := range sent {
			w.ack(place, math.MaxUint64)
			want := []int{place}
			if place > 0 {
				for next := sent + place - 1; next < w.next; next++ { // sent by this Ack, so that it can't tell of it
					want = append(want, next)
				}
			}
			if got := w.p.Timers(); !slices.Equal(got, slices.Compact(want)) {
				t.Fatal(c, place, got, want)
			}
			w.holds()
		}
	}
}

// Bits of places that are not sent say nothing, then and later, when these are sent; neither do those of the places that go on by the same Ack.
func TestBitsOfWhatIsNotSent(t *testing.T) { // P24.2, P24.4
	w := opened(t, api.Config{W: 4, M: 17, L: 4, B: 4, Room: 8})
	w.some(2)
	w.ack(0, 0b1111_1100)
	w.some(1)
	if got := w.p.Timers(); !slices.Equal(got, []int{0, 1, 2}) {
		t.Fatal(got)
	}
	w.some(5)
	if l := w.ack(2, math.MaxUint64); l != `4 "m4", 5 "m5"` {
		t.Fatal(l)
	}
	if got := w.p.Timers(); !slices.Equal(got, []int{2, 4, 5}) {
		t.Fatal(got)
	}
	if l := w.tick(); l != `2 "m2", 4 "m4", 5 "m5"` {
		t.Fatal(l)
	}
	if l := w.ack(6, math.MaxUint64); l != `6 "m6", 7 "m7"` {
		t.Fatal(l)
	}
	if got := w.p.Timers(); !slices.Equal(got, []int{6, 7}) {
		t.Fatal(got)
	}
}

// A place that lost its timer by a bit has one again when it is Base: it is due at the next tick, and its spans begin anew.
func TestBaseThatLostItsTimer(t *testing.T) { // P24.4, P24.5
	for waited := range 12 {
		w := opened(t, api.Config{W: 3, M: 13, L: 3, B: 4, Room: 3})
		w.some(3)
		w.ack(0, 0b110)
		if got := w.p.Timers(); !slices.Equal(got, []int{0}) {
			t.Fatal(got)
		}
		for range waited {
			w.tick()
		}
		if l := w.ack(1, 0b10); l != "" || !slices.Equal(w.p.Timers(), []int{1}) {
			t.Fatal(l, w.p.Timers())
		}
		for i, want := range []string{`1 "m1"`, ``, `1 "m1"`, ``, ``, ``, `1 "m1"`, ``} {
			if l := w.tick(); l != want {
				t.Fatal(waited, i, l)
			}
		}
		if l := w.ack(2, 0); l != "" || !slices.Equal(w.p.Timers(), []int{2}) {
			t.Fatal(l, w.p.Timers())
		}
		if l := w.tick(); l != `2 "m2"` {
			t.Fatal(l)
		}
		w.ack(3, 0)
		w.holds()
	}
}

// A place that has its timer keeps it as it is, when it is Base, and when an Ack of Base comes again.
func TestBaseThatHasItsTimer(t *testing.T) { // P24.4
	for _, b := range []int{1, 2, 4, 7, 64} {
		for again := range 30 {
			w := opened(t, api.Config{W: 2, M: 9, L: 2, B: b, Room: 2})
			w.some(2)
			var at []int
			for i := 1; i <= 30; i++ {
				switch i - 1 {
				case again / 2:
					w.ack(1, 0)
				case again:
					w.ack(1, math.MaxUint64)
				}
				if strings.Contains(w.tick(), `1 "m1"`) {
					at = append(at, i)
				}
			}
			var want []int
			for i := 1; i <= 30; i++ {
				if due(b, i) {
					want = append(want, i)
				}
			}
			if !slices.Equal(at, want) {
				t.Fatal(b, again, at, want)
			}
		}
	}
}

// Where all that was sent is there, Base is not sent yet, and has no timer.
func TestNoTimerOfWhatIsNotSent(t *testing.T) { // P24.4, P24.5
	for _, c := range settings {
		w := opened(t, c)
		for range 20 {
			w.some(min(c.W, c.Room))
			w.ack(w.next, math.MaxUint64)
			if got := w.p.Timers(); len(got) != 0 || w.base != w.next {
				t.Fatal(c, got)
			}
			w.ack(w.base, math.MaxUint64)
			w.holds()
		}
	}
}

// As many go on behind an Ack as the window then lets, each with a timer of its own.
func TestGoesOn(t *testing.T) { // P24.2, P24.4
	for _, c := range settings {
		all := min(c.W, c.Room)
		for by := range all + 1 {
			w := opened(t, c)
			w.some(c.Room)
			l := w.ack(by, 0)
			var want []string
			var timers []int
			for place := all; place < min(c.Room, by+c.W); place++ {
				want = append(want, fmt.Sprintf(`%d "m%d"`, place%c.M, place))
				timers = append(timers, place)
			}
			if l != strings.Join(want, ", ") {
				t.Fatal(c, by, l, want)
			}
			if got := w.p.Timers(); !slices.Equal(got[len(got)-len(timers):], timers) {
				t.Fatal(c, by, got, timers)
			}
			w.holds()
			if l := w.tick(); !strings.HasSuffix(l, strings.Join(want, ", ")) {
				t.Fatal(c, by, l)
			}
		}
	}
}

// spare answers b with room behind it in which a guard stands, and a function that tells whether b and the guard are as they were.
func spare(b []byte) ([]byte, func() bool) {
	whole := slices.Concat([]byte{7}, b, noise(len(b), 100))
	was := bytes.Clone(whole)
	return whole[1 : 1+len(b)], func() bool { return bytes.Equal(whole, was) }
}

// mix does n acts of all kinds, by chance, and holds behind each.
func (w *twin) mix(next func(int) int, n int) {
	w.t.Helper()
	for range n {
		switch kind := next(12); {
		case kind < 4:
			long := next(6)
			if kind == 0 {
				long = 60 + next(6)
			}
			w.send(noise(next(1000), long))
		case kind < 6:
			w.tick()
		default:
			w.take(w.packet(next))
		}
		w.holds()
	}
}

// packet is a packet by chance: for the most part an Ack about Base.
func (w *twin) packet(next func(int) int) api.Slide {
	bits := uint64(next(1 << 16))
	switch next(4) {
	case 0:
		bits = 0
	case 1:
		bits |= uint64(next(1<<30))<<40 | uint64(next(1<<30))<<16
	}
	s := api.Slide{Ack: next(12) > 0, Bits: bits}
	switch next(5) {
	case 0:
		s.Seq = next(w.c.M)
	case 1:
		s.Seq = (w.base + next(3) + w.c.M - 1) % w.c.M
	case 2:
		s.Seq = (w.base + next(w.c.W+3)) % w.c.M
	case 3:
		s.Seq = (w.base + next(w.next-w.base+1)) % w.c.M
	default:
		s.Seq = []int{w.next % w.c.M, (w.next + 1) % w.c.M, w.base%w.c.M - w.c.M, w.base%w.c.M + w.c.M, -1, w.c.M}[next(6)]
	}
	if next(9) == 0 {
		s.Data = noise(next(100), next(80))
	}
	return s
}

// Acts of all kinds, by many seeds, in all settings.
func TestManyActs(t *testing.T) { // P24.1 to P24.4
	for i, c := range settings {
		for seed := range 60 {
			opened(t, c).mix(drawn(100*i+seed), 120)
		}
		w := opened(t, c)
		w.mix(drawn(i), 4000)
		if w.base < 100 {
			t.Fatal(c, w.base)
		}
	}
}

// Each window, cap and room, with as few numbers as may be, and with more.
func TestManySettings(t *testing.T) { // P24.1 to P24.4
	next := drawn(77)
	for wide := 1; wide <= maxWide; wide++ {
		for room := 1; room <= maxRoom; room++ {
			l := wide + next(3)*next(40)
			least := 2*wide + 2*l + 1
			for _, m := range []int{least, least + 1, least + next(maxMod-least)} {
				opened(t, api.Config{W: wide, M: m, L: l, B: 1 + next(maxCap), Room: room}).mix(next, 60)
			}
		}
	}
}

// All short rows of acts.
func TestEachShortRow(t *testing.T) { // P24.1 to P24.5
	acts := []func(w *twin){
		func(w *twin) { w.some(1) },
		func(w *twin) { w.tick() },
		func(w *twin) { w.ack(w.base, 2) },
		func(w *twin) { w.ack(w.base+1, 0) },
		func(w *twin) { w.ack(w.base+1, 3) },
		func(w *twin) { w.ack(w.base+2, 0) },
		func(w *twin) { w.ack(w.base-1, 7) },
	}
	for _, kind := range []struct {
		long int
		c    api.Config
	}{
		{5, api.Config{W: 1, M: 5, L: 1, B: 2, Room: 2}},
		{6, api.Config{W: 2, M: 9, L: 2, B: 2, Room: 3}},
		{5, api.Config{W: 2, M: 9, L: 2, B: 4, Room: 1}},
		{5, api.Config{W: 3, M: 13, L: 3, B: 1, Room: 2}},
	} {
		rows := 1
		for range kind.long {
			rows *= len(acts)
		}
		for row := range rows {
			w := opened(t, kind.c)
			for range kind.long {
				acts[row%len(acts)](w)
				row /= len(acts)
			}
			w.holds()
		}
	}
}

// What P24.5 says, held against nothing but what is sent, State and Timers.
func TestNeverMoreThanTheWindow(t *testing.T) { // P24.1, P24.2, P24.5
	for i, c := range settings {
		for seed := range 25 {
			next := drawn(1000*i + seed)
			w := opened(t, c) // for its packets alone
			first := 0        // how many places were sent
			for range 250 {
				var l, more []api.Slide
				switch next(5) {
				case 0, 1:
					_, l, _ = w.p.Send(noise(next(9), next(9)))
				case 2:
					more = w.p.Tick()
				default:
					s := w.p.State()
					w.base, w.next = s.Base, s.Next
					l = w.p.Take(w.packet(next))
				}
				s := w.p.State()
				for _, x := range l {
					if x.Ack || x.Seq != first%c.M || first-c.W >= s.Base {
						t.Fatal(c, first, told(l), s)
					}
					first++
				}
				if s.Next != first || s.Next-s.Base > c.W || s.Base > s.Next || s.Next > s.Accepted || s.Accepted-s.Base > c.Room {
					t.Fatal(c, first, s)
				}
				for _, x := range more {
					if ahead := (x.Seq - s.Base%c.M + c.M) % c.M; ahead >= s.Next-s.Base {
						t.Fatal(c, told(more), s)
					}
				}
				timers := w.p.Timers()
				if s.Base < s.Next && !slices.Contains(timers, s.Base) {
					t.Fatal(c, s, timers)
				}
				if n := len(timers); n > 0 && (timers[0] < s.Base || timers[n-1] >= s.Next) {
					t.Fatal(c, s, timers)
				}
				if s.Next < s.Accepted && s.Next-s.Base < c.W {
					t.Fatal(c, s) // it didn't go on
				}
			}
		}
	}
}

// end is a receiver, as far as a pusher has to do with it: it waits for a place, keeps what came ahead of it, and tells that.
type end struct {
	c     api.Config
	waits int
	ahead map[int]string
	got   []string
}

// hear answers what the receiver tells of what came.
func (r *end) hear(s api.Slide) api.Slide {
	for place := r.waits; place < r.waits+r.c.W; place++ {
		if _, ok := r.ahead[place]; place%r.c.M == s.Seq && !ok {
			r.ahead[place] = string(s.Data)
		}
	}
	for {
		m, ok := r.ahead[r.waits]
		if !ok {
			break
		}
		delete(r.ahead, r.waits)
		r.got = append(r.got, m)
		r.waits++
	}
	told := api.Slide{Ack: true, Seq: r.waits % r.c.M}
	for place := range r.ahead {
		told.Bits |= 1 << (place - r.waits)
	}
	return told
}

// air is a direction of a channel: what is on its way, each with how many were sent behind it.
type air struct {
	flying []api.Slide
	behind []int
}

// put sends packets; those that outlived so many others are gone.
func (a *air) put(life int, l ...api.Slide) {
	for _, s := range l {
		for i := range a.behind {
			a.behind[i]++
		}
		a.flying, a.behind = append(a.flying, s), append(a.behind, 0)
		for a.behind[0] >= life {
			a.take(0)
		}
	}
}

// take answers what is the i'th on its way, which it is no longer.
func (a *air) take(i int) api.Slide {
	s := a.flying[i]
	a.flying, a.behind = slices.Delete(a.flying, i, i+1), slices.Delete(a.behind, i, i+1)
	return s
}

// All that was sent comes in order, each once, over a channel that loses and turns about, and nothing waits at last.
func TestOverAChannel(t *testing.T) { // P24.1 to P24.5
	for i, c := range settings {
		for seed := range 6 {
			next := drawn(10*i + seed)
			p, _ := pusher.New(c)
			r := &end{c: c, ahead: map[int]string{}}
			var sent []string
			var there, back air
			send := func() {
				m := noise(next(1000), 3+next(4))
				if id, l, e := p.Send(m); e == fine {
					if id != len(sent) {
						t.Fatal(c, id, len(sent))
					}
					sent = append(sent, string(m))
					there.put(c.L, l...)
				}
			}
			for range 1200 {
				switch n := next(9); {
				case n < 2:
					send()
				case n < 4:
					there.put(c.L, p.Tick()...)
				case n < 6 && len(there.flying) > 0:
					back.put(c.L, r.hear(there.take(next(len(there.flying)))))
				case n < 8 && len(back.flying) > 0:
					there.put(c.L, p.Take(back.take(next(len(back.flying))))...)
				case len(there.flying) > 0 && next(2) == 0:
					there.take(next(len(there.flying)))
				case len(back.flying) > 0:
					back.take(next(len(back.flying)))
				}
				if s := p.State(); s.Base > r.waits || r.waits > s.Next || len(r.ahead) >= c.W {
					t.Fatal(c, s, r.waits)
				}
			}
			send()
			for ticks := 0; p.State().Base < len(sent); ticks++ {
				if ticks > 8*(maxRoom+1)*c.B {
					t.Fatal(c, p.State(), len(sent))
				}
				there.put(c.L, p.Tick()...)
				for len(there.flying)+len(back.flying) > 0 {
					for len(there.flying) > 0 {
						back.put(c.L, r.hear(there.take(0)))
					}
					for len(back.flying) > 0 {
						there.put(c.L, p.Take(back.take(0))...)
					}
				}
			}
			if !slices.Equal(r.got, sent) || len(sent) < 20 || len(p.Timers()) != 0 || len(p.Tick()) != 0 {
				t.Fatal(c, len(r.got), len(sent), p.Timers())
			}
			for id := range sent {
				if o, e := p.Poll(id); o != confirmed || e != fine {
					t.Fatal(c, id, o, e)
				}
			}
		}
	}
}

// What is sent is such as layer 14 has it: a packet that is right, which is the same behind its way as bytes.
func TestWhatIsSentIsRight(t *testing.T) { // P24.1
	for i, c := range settings {
		p, _ := pusher.New(c)
		next := drawn(i)
		for range 400 {
			var l []api.Slide
			switch next(3) {
			case 0:
				_, l, _ = p.Send(noise(next(100), next(maxData+1)))
			case 1:
				l = p.Tick()
			default:
				l = p.Take(api.Slide{Ack: true, Seq: (p.State().Base + next(2)) % c.M, Bits: uint64(next(99))})
			}
			for _, s := range l {
				b, e := slide.Put(s, c.M)
				if e != fine {
					t.Fatal(c, told(l), e)
				}
				if back, e := slide.Get(b, c.M); e != fine || back.Ack || !slide.Same(s, back) {
					t.Fatal(c, told(l), e)
				}
			}
		}
	}
}

// What is handed in isn't changed, nor what stands behind it, whether it is taken or not, and whatever comes later.
func TestWhatIsHandedInStays(t *testing.T) { // rule 3
	w := opened(t, settings[4])
	for i, m := range append(messages(), noise(1, maxData+1), noise(2, 500)) {
		b, sent := spare(m)
		d, taken := spare(m)
		w.send(b)
		w.tick()
		w.take(api.Slide{Seq: w.base % w.c.M, Data: d})
		w.take(api.Slide{Ack: true, Seq: w.base % w.c.M, Bits: 2, Data: d})
		w.tick()
		w.take(api.Slide{Ack: true, Seq: (w.base + i%2) % w.c.M, Data: d})
		w.tick()
		w.holds()
		if !sent() || !taken() {
			t.Fatal(i, m)
		}
	}
	for _, p := range unmade() {
		b, untouched := spare([]byte("abc"))
		p.Send(b)
		p.Take(api.Slide{Data: b})
		p.Take(api.Slide{Ack: true, Data: b})
		if !untouched() {
			t.Fatal(b)
		}
	}
}

// What was handed in may be written afterwards: what is sent, then and again, is what it was.
func TestWhatIsHandedInIsNotKept(t *testing.T) { // rule 3
	for _, m := range messages() {
		w := opened(t, settings[4])
		for range 5 { // two are sent at once, two wait, the last one is refused
			mine, _ := spare(m)
			w.send(mine)
			overwrite(mine)
			w.holds()
		}
		d, _ := spare(m)
		for range 5 {
			w.tick()
			w.take(api.Slide{Ack: true, Seq: w.base % w.c.M, Data: d})
			overwrite(d)
		}
		for w.base < len(w.sent) {
			w.ack(w.base+1, 0)
			w.tick()
			w.tick()
		}
	}
}

// One list of bytes, written over for each Send.
func TestOneBufferForAll(t *testing.T) { // rule 3
	for _, c := range settings {
		w := opened(t, c)
		buffer := make([]byte, 5)
		for i := range 4 * c.Room {
			for at := range buffer {
				buffer[at] = byte(i + at)
			}
			w.send(buffer[:1+i%5])
			clear(buffer)
			w.tick()
			w.holds()
			if i%3 == 2 {
				w.ack(w.base+1+i%2, 0)
				w.tick()
			}
		}
	}
}

// What one answer is written over with is seen in no other one, of the same place or of others, whether they came ahead or come later.
func TestAnswersShareNothing(t *testing.T) { // rule 3
	for _, m := range messages() {
		p, _ := pusher.New(api.Config{W: 3, M: 13, L: 3, B: 1, Room: 6})
		var answers [][]api.Slide
		for range 6 {
			_, l, _ := p.Send(m)
			answers = append(answers, l)
		}
		answers = append(answers, p.Tick(), p.Tick(), p.Take(api.Slide{Ack: true, Seq: 2}), p.Tick(), p.Take(api.Slide{Ack: true, Seq: 3}), p.Tick(), p.Tick())
		var were []string
		for _, l := range answers {
			were = append(were, told(l))
		}
		for i, l := range answers {
			spoil(l)
			for j := i + 1; j < len(answers); j++ {
				if told(answers[j]) != were[j] {
					t.Fatal(i, j, told(answers[j]), were[j])
				}
			}
		}
		want := fmt.Sprintf("3 %q, 4 %q, 5 %q", m, m, m)
		if l := told(p.Tick()); l != want {
			t.Fatal(l, want)
		}
	}
}

// The packets of one answer share nothing either.
func TestPacketsOfOneAnswer(t *testing.T) { // rule 3
	for _, m := range messages() {
		for i := range 4 {
			p, _ := pusher.New(api.Config{W: 4, M: 17, L: 4, B: 1, Room: 8})
			for range 8 {
				p.Send(m)
			}
			for n, l := range [][]api.Slide{p.Tick(), p.Take(api.Slide{Ack: true, Seq: 4}), p.Tick()} {
				want := make([]string, 4)
				for j := range l {
					want[j] = told(l[j : j+1])
				}
				overwrite(l[i].Data)
				_ = append(l[i].Data, noise(1, 200)...)
				_ = append(l[i].Data[:len(l[i].Data)/2], noise(2, 300)...)
				for j := range l {
					if j != i && told(l[j:j+1]) != want[j] {
						t.Fatal(n, i, j, told(l), want)
					}
				}
			}
		}
	}
}

// What was told stays what it was, whatever comes later.
func TestAnswersStay(t *testing.T) { // rule 3
	for i, c := range settings {
		next := drawn(i)
		p, _ := pusher.New(c)
		var answers [][]api.Slide
		var timers [][]int
		var were, had []string
		for range 500 {
			var l []api.Slide
			switch next(3) {
			case 0:
				_, l, _ = p.Send(noise(next(100), next(20)))
			case 1:
				l = p.Tick()
			default:
				l = p.Take(api.Slide{Ack: true, Seq: (p.State().Base + next(3)) % c.M, Bits: uint64(next(64))})
			}
			x := p.Timers()
			answers, timers = append(answers, l), append(timers, x)
			were, had = append(were, told(l)), append(had, fmt.Sprint(x))
		}
		for i, l := range answers {
			if told(l) != were[i] || fmt.Sprint(timers[i]) != had[i] {
				t.Fatal(c, i, told(l), were[i], timers[i], had[i])
			}
		}
	}
}

// What Timers told may be written, cut and grown, and no later answer is another one; two answers share nothing.
func TestTimersAreNewMemory(t *testing.T) { // P24.4, rule 3
	w := opened(t, settings[12])
	w.some(12)
	for range 30 {
		a, b := w.p.Timers(), w.p.Timers()
		for i := range a[:cap(a)] {
			a[:cap(a)][i] = 99 - i
		}
		_ = append(a[:1], 1, 2, 3)
		_ = append(a, 4, 5, 6)
		if !slices.Equal(b, w.timers()) || !slices.Equal(w.p.Timers(), w.timers()) {
			t.Fatal(b, w.p.Timers())
		}
		w.tick()
		w.ack(w.base+1, 4)
		w.some(1)
		w.holds()
	}
}

// What was told may be sent, and be taken, and be written then.
func TestToldIsSentAgain(t *testing.T) { // rule 3
	p, _ := pusher.New(api.Config{W: 1, M: 5, L: 1, B: 1, Room: 2})
	p.Send([]byte("a"))
	for i := range 20 {
		l := p.Tick()
		if told(l) != fmt.Sprintf(`%d "a"`, i%5) {
			t.Fatal(i, told(l))
		}
		if id, _, e := p.Send(l[0].Data); id != i+1 || e != fine {
			t.Fatal(id, e)
		}
		p.Take(l[0])
		spoil(l)
		if l := p.Take(api.Slide{Ack: true, Seq: (i + 1) % 5}); told(l) != fmt.Sprintf(`%d "a"`, (i+1)%5) {
			t.Fatal(i, told(l))
		}
	}
}

// unmade are the pushers that New did not make.
func unmade() []*pusher.Pusher {
	return []*pusher.Pusher{nil, new(pusher.Pusher), {}}
}

// nothing fails the test if the pusher, which New did not make, is one.
func nothing(t *testing.T, p *pusher.Pusher) {
	t.Helper()
	for _, m := range [][]byte{nil, []byte("a"), make([]byte, maxData), make([]byte, maxData+1)} {
		if id, l, e := p.Send(m); id != 0 || len(l) != 0 || e != errNil {
			t.Fatal(len(m), id, l, e)
		}
	}
	for _, id := range slices.Concat(far, []int{0, 1, 2}) {
		if o, e := p.Poll(id); o != 0 || e != errNil {
			t.Fatal(id, o, e)
		}
	}
	if l := p.Tick(); len(l) != 0 {
		t.Fatal(l)
	}
	for _, seq := range slices.Concat(far, []int{0, 1, 2}) {
		for _, s := range []api.Slide{{Seq: seq}, {Seq: seq, Ack: true}, {Seq: seq, Ack: true, Bits: math.MaxUint64}, {Seq: seq, Data: []byte("a")}} {
			if l := p.Take(s); len(l) != 0 {
				t.Fatal(s, l)
			}
		}
	}
	if s := p.State(); s != (pusher.State{}) {
		t.Fatal(s)
	}
	if l := p.Timers(); len(l) != 0 {
		t.Fatal(l)
	}
}

// Each call as the first one, and each behind each other one.
func TestUnmade(t *testing.T) { // P24.1 to P24.4, rules 1 and 2
	calls := []func(p *pusher.Pusher) bool{
		func(p *pusher.Pusher) bool { id, l, e := p.Send(nil); return id == 0 && len(l) == 0 && e == errNil },
		func(p *pusher.Pusher) bool {
			id, l, e := p.Send(make([]byte, 1000))
			return id == 0 && len(l) == 0 && e == errNil
		},
		func(p *pusher.Pusher) bool { o, e := p.Poll(0); return o == 0 && e == errNil },
		func(p *pusher.Pusher) bool { o, e := p.Poll(-1); return o == 0 && e == errNil },
		func(p *pusher.Pusher) bool { return len(p.Tick()) == 0 },
		func(p *pusher.Pusher) bool { return len(p.Take(api.Slide{})) == 0 },
		func(p *pusher.Pusher) bool { return len(p.Take(api.Slide{Ack: true})) == 0 },
		func(p *pusher.Pusher) bool { return len(p.Take(api.Slide{Ack: true, Seq: 1, Bits: 2})) == 0 },
		func(p *pusher.Pusher) bool { return p.State() == pusher.State{} },
		func(p *pusher.Pusher) bool { return len(p.Timers()) == 0 },
	}
	for i := range unmade() {
		for first, f := range calls {
			for second, g := range calls {
				p := unmade()[i]
				for range 20 {
					if !f(p) || !g(p) {
						t.Fatal(i, first, second)
					}
				}
				nothing(t, p)
			}
		}
	}
}

// A pusher that is a part of something else, and that nobody made, is no other than one of its own.
func TestUnmadeInside(t *testing.T) { // P24.1 to P24.4, rule 1
	var s struct {
		before uint64
		p      pusher.Pusher
		after  uint64
	}
	var l [3]pusher.Pusher
	for range 40 {
		nothing(t, &s.p)
		for i := range l {
			nothing(t, &l[i])
		}
		if s.before != 0 || s.after != 0 {
			t.Fatal(s.before, s.after)
		}
	}
}

// A pusher has the chapter's calls, and no others.
func TestNoOtherCalls(t *testing.T) { // P24.1 to P24.4
	p := reflect.TypeFor[*pusher.Pusher]()
	var names []string
	for m := range p.Methods() {
		names = append(names, m.Name)
	}
	if want := []string{"Poll", "Send", "State", "Take", "Tick", "Timers"}; !slices.Equal(names, want) {
		t.Fatal(names)
	}
	for f := range p.Elem().Fields() {
		if f.IsExported() {
			t.Fatal(f.Name)
		}
	}
}

// Pushers have nothing to do with one another, nor with one that nobody made.
func TestTwoPushers(t *testing.T) { // rule 4
	next := drawn(7)
	x, y, z := opened(t, settings[4]), opened(t, settings[12]), opened(t, settings[4])
	for i := range 400 {
		x.mix(next, 1)
		y.mix(next, 2)
		if i%3 == 0 {
			z.mix(next, 1)
		}
		for _, p := range unmade() {
			nothing(t, p)
		}
		opened(t, settings[4]).texts("a", "b", "c")
		x.holds()
		y.holds()
		z.holds()
	}
}

// run is all that is told by calls that look like noise, the same ones of the same seed.
func run(c api.Config, seed int) string {
	p, _ := pusher.New(c)
	next := drawn(seed)
	var said strings.Builder
	for range 250 {
		switch next(4) {
		case 0:
			id, l, e := p.Send(noise(next(100), next(80)))
			fmt.Fprint(&said, id, told(l), e)
		case 1:
			fmt.Fprint(&said, told(p.Tick()))
		default:
			fmt.Fprint(&said, told(p.Take(api.Slide{Ack: next(9) > 0, Seq: (p.State().Base + next(4)) % c.M, Bits: uint64(next(256))})))
		}
		fmt.Fprintln(&said, p.State(), p.Timers())
		fmt.Fprintln(&said, fmt.Sprint(p.Poll(next(50)-2)))
	}
	return said.String()
}

// The same calls on two objects are answered alike, many times over.
func TestTheSameAgain(t *testing.T) { // rule 4
	for seed, c := range settings {
		first := run(c, seed)
		for range 12 {
			if run(c, seed) != first {
				t.Fatal(c)
			}
		}
	}
}

// inUse is how many bytes are kept.
func inUse() int {
	var m runtime.MemStats
	runtime.GC()
	runtime.GC()
	runtime.ReadMemStats(&m)
	return int(m.HeapAlloc)
}

// Of the messages that are there nothing is kept, however many there were, nor of those that were refused, nor of packets.
func TestWhatIsKept(t *testing.T) { // P24.1, P24.4
	const many = 200
	var l [many]*pusher.Pusher
	c := api.Config{W: 16, M: 65, L: 16, B: 4, Room: 16}
	before := inUse()
	for i := range l {
		p, _ := pusher.New(c)
		l[i] = p
		for n := range 10 {
			for range maxRoom + 2 {
				p.Send(make([]byte, maxData))
			}
			p.Tick()
			p.Take(api.Slide{Ack: true, Seq: (16*n + 5) % c.M, Data: make([]byte, 10000)})
			p.Take(api.Slide{Seq: 1, Data: make([]byte, 10000)})
			p.Take(api.Slide{Ack: true, Seq: (16*n + 16) % c.M, Data: make([]byte, 10000)})
			p.Tick()
		}
	}
	left := inUse() - before
	for _, p := range l {
		if s := p.State(); s != (pusher.State{Accepted: 160, Base: 160, Next: 160}) {
			t.Fatal(s)
		}
	}
	if left > many*2000 { // 16 of the longest messages are more than half of that
		t.Fatal(left / many)
	}
}
