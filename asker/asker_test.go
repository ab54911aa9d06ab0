package asker_test

import (
	"bytes"
	"fmt"
	"kedge/api"
	"kedge/asker"
	"kedge/nonce"
	"kedge/queue"
	"kedge/timer"
	"math"
	"reflect"
	"runtime"
	"slices"
	"strings"
	"testing"
)

// The numbers that the chapter and its page name, written out, so that the tests hold whatever api says.
const (
	maxData = 64
	maxRoom = 16
	maxCap  = 64
	half    = 9223372036854775808  // 2^63, which is drawn when nothing that was handed in is left
	most    = 18446744073709551615 // 2^64 - 1
)

// The errors, the outcomes and the kinds, written out.
const (
	fine      api.Errno = 0
	errArg    api.Errno = 1
	errLong   api.Errno = 2
	errFull   api.Errno = 3
	errNone   api.Errno = 4
	errNil    api.Errno = 5
	waiting             = 0
	confirmed           = 1
	unknown             = 2
	req                 = 0
	chal                = 1
	data                = 2
	ack                 = 3
)

// far are ints far outside of all bounds; among them such as may be, if they are cut short or have no sign.
var far = []int{
	-1, -2, -16, -64, -255, -256, -65536, -1 << 31, -1 << 32, 1 - 1<<32, 4 - 1<<32, -1 << 62, 1 - 1<<62, math.MinInt, math.MinInt + 1, math.MinInt + 4,
	65, 255, 256, 257, 260, 65536, 65537, 1<<31 - 1, 1 << 31, 1<<32 - 1, 1 << 32, 1<<32 + 1, 1<<32 + 4, 1<<32 + 64, 1 << 62, 1<<62 + 1, math.MaxInt - 1, math.MaxInt,
}

// oddKinds are kinds that no packet has; among them such as have one if they are cut short.
var oddKinds = []int{4, 5, 6, 7, 8, 9, 255, 256, 257, 259, 65537, 65539, 1 << 32, 1<<32 + 1, 1<<32 + 3, -1, -2, -3, -253, -255, math.MaxInt, math.MaxInt - 2, math.MinInt, math.MinInt + 1, math.MinInt + 3}

// numbers are such as nonces, challenges and incarnations may be, each another one; among them such as are others if they are cut short, lose a bit, or have a sign.
var numbers = []uint64{
	0, 1, 2, 3, 5, 255, 256, 257, 65535, 65536, 65537, 1<<31 - 1, 1 << 31, 1<<32 - 1, 1 << 32, 1<<32 + 1, 1 << 53, 1<<53 + 1,
	half - 1, half, half + 1, most - 1<<32, most - 256, most - 1, most,
}

// dues are the ticks behind its being set at which a timer is due, of each B that stands here, reckoned by hand.
var dues = map[int][]int{
	1:  {1, 2, 3, 4, 5, 6, 7, 8},
	2:  {1, 3, 5, 7, 9, 11, 13},
	3:  {1, 3, 6, 9, 12, 15, 18},
	4:  {1, 3, 7, 11, 15, 19, 23},
	5:  {1, 3, 7, 12, 17, 22, 27},
	7:  {1, 3, 7, 14, 21, 28, 35},
	8:  {1, 3, 7, 15, 23, 31, 39},
	9:  {1, 3, 7, 15, 24, 33, 42},
	16: {1, 3, 7, 15, 31, 47, 63},
	17: {1, 3, 7, 15, 31, 48, 65},
	33: {1, 3, 7, 15, 31, 63, 96, 129},
	63: {1, 3, 7, 15, 31, 63, 126, 189},
	64: {1, 3, 7, 15, 31, 63, 127, 191, 255},
}

// due is whether a timer with that cap is due so many ticks behind its being set.
func due(cap, since int) bool {
	at, span := 1, 1
	for at < since {
		if span += span; span > cap {
			span = cap
		}
		at += span
	}
	return at == since
}

// pool is a source, and beside it what was drawn of it, kept apart.
type pool struct {
	s     *nonce.Source
	draws []uint64
	used  int
}

// pooled is a source of these.
func pooled(draws ...uint64) *pool {
	return &pool{s: nonce.New(draws), draws: draws}
}

// next is the number that is drawn.
func (p *pool) next() uint64 {
	p.used++
	if p.used <= len(p.draws) {
		return p.draws[p.used-1]
	}
	return half + uint64(p.used-1-len(p.draws))
}

// twin is an asker, and beside it what the chapter says of it, kept apart.
type twin struct {
	t        *testing.T
	a        *asker.Asker
	c        api.Config
	pool     *pool
	sent     []string // all that were accepted
	outcomes []int    // of those that are done
	n, r     uint64
	bound    bool
	since    int // how many ticks there were since the message was begun with
}

// opened is an asker without messages, of its own source.
func opened(t *testing.T, cap, room int, draws ...uint64) *twin {
	t.Helper()
	return of(t, pooled(draws...), cap, room)
}

// of is an asker without messages that draws of that.
func of(t *testing.T, p *pool, cap, room int) *twin {
	t.Helper()
	c := api.Config{B: cap, Room: room}
	a, e := asker.New(c, p.s)
	if a == nil || e != fine {
		t.Fatalf("New(%+v) = %v, %d", c, a, e)
	}
	w := &twin{t: t, a: a, c: c, pool: p}
	w.holds()
	return w
}

// some is whether there is a message; one is that.
func (w *twin) some() bool {
	return len(w.sent) > len(w.outcomes)
}

func (w *twin) one() []byte {
	return []byte(w.sent[len(w.outcomes)])
}

// begins is what happens when a message is begun with.
func (w *twin) begins() []api.Token {
	w.n, w.r, w.bound, w.since = w.pool.next(), 0, false, 0
	return w.asks()
}

// asks is what is asked with.
func (w *twin) asks() []api.Token {
	return []api.Token{{T: w.n}}
}

// goes is what happens when the message is done.
func (w *twin) goes(outcome int) []api.Token {
	w.outcomes = append(w.outcomes, outcome)
	if w.some() {
		return w.begins()
	}
	w.n, w.r, w.bound = 0, 0, false
	return nil
}

// send sends, and is kept.
func (w *twin) send(m []byte) {
	w.t.Helper()
	id, want := len(w.sent), fine
	var l []api.Token
	switch {
	case len(m) > maxData:
		id, want = 0, errLong
	case len(w.sent)-len(w.outcomes) == w.c.Room:
		id, want = 0, errFull
	default:
		first := !w.some()
		w.sent = append(w.sent, string(m))
		if first {
			l = w.begins()
		}
	}
	got, out, e := w.a.Send(m)
	if got != id || e != want {
		w.t.Fatalf("%+v: Send(%q) = %d, %d, not %d, %d", w.c, m, got, e, id, want)
	}
	w.are(out, l, "Send", m)
}

// texts sends texts, one behind the other.
func (w *twin) texts(l ...string) {
	w.t.Helper()
	for _, s := range l {
		w.send([]byte(s))
	}
}

// tick ticks, and is kept.
func (w *twin) tick() {
	w.t.Helper()
	w.since++
	var l []api.Token
	if w.some() && due(w.c.B, w.since) {
		l = w.asks()
	}
	w.are(w.a.Tick(), l, "Tick")
}

// take hands in a packet, and is kept.
func (w *twin) take(t api.Token) {
	w.t.Helper()
	w.are(w.a.Take(t), w.taken(t), "Take", t)
}

// taken is what is sent when that is taken.
func (w *twin) taken(t api.Token) []api.Token {
	if !w.some() || t.T != w.n {
		return nil
	}
	if t.Kind == ack {
		return w.goes(confirmed)
	}
	if t.Kind != chal {
		return nil
	}
	if w.bound && t.R != w.r {
		return w.goes(unknown)
	}
	w.bound, w.r = true, t.R
	return []api.Token{{Kind: data, T: w.n, C: t.C, Data: w.one()}}
}

// chal hands in a challenge with the T that is asked with, ack an ack of it.
func (w *twin) chal(c, r uint64) {
	w.t.Helper()
	w.take(api.Token{Kind: chal, T: w.n, C: c, R: r})
}

func (w *twin) ack(r uint64) {
	w.t.Helper()
	w.take(api.Token{Kind: ack, T: w.n, R: r})
}

// are fails the test if these packets aren't those; what was told is spoilt then.
func (w *twin) are(got, want []api.Token, what ...any) {
	w.t.Helper()
	if !same(got, want) {
		w.t.Fatalf("%+v, %v: %s, not %s", w.c, what, told(got), told(want))
	}
	spoil(got)
}

// poll fails the test if Poll doesn't tell what is kept.
func (w *twin) poll(id int) {
	w.t.Helper()
	outcome, want := waiting, fine
	switch {
	case id < 0 || id >= len(w.sent):
		want = errNone
	case id < len(w.outcomes):
		outcome = w.outcomes[id]
	}
	if got, e := w.a.Poll(id); got != outcome || e != want {
		w.t.Fatalf("%+v: Poll(%d) = %d, %d, not %d, %d", w.c, id, got, e, outcome, want)
	}
}

// state is what State should tell.
func (w *twin) state() asker.State {
	return asker.State{Accepted: len(w.sent), Done: len(w.outcomes), T: w.n, R: w.r, Bound: w.bound}
}

// stands fails the test if State doesn't tell what is kept.
func (w *twin) stands() {
	w.t.Helper()
	if got := w.a.State(); got != w.state() {
		w.t.Fatalf("%+v: State() = %+v, not %+v", w.c, got, w.state())
	}
}

// holds fails the test if the asker isn't what is kept, or another one was drawn than was kept.
func (w *twin) holds() {
	w.t.Helper()
	w.stands()
	n, done := len(w.sent), len(w.outcomes)
	for _, id := range []int{-1, 0, 1, done - 2, done - 1, done, done + 1, n - 1, n, n + 1, math.MinInt, math.MaxInt} {
		w.poll(id)
	}
	if got := len(w.pool.s.Used()); got != w.pool.used {
		w.t.Fatalf("%+v: %d were drawn, not %d", w.c, got, w.pool.used)
	}
}

// polls holds all that were accepted, and those beyond them.
func (w *twin) polls() {
	w.t.Helper()
	for id := -3; id < len(w.sent)+3; id++ {
		w.poll(id)
	}
	for _, id := range far {
		w.poll(id)
	}
}

// same tells whether these packets are those.
func same(a, b []api.Token) bool {
	return slices.EqualFunc(a, b, func(x, y api.Token) bool {
		return x.Kind == y.Kind && x.T == y.T && x.C == y.C && x.R == y.R && bytes.Equal(x.Data, y.Data)
	})
}

// told is packets as a text: all that each has.
func told(l []api.Token) string {
	var s []string
	for _, x := range l {
		s = append(s, fmt.Sprintf("%d %d %d %d %q", x.Kind, x.T, x.C, x.R, x.Data))
	}
	return strings.Join(s, ", ")
}

// drawn answers a function that tells numbers that look like noise, below n, the same ones in each run.
func drawn(begin int) func(n int) int {
	x := uint64(begin)
	return func(n int) int {
		x = x*6364136223846793005 + 1442695040888963407
		return int(x>>33) % n
	}
}

// noise is n bytes that look like noise.
func noise(begin, n int) []byte {
	next := drawn(begin)
	b := make([]byte, n)
	for i := range b {
		b[i] = byte(next(256))
	}
	return b
}

// messages are each another one: none, few bytes, such as mean something to other layers, and all lengths up to the longest.
func messages() [][]byte {
	l := [][]byte{nil, {0}, {0, 0}, {0, 'a'}, []byte("a"), []byte("a\x00"), {0x7e}, {0x7d}, {0xff}, {0xc0, 0x80}}
	for n := 1; n <= maxData; n++ {
		l = append(l, noise(n, n))
	}
	return l
}

// overwrite puts other bytes in all of b's memory, up to its capacity.
func overwrite(b []byte) {
	b = b[:cap(b)]
	for i := range b {
		b[i] = ^b[i]
	}
}

// spoil writes, cuts and grows what was told, and the Data in it.
func spoil(l []api.Token) {
	all := l[:cap(l)]
	for i := range all {
		overwrite(all[i].Data)
		_ = append(all[i].Data[:len(all[i].Data)/2], "written"...)
		_ = append(all[i].Data, "more"...)
		all[i] = api.Token{Kind: -5, T: 5, C: 6, R: 7}
	}
	_ = append(l[:len(l)/2], api.Token{Kind: 3})
	_ = append(l, api.Token{Kind: 4}, api.Token{Kind: 5})
}

func TestExample(t *testing.T) { // P27.1 to P27.3
	a, e := asker.New(api.Config{B: 1, Room: 1}, nonce.New([]uint64{5}))
	if e != fine {
		t.Fatal(e)
	}
	id, l, e := a.Send([]byte("a"))
	if id != 0 || e != fine || told(l) != `0 5 0 0 ""` {
		t.Fatal(id, told(l), e)
	}
	if l := a.Take(api.Token{Kind: api.TkChal, T: 5, C: 8, R: 9}); told(l) != `2 5 8 0 "a"` {
		t.Fatal(told(l))
	}
	if l := a.Take(api.Token{Kind: api.TkChal, T: 5, C: 1, R: 2}); len(l) != 0 {
		t.Fatal(told(l))
	}
	if o, e := a.Poll(0); o != unknown || e != fine {
		t.Fatal(o, e)
	}
}

func TestTheNumbersOfApi(t *testing.T) { // P27.1 to P27.3
	for i, so := range []bool{
		api.OK == fine, api.ErrArg == errArg, api.ErrLong == errLong, api.ErrFull == errFull, api.ErrNone == errNone, api.ErrNil == errNil,
		api.Waiting == waiting, api.Confirmed == confirmed, api.Unknown == unknown,
		api.TkReq == req, api.TkChal == chal, api.TkData == data, api.TkAck == ack,
		api.MaxData == maxData, api.MaxRoom == maxRoom, api.MaxCap == maxCap,
	} {
		if !so {
			t.Error(i)
		}
	}
}

// Each act, what it told, and how it stands behind that.
func TestWrittenOut(t *testing.T) { // P27.1 to P27.4
	a, _ := asker.New(api.Config{B: 4, Room: 3}, nonce.New([]uint64{5, 6, 7, 8, 9, 8}))
	type state = asker.State
	for i, x := range []struct {
		act     string
		t, c, r uint64
		told    string
		state   state
	}{
		{"tick", 0, 0, 0, ``, state{}},
		{"chal", 0, 8, 9, ``, state{}},
		{"ack", 0, 0, 9, ``, state{}},
		{"chal", 5, 8, 9, ``, state{}},
		{"a", 0, 0, 0, `0 5 0 0 ""`, state{1, 0, 5, 0, false}},
		{"tick", 0, 0, 0, `0 5 0 0 ""`, state{1, 0, 5, 0, false}},
		{"tick", 0, 0, 0, ``, state{1, 0, 5, 0, false}},
		{"b", 0, 0, 0, ``, state{2, 0, 5, 0, false}},
		{"tick", 0, 0, 0, `0 5 0 0 ""`, state{2, 0, 5, 0, false}},
		{"chal", 6, 8, 9, ``, state{2, 0, 5, 0, false}},
		{"chal", 5, 8, 9, `2 5 8 0 "a"`, state{2, 0, 5, 9, true}},
		{"chal", 5, 8, 9, `2 5 8 0 "a"`, state{2, 0, 5, 9, true}},
		{"chal", 5, 3, 9, `2 5 3 0 "a"`, state{2, 0, 5, 9, true}},
		{"tick", 0, 0, 0, ``, state{2, 0, 5, 9, true}},
		{"tick", 0, 0, 0, ``, state{2, 0, 5, 9, true}},
		{"tick", 0, 0, 0, ``, state{2, 0, 5, 9, true}},
		{"tick", 0, 0, 0, `0 5 0 0 ""`, state{2, 0, 5, 9, true}},
		{"c", 0, 0, 0, ``, state{3, 0, 5, 9, true}},
		{"full", 0, 0, 0, ``, state{3, 0, 5, 9, true}},
		{"ack", 6, 0, 9, ``, state{3, 0, 5, 9, true}},
		{"ack", 5, 0, 9, `0 6 0 0 ""`, state{3, 1, 6, 0, false}},
		{"ack", 5, 0, 9, ``, state{3, 1, 6, 0, false}},
		{"chal", 5, 4, 9, ``, state{3, 1, 6, 0, false}},
		{"tick", 0, 0, 0, `0 6 0 0 ""`, state{3, 1, 6, 0, false}},
		{"chal", 6, 4, 9, `2 6 4 0 "b"`, state{3, 1, 6, 9, true}},
		{"chal", 6, 4, 8, `0 7 0 0 ""`, state{3, 2, 7, 0, false}},
		{"chal", 6, 4, 8, ``, state{3, 2, 7, 0, false}},
		{"chal", 7, 1, 0, `2 7 1 0 "c"`, state{3, 2, 7, 0, true}},
		{"chal", 7, 2, 0, `2 7 2 0 "c"`, state{3, 2, 7, 0, true}},
		{"chal", 7, 2, 1, ``, state{3, 3, 0, 0, false}},
		{"chal", 7, 2, 0, ``, state{3, 3, 0, 0, false}},
		{"chal", 0, 2, 0, ``, state{3, 3, 0, 0, false}},
		{"ack", 0, 0, 0, ``, state{3, 3, 0, 0, false}},
		{"tick", 0, 0, 0, ``, state{3, 3, 0, 0, false}},
		{"d", 0, 0, 0, `0 8 0 0 ""`, state{4, 3, 8, 0, false}},
		{"ack", 8, 7, 6, ``, state{4, 4, 0, 0, false}},
		{"e", 0, 0, 0, `0 9 0 0 ""`, state{5, 4, 9, 0, false}},
		{"f", 0, 0, 0, ``, state{6, 4, 9, 0, false}},
		{"chal", 9, 5, most, `2 9 5 0 "e"`, state{6, 4, 9, most, true}},
		{"ack", 9, 0, 3, `0 8 0 0 ""`, state{6, 5, 8, 0, false}},
		{"ack", 8, 7, 6, ``, state{6, 6, 0, 0, false}},
		{"g", 0, 0, 0, `0 9223372036854775808 0 0 ""`, state{7, 6, half, 0, false}},
		{"h", 0, 0, 0, ``, state{8, 6, half, 0, false}},
		{"ack", half, 0, 0, `0 9223372036854775809 0 0 ""`, state{8, 7, half + 1, 0, false}},
	} {
		var l []api.Token
		switch x.act {
		case "tick":
			l = a.Tick()
		case "chal":
			l = a.Take(api.Token{Kind: chal, T: x.t, C: x.c, R: x.r})
		case "ack":
			l = a.Take(api.Token{Kind: ack, T: x.t, C: x.c, R: x.r})
		case "full":
			id, out, e := a.Send([]byte("x"))
			if id != 0 || e != errFull {
				t.Fatal(i, id, e)
			}
			l = out
		default:
			id, out, e := a.Send([]byte(x.act))
			if id != int(x.act[0]-'a') || e != fine {
				t.Fatal(i, id, e)
			}
			l = out
		}
		if got := a.State(); told(l) != x.told || got != x.state {
			t.Fatalf("%d, %s: %s, %+v, not %s, %+v", i, x.act, told(l), got, x.told, x.state)
		}
	}
	for id, want := range []int{confirmed, unknown, unknown, confirmed, confirmed, confirmed, confirmed, waiting} {
		if o, e := a.Poll(id); o != want || e != fine {
			t.Fatal(id, o, e)
		}
	}
}

// Each B and each room that may be, with whatever the fields have that New has nothing to do with.
func TestNew(t *testing.T) { // P27.1
	for cap := 1; cap <= maxCap; cap++ {
		for room := 1; room <= maxRoom; room++ {
			w := opened(t, cap, room, 1, 2, 3)
			w.tick()
			w.take(api.Token{Kind: ack})
			w.holds()
			for range room + 2 {
				w.texts("a")
				w.holds()
			}
			for range 12 {
				w.tick()
			}
		}
	}
	for _, x := range far {
		c := api.Config{Engine: x, W: x, M: x, L: x, B: 4, Room: 1, Begin: uint64(x)}
		a, e := asker.New(c, nonce.New([]uint64{7}))
		if e != fine || a.State() != (asker.State{}) {
			t.Fatal(c, e)
		}
		if _, l, e := a.Send(nil); told(l) != `0 7 0 0 ""` || e != fine {
			t.Fatal(c, told(l), e)
		}
	}
}

// With an error there is no asker, and nothing is drawn; which error it is is told by the timers and by the queue.
func TestNewWithAnError(t *testing.T) { // P27.1, rules 1 and 2
	bounds := slices.Concat(far, []int{0, 1, 2, 15, 16, 17, 18, 32, 63, 64, 65, 66})
	for _, cap := range bounds {
		for _, room := range bounds {
			_, want := timer.New(cap)
			if _, e := queue.New(room); want == fine {
				want = e
			}
			mine := fine
			if cap < 1 || cap > 64 || room < 1 || room > 16 {
				mine = errArg
			}
			s := nonce.New([]uint64{3})
			a, e := asker.New(api.Config{B: cap, Room: room}, s)
			if e != want || e != mine || (a == nil) != (e != fine) || len(s.Used()) != 0 {
				t.Fatal(cap, room, a, e, want)
			}
			if e != fine {
				nothing(t, a)
			}
			b, e := asker.New(api.Config{B: cap, Room: room}, nil)
			if b != nil || e != errArg {
				t.Fatal(cap, room, b, e)
			}
			nothing(t, b)
		}
	}
}

// New draws nothing, and neither does what comes ahead of a message.
func TestNothingIsDrawnAhead(t *testing.T) { // P27.1
	p := pooled(5, 6)
	w := of(t, p, 2, 2)
	for range 9 {
		w.tick()
		for kind := -1; kind < 5; kind++ {
			w.take(api.Token{Kind: kind})
			w.take(api.Token{Kind: kind, T: 5})
		}
		w.send(make([]byte, maxData+1))
		w.holds()
	}
	if p.used != 0 || len(p.s.Used()) != 0 {
		t.Fatal(p.used)
	}
	w.texts("a")
	if w.a.State().T != 5 {
		t.Fatal(w.a.State())
	}
}

// One is drawn for each message, when it is begun with, and none for anything else.
func TestOneIsDrawnForEach(t *testing.T) { // P27.1
	p := pooled(50, 40, 30)
	w := of(t, p, 1, 3)
	for i, n := range []uint64{50, 40, 30, half, half + 1, half + 2} {
		for i == 0 && len(w.sent) < 3 {
			w.texts("a")
		}
		if got := w.a.State(); got.T != n || len(p.s.Used()) != i+1 {
			t.Fatal(i, got)
		}
		w.texts("a")
		for range 3 {
			w.tick()
			w.chal(1, 2)
			w.take(api.Token{Kind: req, T: n})
			w.take(api.Token{Kind: data, T: n})
			w.holds()
		}
		w.texts("a")
		if i%2 == 0 {
			w.chal(1, 3)
		} else {
			w.ack(2)
		}
		w.holds()
	}
}

// A source of no number, of one, and of the same number several times.
func TestSources(t *testing.T) { // P27.1
	for _, draws := range [][]uint64{nil, {}, {0}, {5}, {half}, {most}, {5, 5}, {5, 5, 5, 5}, {0, 0, 0}, {1, 2, 1, 2}, {half + 1}, {most, most}} {
		for room := 1; room <= 3; room++ {
			w := opened(t, 2, room, draws...)
			for i := range 9 {
				w.texts("a", "b", "c")
				w.tick()
				w.chal(7, 0)
				w.tick()
				w.holds()
				if i%3 == 0 {
					w.chal(7, 1)
				} else {
					w.ack(1)
				}
				w.holds()
			}
		}
	}
	a, e := asker.New(api.Config{B: 1, Room: 2}, new(nonce.Source)) // nobody made it, and nothing is drawn of it
	if e != fine {
		t.Fatal(e)
	}
	for range 3 {
		if _, l, e := a.Send([]byte("a")); told(l) != `0 0 0 0 ""` || e != fine {
			t.Fatal(told(l), e)
		}
		if l := a.Take(api.Token{Kind: chal, C: 4}); told(l) != `2 0 4 0 "a"` {
			t.Fatal(told(l))
		}
		if l := a.Take(api.Token{Kind: ack}); len(l) != 0 {
			t.Fatal(told(l))
		}
	}
}

// Of two messages with the same nonce what came for the first one is taken for the second one.
func TestTheSameNumberTwice(t *testing.T) { // P27.1, P27.3
	w := opened(t, 1, 2, 5, 5)
	w.texts("a", "b")
	old := api.Token{Kind: ack, T: 5}
	w.take(old)
	if got := w.a.State(); got != (asker.State{Accepted: 2, Done: 1, T: 5}) {
		t.Fatal(got)
	}
	w.take(old)
	if got := w.a.State(); got != (asker.State{Accepted: 2, Done: 2}) {
		t.Fatal(got)
	}
	w.take(old)
	w.holds()
}

// Two askers, and more, draw of one source in turn, each when it begins with a message.
func TestOneSourceForTwo(t *testing.T) { // P27.1
	p := pooled(10, 20, 30, 40)
	x, y := of(t, p, 1, 2), of(t, p, 1, 2)
	are := func(n, other uint64) {
		t.Helper()
		if got, have := x.a.State().T, y.a.State().T; got != n || have != other {
			t.Fatal(got, have, n, other)
		}
	}
	y.texts("a", "b")
	are(0, 10)
	x.texts("c", "d")
	are(20, 10)
	y.ack(0)
	are(20, 30)
	x.take(api.Token{Kind: ack, T: 10})
	are(20, 30)
	x.ack(0)
	are(40, 30)
	x.ack(0)
	are(0, 30)
	x.texts("e")
	are(half, 30)
	y.ack(0)
	y.texts("f")
	are(half, half+1)
	for seed := range 40 {
		next := drawn(seed)
		p := pooled(9, 8, 7, 8, 9)
		l := []*twin{of(t, p, 1+seed, 1+seed%16), of(t, p, 3, 3), of(t, p, 64, 1)}
		for range 200 {
			l[next(3)].mix(next, 1)
			for _, w := range l {
				w.holds()
			}
		}
	}
}

// Each message alone and behind another one: it is given as it was sent.
func TestEachMessage(t *testing.T) { // P27.2, P27.3
	all := messages()
	for i := range 256 {
		all = append(all, []byte{byte(i)}, []byte{'x', byte(i)}, []byte{byte(i), 'x'})
	}
	for _, m := range all {
		w := opened(t, 2, 2, 9)
		for range 3 {
			w.send(m)
			w.send(m)
			w.send(m)
			w.chal(1, 2)
			w.chal(3, 2)
			w.ack(2)
			w.chal(4, 5)
			w.holds()
		}
	}
}

// nil and an empty list are one message, which is there and has no bytes.
func TestNoByte(t *testing.T) { // P27.2, P27.3, rule 3
	for _, m := range [][]byte{nil, {}, make([]byte, 0, 9), []byte("abc")[:0], []byte("abc")[3:]} {
		a, _ := asker.New(api.Config{B: 1, Room: 1}, nonce.New([]uint64{5, 6}))
		if id, l, e := a.Send(m); id != 0 || told(l) != `0 5 0 0 ""` || e != fine {
			t.Fatal(id, told(l), e)
		}
		if _, _, e := a.Send(m); e != errFull {
			t.Fatal(e)
		}
		if l := a.Tick(); told(l) != `0 5 0 0 ""` {
			t.Fatal(told(l))
		}
		if o, e := a.Poll(0); o != waiting || e != fine {
			t.Fatal(o, e)
		}
		if l := a.Take(api.Token{Kind: chal, T: 5, C: 7, R: 1, Data: m}); told(l) != `2 5 7 0 ""` {
			t.Fatal(told(l))
		}
		if l := a.Take(api.Token{Kind: ack, T: 5, Data: m}); len(l) != 0 {
			t.Fatal(told(l))
		}
		if o, e := a.Poll(0); o != confirmed || e != fine {
			t.Fatal(o, e)
		}
		if id, l, e := a.Send(m); id != 1 || told(l) != `0 6 0 0 ""` || e != fine {
			t.Fatal(id, told(l), e)
		}
	}
}

// A message has at most MaxData bytes; what has more is refused, however much room there is, ahead of there being none. What is refused leaves all as it was.
func TestWhichErrorOfSend(t *testing.T) { // P27.2, rule 2
	lengths := []int{maxData + 1, maxData + 2, 96, 97, 127, 128, 255, 256, 257, 320, 512, 513, 65536, 65537}
	for room := 1; room <= maxRoom; room++ {
		w := opened(t, 3, room, 4, 5)
		for n := range room + 1 {
			was := w.a.State()
			for _, l := range lengths {
				if id, out, e := w.a.Send(make([]byte, l)); id != 0 || len(out) != 0 || e != errLong {
					t.Fatal(room, n, l, id, told(out), e)
				}
			}
			if w.a.State() != was {
				t.Fatal(was, w.a.State())
			}
			w.holds()
			if n < room {
				w.send(noise(n, maxData-n))
			}
			w.tick()
			w.chal(1, 1)
		}
		was := w.a.State()
		for _, m := range [][]byte{nil, {}, []byte("a"), make([]byte, maxData)} {
			if id, out, e := w.a.Send(m); id != 0 || len(out) != 0 || e != errFull {
				t.Fatal(room, len(m), id, told(out), e)
			}
		}
		if w.a.State() != was {
			t.Fatal(was, w.a.State())
		}
		w.holds()
		for range room + 1 {
			w.chal(2, 1)
			w.ack(1)
			w.holds()
		}
	}
}

// A Send that is refused draws nothing, sets no timer, and unbinds nothing.
func TestRefusedInBetween(t *testing.T) { // P27.2, rule 2
	long := make([]byte, maxData+1)
	for room := 1; room <= maxRoom; room++ {
		w := opened(t, 8, room)
		w.send(long)
		for range room {
			w.texts("a")
		}
		w.chal(3, 4)
		for range 30 {
			w.send(long)
			w.texts("no room")
			w.holds()
			w.tick()
		}
		w.chal(5, 4)
		for range room {
			w.ack(0)
			w.send(long)
			w.holds()
		}
		w.send(long) // to an empty queue
		w.tick()
		w.holds()
	}
}

// A list's bytes count, not the room behind them.
func TestRoomBehindIsNoByte(t *testing.T) { // P27.2
	w := opened(t, 1, 3)
	w.send(make([]byte, 3, 1000))
	w.send(noise(1, 1000)[:maxData])
	w.send(noise(1, 1000)[900:])
	w.holds()
	for range 2 {
		w.chal(1, 1)
		w.ack(1)
	}
}

// Only the first one of the queue is asked for, and as many may wait as there is room for: when one is done there is room for one more.
func TestRoom(t *testing.T) { // P27.2, P27.3
	for room := 1; room <= maxRoom; room++ {
		w := opened(t, 1, room)
		for n := range 5 * room {
			for len(w.sent)-len(w.outcomes) < room {
				w.send(fmt.Appendf(nil, "m%d", len(w.sent)))
				w.holds()
			}
			w.texts("no room")
			w.chal(uint64(n), uint64(n))
			if n%3 == 0 {
				w.chal(uint64(n), uint64(n)+1)
			} else {
				w.ack(0)
			}
			w.holds()
		}
		for w.some() {
			w.chal(8, 8)
			w.ack(8)
			w.holds()
		}
	}
}

// Numbers that 8 or 16 bits do not hold; what was told of a message stays.
func TestManyMessages(t *testing.T) { // P27.2, P27.3
	const many = 70000
	a, _ := asker.New(api.Config{B: 1, Room: 2}, nonce.New(nil))
	for n := range many {
		if id, l, e := a.Send([]byte{byte(n)}); id != n || e != fine || len(l) != 1 || l[0].T != half+uint64(n) {
			t.Fatal(n, id, told(l), e)
		}
		if o, e := a.Poll(n); o != waiting || e != fine {
			t.Fatal(n, o, e)
		}
		if l := a.Take(api.Token{Kind: chal, T: half + uint64(n), C: 6, R: 7}); len(l) != 1 || l[0].C != 6 || l[0].Data[0] != byte(n) {
			t.Fatal(n, told(l))
		}
		last, want := api.Token{Kind: ack, T: half + uint64(n)}, confirmed
		if n%3 == 0 {
			last, want = api.Token{Kind: chal, T: half + uint64(n), R: 8}, unknown
		}
		if l := a.Take(last); len(l) != 0 {
			t.Fatal(n, told(l))
		}
		if o, e := a.Poll(n); o != want || e != fine {
			t.Fatal(n, o, e)
		}
		if _, e := a.Poll(n + 1); e != errNone {
			t.Fatal(n, e)
		}
	}
	if s := a.State(); s != (asker.State{Accepted: many, Done: many}) {
		t.Fatal(s)
	}
	for n := range many {
		want := confirmed
		if n%3 == 0 {
			want = unknown
		}
		if o, e := a.Poll(n); o != want || e != fine {
			t.Fatal(n, o, e)
		}
	}
}

// Each number, of messages that wait, that were confirmed, and of which Unknown was told.
func TestPoll(t *testing.T) { // P27.2
	for pattern := range 64 {
		w := opened(t, 4, 4, 1, 2, 3)
		w.polls()
		for i := range 6 {
			w.texts("a")
			w.polls()
			w.chal(1, 1)
			if i%2 == 0 {
				w.texts("b")
			}
			w.polls()
			if pattern>>i%2 == 1 {
				w.chal(2, 2)
			} else {
				w.ack(1)
			}
			w.polls()
		}
		for w.some() {
			w.ack(5)
		}
		w.polls()
	}
}

// Poll and State change nothing, however often they are called.
func TestAskingHowItStands(t *testing.T) { // P27.2, P27.4, rule 4
	next, other := drawn(11), drawn(11)
	x, y := opened(t, 5, 4, 3, 2, 1), opened(t, 5, 4, 3, 2, 1)
	for i := range 300 {
		for id := range 10 {
			x.a.State()
			x.a.Poll(id + i - 5)
		}
		x.mix(next, 1)
		y.mix(other, 1)
		if x.a.State() != y.a.State() {
			t.Fatal(x.a.State(), y.a.State())
		}
	}
}

// A Tick without a message: nothing, and nothing is waited for.
func TestTickOfNothing(t *testing.T) { // P27.2
	for _, ticks := range []int{0, 1, 2, 3, 5, 8, 100, 1000} {
		w := opened(t, 4, 2, 6, 7)
		for range ticks {
			w.tick()
		}
		w.texts("a")
		for range 25 {
			w.tick()
		}
		w.ack(1)
		for range ticks {
			w.tick()
		}
		w.texts("b")
		for range 25 {
			w.tick()
		}
		w.chal(1, 1)
		w.chal(1, 2)
		for range ticks + 70 {
			w.tick()
		}
		w.holds()
	}
}

// Behind each number of ticks: asked again, or not, as reckoned by hand.
func TestSpans(t *testing.T) { // P27.2
	for cap, want := range dues {
		a, _ := asker.New(api.Config{B: cap, Room: 1}, nonce.New([]uint64{5}))
		a.Send([]byte("a"))
		var got []int
		for i := 1; i <= want[len(want)-1]; i++ {
			switch l := a.Tick(); {
			case told(l) == `0 5 0 0 ""`:
				got = append(got, i)
			case len(l) != 0:
				t.Fatal(cap, i, told(l))
			}
		}
		if !slices.Equal(got, want) {
			t.Fatal(cap, got, want)
		}
	}
}

// Each B, up to its span and far beyond it, for a message that is bound and for one that is not.
func TestEachCap(t *testing.T) { // P27.2
	for cap := 1; cap <= maxCap; cap++ {
		for _, bound := range []bool{false, true} {
			w := opened(t, cap, 2, 5, 6)
			w.texts("a")
			if bound {
				w.chal(1, 2)
			}
			for range 5 * maxCap {
				w.tick()
			}
			w.holds()
		}
	}
}

// Whatever comes in between but an end of the message, it is asked for again when it would have been.
func TestTimerGoesOn(t *testing.T) { // P27.2, P27.3
	for cap := 1; cap <= maxCap; cap++ {
		next := drawn(cap)
		w := opened(t, cap, 3, 5, 6)
		w.texts("a")
		for range 4 * maxCap {
			w.tick()
			switch next(6) {
			case 0:
				w.chal(uint64(next(9)), 4)
			case 1:
				w.take(api.Token{Kind: ack, T: 6})
			case 2:
				w.texts("b")
			case 3:
				w.take(api.Token{Kind: req, T: 5})
			case 4:
				w.take(api.Token{Kind: chal, T: 7, R: 3})
			}
			w.stands()
		}
		w.holds()
	}
}

// The message that comes in another one's place is asked for at once, and its timer begins anew, wherever the one ahead of it stood.
func TestTimerOfTheNextOne(t *testing.T) { // P27.1 to P27.3
	for _, cap := range []int{1, 2, 3, 4, 5, 8, 64} {
		for ticks := range 40 {
			for _, lost := range []bool{false, true} {
				w := opened(t, cap, 3, 5, 6, 7)
				w.texts("a", "b")
				for range ticks {
					w.tick()
				}
				w.end(lost)
				for range 40 {
					w.tick()
				}
				w.end(lost) // and now none is left, nor is a timer
				for range 40 {
					w.tick()
				}
				w.texts("c")
				for range 40 {
					w.tick()
				}
				w.holds()
			}
		}
	}
}

// end brings the message to its end: Unknown, or Confirmed.
func (w *twin) end(lost bool) {
	w.t.Helper()
	if !lost {
		w.ack(3)
		return
	}
	w.chal(1, 1)
	w.chal(1, 2)
}

// Where there is no message nothing is taken, not even with the T that State tells, or with the last one.
func TestTakeOfNoMessage(t *testing.T) { // P27.3
	for _, ends := range []string{"", "ack", "lost"} {
		w := opened(t, 2, 2, 5, 6)
		if ends != "" {
			w.texts("a")
			w.chal(8, 9)
			w.end(ends == "lost")
		}
		for _, kind := range slices.Concat(oddKinds, []int{req, chal, data, ack}) {
			for _, n := range numbers {
				w.take(api.Token{Kind: kind, T: n, C: 8, R: 9})
				w.take(api.Token{Kind: kind, T: 5, C: n, R: n})
			}
			w.stands()
		}
		w.holds()
		w.tick()
		w.texts("b")
		w.chal(1, 2)
		w.holds()
	}
}

// Only what has its T is taken, of each T and of those that are the same but for one bit.
func TestTakeOfAnotherT(t *testing.T) { // P27.3
	for _, n := range numbers {
		for _, bound := range []bool{false, true} {
			w := opened(t, 2, 2, n, n+1)
			w.texts("a", "b")
			if bound {
				w.chal(8, 9)
			}
			others := slices.Clone(numbers)
			for bit := range 64 {
				others = append(others, n^1<<bit)
			}
			for _, other := range others {
				if other == n {
					continue
				}
				w.take(api.Token{Kind: chal, T: other, C: n, R: n})
				w.take(api.Token{Kind: chal, T: other, C: 8, R: 9})
				w.take(api.Token{Kind: ack, T: other, C: n, R: n})
				w.take(api.Token{Kind: ack, T: other, R: 9})
				w.take(api.Token{Kind: data, T: other, C: n, R: n})
				w.stands()
			}
			w.holds()
			w.chal(8, 9)
			w.ack(9)
			w.holds()
		}
	}
}

// Each challenge and each incarnation that may come first: bound to that one, and given with that challenge.
func TestTakeThatBinds(t *testing.T) { // P27.3, P27.4
	for _, n := range numbers {
		for _, c := range numbers {
			for _, r := range numbers {
				w := opened(t, 2, 1, n)
				w.texts("a")
				w.chal(c, r)
				if got, want := w.a.State(), (asker.State{Accepted: 1, T: n, R: r, Bound: true}); got != want {
					t.Fatal(got, want)
				}
				w.stands()
			}
		}
	}
}

// The incarnation that it is bound to is given the message again and again, with each challenge that it tells.
func TestTakeOfTheSameR(t *testing.T) { // P27.3, P27.5
	for _, r := range numbers {
		w := opened(t, 2, 2, 7)
		w.texts("a", "b")
		for _, c := range numbers {
			w.chal(c, r)
			w.chal(c, r)
			w.tick()
			w.stands()
		}
		for _, c := range slices.Backward(numbers) {
			w.chal(c, r)
		}
		w.holds()
		w.ack(r)
		w.holds()
	}
}

// Another incarnation's challenge, whichever, and be it the same but for one bit: Unknown is told, nothing is given, and the next one is begun with, which anybody may be given.
func TestTakeOfAnotherR(t *testing.T) { // P27.3, P27.5
	for _, r := range numbers {
		others := slices.Clone(numbers)
		for bit := range 64 {
			others = append(others, r^1<<bit)
		}
		for _, other := range others {
			if other == r {
				continue
			}
			w := opened(t, 2, 2, 7, 8)
			w.texts("a", "b")
			w.chal(r, r)
			l := w.a.Take(api.Token{Kind: chal, T: 7, C: r, R: other})
			w.are(l, w.taken(api.Token{Kind: chal, T: 7, C: r, R: other}), "another R")
			if got := w.a.State(); got != (asker.State{Accepted: 2, Done: 1, T: 8}) {
				t.Fatal(r, other, got)
			}
			w.chal(1, other) // bound to that one, as the one ahead was to this
			w.stands()
			w.chal(1, r)
			if got := w.a.State(); got != (asker.State{Accepted: 2, Done: 2}) {
				t.Fatal(r, other, got)
			}
			w.stands()
			w.polls()
		}
	}
}

// What the message ahead was bound to says nothing of the next one: the same incarnation binds it, and so does another one.
func TestTakeOfAnEarlierR(t *testing.T) { // P27.1, P27.3
	for _, second := range []uint64{9, 10, 0} {
		for _, lost := range []bool{false, true} {
			w := opened(t, 2, 3, 5, 6, 7)
			w.texts("a", "b", "c")
			w.chal(1, 9)
			if lost {
				w.chal(1, 10)
			} else {
				w.ack(9)
			}
			if got := w.a.State(); got != (asker.State{Accepted: 3, Done: 1, T: 6}) {
				t.Fatal(got)
			}
			w.chal(2, second)
			w.holds()
			w.chal(3, second)
			w.holds()
			w.ack(second)
			w.chal(4, 9)
			w.holds()
			w.chal(5, 9)
			w.ack(second)
			w.holds()
		}
	}
}

// R 0 is an incarnation as any other one: it binds, and another one behind it is another one; and 0 behind another one is another one, too.
func TestTakeOfR0(t *testing.T) { // P27.3, P27.5
	w := opened(t, 2, 4, 5, 6, 7, 8)
	w.texts("a", "b", "c")
	w.chal(1, 0)
	if got := w.a.State(); got != (asker.State{Accepted: 3, T: 5, Bound: true}) {
		t.Fatal(got)
	}
	w.chal(2, 0)
	w.chal(2, 1)
	if got := w.a.State(); got != (asker.State{Accepted: 3, Done: 1, T: 6}) {
		t.Fatal(got)
	}
	w.chal(2, 1)
	w.chal(2, 0)
	if got := w.a.State(); got != (asker.State{Accepted: 3, Done: 2, T: 7}) {
		t.Fatal(got)
	}
	w.chal(2, 0)
	w.ack(0)
	w.polls()
	for id, want := range []int{unknown, unknown, confirmed} {
		if o, e := w.a.Poll(id); o != want || e != fine {
			t.Fatal(id, o, e)
		}
	}
}

// An ack ahead of any challenge, behind one, and with any C, R and Data: Confirmed; and none of an earlier T is one of this one.
func TestTakeOfAnAck(t *testing.T) { // P27.3
	for _, c := range numbers {
		for _, r := range numbers {
			for _, bound := range []bool{false, true} {
				w := opened(t, 2, 2, 5, 6)
				w.texts("a", "b")
				if bound {
					w.chal(1, 2)
				}
				w.take(api.Token{Kind: ack, T: 5, C: c, R: r, Data: []byte("d")})
				if got := w.a.State(); got != (asker.State{Accepted: 2, Done: 1, T: 6}) {
					t.Fatal(got)
				}
				w.take(api.Token{Kind: ack, T: 5, C: c, R: r})
				w.stands()
				w.poll(0)
				w.poll(1)
				w.take(api.Token{Kind: ack, T: 6, C: c, R: r})
				w.stands()
				w.poll(0)
				w.poll(1)
			}
		}
	}
}

// Each other kind, with the T that is asked with: nothing, bound or not.
func TestTakeOfOtherKinds(t *testing.T) { // P27.3
	for _, bound := range []bool{false, true} {
		w := opened(t, 2, 2, 5, 6)
		w.texts("a", "b")
		if bound {
			w.chal(8, 9)
		}
		was := w.a.State()
		for _, kind := range slices.Concat(oddKinds, far, []int{req, data}) {
			for _, n := range numbers {
				if l := w.a.Take(api.Token{Kind: kind, T: 5, C: 8, R: n, Data: []byte("a")}); len(l) != 0 {
					t.Fatal(kind, told(l))
				}
			}
			if w.a.State() != was {
				t.Fatal(kind, w.a.State())
			}
		}
		w.holds()
		w.chal(1, 9)
		w.ack(9)
		w.holds()
	}
}

// What a challenge has as Data is nothing to the asker: the message is what is given.
func TestDataOfAChallenge(t *testing.T) { // P27.3
	for _, m := range messages() {
		w := opened(t, 2, 1, 5)
		w.texts("mine")
		w.take(api.Token{Kind: chal, T: 5, C: 1, R: 2, Data: m})
		w.take(api.Token{Kind: chal, T: 5, C: 1, R: 2, Data: make([]byte, 500)})
		w.take(api.Token{Kind: chal, T: 5, C: 1, R: 3, Data: m})
		w.holds()
	}
}

// How it stands: without a message, with one that isn't bound, with one that is, and behind each outcome, with another one there and with none.
func TestState(t *testing.T) { // P27.4
	w := opened(t, 2, 2, 5, 6, 7, 8)
	is := func(accepted, done int, n, r uint64, bound bool) {
		t.Helper()
		if got, want := w.a.State(), (asker.State{Accepted: accepted, Done: done, T: n, R: r, Bound: bound}); got != want {
			t.Fatalf("%+v, not %+v", got, want)
		}
	}
	is(0, 0, 0, 0, false)
	w.texts("a")
	is(1, 0, 5, 0, false)
	w.chal(1, 9)
	is(1, 0, 5, 9, true)
	w.texts("b")
	is(2, 0, 5, 9, true)
	w.ack(9)
	is(2, 1, 6, 0, false)
	w.chal(2, 9)
	is(2, 1, 6, 9, true)
	w.ack(9)
	is(2, 2, 0, 0, false)
	w.texts("c", "d")
	is(4, 2, 7, 0, false)
	w.chal(3, 4)
	is(4, 2, 7, 4, true)
	w.chal(3, 5)
	is(4, 3, 8, 0, false)
	w.chal(3, 6)
	is(4, 3, 8, 6, true)
	w.chal(3, 7)
	is(4, 4, 0, 0, false)
	w.tick()
	is(4, 4, 0, 0, false)
}

// mix does so many acts that are drawn.
func (w *twin) mix(next func(int) int, n int) {
	w.t.Helper()
	all := messages()
	for range n {
		r := uint64(next(3))
		switch x := next(20); {
		case x < 4:
			w.send(all[next(len(all))])
		case x == 4:
			w.send(make([]byte, maxData+1+next(100)))
		case x < 8:
			w.tick()
		case x < 13:
			w.chal(uint64(next(5)), r*uint64(next(2)))
		case x < 15:
			w.ack(r)
		case x == 15:
			w.take(api.Token{Kind: chal, T: w.n + r, C: r, R: 1})
		case x == 16:
			w.take(api.Token{Kind: ack, T: w.n - r, R: 1})
		case x == 17:
			w.take(api.Token{Kind: next(7) - 1, T: numbers[next(len(numbers))], C: 1, R: r, Data: all[next(len(all))]})
		case x == 18:
			w.take(api.Token{Kind: 2 * next(2), T: w.n, C: r, R: r, Data: all[next(len(all))]})
		default:
			w.take(api.Token{Kind: oddKinds[next(len(oddKinds))], T: w.n, C: r, R: r})
		}
	}
}

func TestManyActs(t *testing.T) { // P27.1 to P27.4
	for room := 1; room <= maxRoom; room++ {
		for seed := range 120 {
			next := drawn(seed*100 + room)
			w := opened(t, 1+(seed*7+room)%maxCap, room, numbers[:seed%len(numbers)]...)
			for range 100 {
				w.mix(next, 1)
				w.holds()
			}
			w.polls()
		}
	}
}

// Long walks, of numbers of which few are other ones, so that what is old is taken for what is not, now and then.
func TestLongWalks(t *testing.T) { // P27.1 to P27.4
	for seed := range 60 {
		next := drawn(seed)
		draws := make([]uint64, 400)
		for i := range draws {
			draws[i] = uint64(next(3))
		}
		w := opened(t, 1+seed, 1+seed%maxRoom, draws...)
		for range 40 {
			w.mix(next, 50)
			w.holds()
		}
		w.polls()
		if len(w.outcomes) < 50 || !slices.Contains(w.outcomes, confirmed) || !slices.Contains(w.outcomes, unknown) {
			t.Fatal(seed, w.outcomes)
		}
	}
}

// Each row of up to six acts, in small rooms.
func TestEachShortRow(t *testing.T) { // P27.1 to P27.5
	const deep, acts = 6, 7
	rows := 1
	for range deep {
		rows *= acts
	}
	for room := 1; room <= 2; room++ {
		for row := range rows {
			p := pooled(1, 2, 1)
			a, _ := asker.New(api.Config{B: 2, Room: room}, p.s)
			w := &twin{t: t, a: a, c: api.Config{B: 2, Room: room}, pool: p}
			for left, i := row, 0; i < deep; i, left = i+1, left/acts {
				switch left % acts {
				case 0:
					w.texts("a")
				case 1:
					w.tick()
				case 2:
					w.take(api.Token{Kind: chal, T: 1, C: 3, R: 4})
				case 3:
					w.take(api.Token{Kind: chal, T: 1, C: 4, R: 0})
				case 4:
					w.take(api.Token{Kind: ack, T: 1})
				case 5:
					w.take(api.Token{Kind: ack, T: 2, R: 4})
				case 6:
					w.take(api.Token{Kind: chal, T: 2, C: 1, R: 4})
				}
				w.stands()
			}
			for id := range 3 {
				w.poll(id)
			}
		}
	}
}

// By the answers alone, over any acts: the data of one message are sent with challenges of one incarnation alone, to each such one once, and Unknown is told only where challenges of two came in while it was the message.
func TestOneIncarnationAlone(t *testing.T) { // P27.3, P27.5
	for seed := range 400 {
		next := drawn(seed)
		a, _ := asker.New(api.Config{B: 1 + seed%9, Room: 1 + seed%maxRoom}, nonce.New(nil))
		given, came := map[int]map[uint64]bool{}, map[int]map[uint64]bool{} // by the message's number: with whose challenges it was given, and whose came
		for range 300 {
			was := a.State()
			if given[was.Done] == nil {
				given[was.Done], came[was.Done] = map[uint64]bool{}, map[uint64]bool{}
			}
			var l []api.Token
			var in api.Token
			switch next(6) {
			case 0:
				_, l, _ = a.Send(fmt.Append(nil, was.Accepted))
			case 1:
				l = a.Tick()
			default:
				in = api.Token{Kind: next(5), T: was.T - uint64(next(8)/7), C: uint64(next(9)), R: uint64(next(seed%4 + 1))}
				if in.Kind == chal && in.T == was.T {
					came[was.Done][in.R] = true
				}
				l = a.Take(in)
			}
			for _, x := range l {
				if x.Kind != data {
					continue
				}
				given[was.Done][in.R] = true
				if in.Kind != chal || x.T != in.T || x.C != in.C || x.R != 0 || string(x.Data) != fmt.Sprint(was.Done) || a.State().Done != was.Done {
					t.Fatal(seed, was, in, told(l))
				}
			}
			if len(given[was.Done]) > 1 || len(l) > 1 {
				t.Fatal(seed, was, given[was.Done], told(l))
			}
		}
		for id := range a.State().Done {
			switch o, e := a.Poll(id); {
			case e != fine, o != confirmed && o != unknown, o == unknown && len(came[id]) < 2:
				t.Fatal(seed, id, o, e, came[id])
			}
		}
		if seed%4 > 0 && a.State().Done < 5 {
			t.Fatal(seed, a.State())
		}
	}
}

// What is sent, by what it is: a TkReq has a T alone; nothing else but a TkReq and a TkData is sent, and one at a time.
func TestWhatIsSent(t *testing.T) { // P27.1 to P27.3, rule 5
	for seed := range 100 {
		next := drawn(seed)
		w := opened(t, 1+seed%maxCap, 1+seed%maxRoom, numbers...)
		check := func(l []api.Token) {
			t.Helper()
			switch {
			case len(l) > 1, len(l) == 1 && l[0].Kind != req && l[0].Kind != data, len(l) == 1 && l[0].R != 0:
				t.Fatal(told(l))
			case len(l) == 1 && l[0].Kind == req && (l[0].C != 0 || len(l[0].Data) != 0):
				t.Fatal(told(l))
			case len(l) == 1 && l[0].T != w.a.State().T:
				t.Fatal(told(l), w.a.State())
			}
		}
		for range 200 {
			_, l, _ := w.a.Send(noise(seed, next(70)))
			check(l)
			check(w.a.Tick())
			check(w.a.Take(api.Token{Kind: next(6) - 1, T: w.a.State().T, C: most, R: uint64(next(2)), Data: []byte("x")}))
		}
	}
}

// spare answers b with room behind it in which a guard stands, and a function that tells whether b and the guard are as they were.
func spare(b []byte) ([]byte, func() bool) {
	whole := slices.Concat([]byte{7}, b, noise(len(b), 100))
	was := bytes.Clone(whole)
	return whole[1 : 1+len(b)], func() bool { return bytes.Equal(whole, was) }
}

// What is handed in isn't changed, nor what stands behind it, whether it is taken or not, and whatever comes later.
func TestWhatIsHandedInStays(t *testing.T) { // rule 3
	w := opened(t, 4, 4, 1, 2, 3)
	for i, m := range append(messages(), noise(1, maxData+1), noise(2, 500)) {
		b, sent := spare(m)
		d, taken := spare(m)
		w.send(b)
		for kind := -1; kind < 5; kind++ {
			w.take(api.Token{Kind: kind, T: w.n + 1, C: 1, R: 9, Data: d})
			if kind != ack {
				w.take(api.Token{Kind: kind, T: w.n, C: 1, R: 9, Data: d})
			}
		}
		w.tick()
		if i%2 == 0 && w.some() {
			w.take(api.Token{Kind: ack, T: w.n, Data: d})
		}
		w.chal(2, 9)
		w.holds()
		if !sent() || !taken() {
			t.Fatal(i, m)
		}
	}
	for _, a := range unmade() {
		b, untouched := spare([]byte("abc"))
		a.Send(b)
		a.Take(api.Token{Kind: chal, Data: b})
		a.Take(api.Token{Kind: ack, Data: b})
		if !untouched() {
			t.Fatal(b)
		}
	}
}

// What was handed in may be written afterwards: what was sent is what it was by then, and of a packet's Data nothing is kept.
func TestWhatIsHandedInIsNotKept(t *testing.T) { // rule 3
	for _, m := range messages() {
		w := opened(t, 4, 3, 1, 2, 3)
		for range 4 { // the last one is refused
			mine, _ := spare(m)
			w.send(mine)
			overwrite(mine)
			w.holds()
		}
		for i := range 3 {
			d, _ := spare(m)
			for kind := range 3 {
				w.take(api.Token{Kind: kind, T: w.n, C: 4, R: 5, Data: d})
				overwrite(d)
				w.chal(6, 5)
			}
			w.end(i%2 == 0)
		}
		w.holds()
	}
}

// One list of bytes, written over for each Send.
func TestOneBufferForAll(t *testing.T) { // rule 3
	for room := 1; room <= maxRoom; room++ {
		w := opened(t, 2, room)
		buffer := make([]byte, 5)
		for i := range 3 * room {
			for at := range buffer {
				buffer[at] = byte(i + at)
			}
			w.send(buffer[:1+i%5])
			clear(buffer)
			w.chal(1, 2)
			w.holds()
			if i%3 == 2 {
				w.ack(2)
				w.chal(1, 2)
			}
		}
	}
}

// The numbers that a source was handed may be written: what is drawn are those that it was handed.
func TestDrawsAreTheSources(t *testing.T) { // P27.1, rule 3
	draws := []uint64{5, 6, 7}
	a, _ := asker.New(api.Config{B: 1, Room: 3}, nonce.New(draws))
	for i, n := range []uint64{5, 6, 7, half} {
		clear(draws)
		if _, l, _ := a.Send(nil); told(l) != fmt.Sprintf(`0 %d 0 0 ""`, n) {
			t.Fatal(i, told(l))
		}
		a.Take(api.Token{Kind: ack, T: n})
	}
}

// What is told may be written, cut and grown, and no later answer is another one; two answers share nothing.
func TestAnswersShareNothing(t *testing.T) { // rule 3
	for _, m := range messages() {
		w := opened(t, 1, 3, 5, 6, 7)
		w.send(m)
		w.send(m)
		for range 2 {
			want := []api.Token{{Kind: data, T: w.n, C: 3, Data: m}}
			asked := []api.Token{{T: w.n}}
			in := api.Token{Kind: chal, T: w.n, C: 3, R: 4}
			w.take(in)
			a, b := w.a.Take(in), w.a.Take(in)
			x, y := w.a.Tick(), w.a.Tick()
			for range 3 {
				spoil(a)
				spoil(x)
				if !same(b, want) || !same(y, asked) {
					t.Fatal(told(b), told(y), told(want))
				}
				w.take(in)
				w.holds()
				a, b = b, w.a.Take(in)
				x, y = y, w.a.Tick()
			}
			w.ack(4)
			if !same(b, want) || !same(y, asked) {
				t.Fatal(told(b), told(y), told(want))
			}
		}
	}
}

// What was told stays what it was, whatever comes later.
func TestAnswersStay(t *testing.T) { // rule 3
	next := drawn(9)
	a, _ := asker.New(api.Config{B: 3, Room: 5}, nonce.New([]uint64{5, 6, 7}))
	var answers [][]api.Token
	var were []string
	keep := func(l []api.Token) {
		answers, were = append(answers, l), append(were, told(l))
	}
	for i := range 600 {
		if next(2) == 0 {
			_, l, _ := a.Send(noise(i, next(60)))
			keep(l)
		}
		in := api.Token{Kind: chal, T: a.State().T, C: uint64(i), R: uint64(i / 40)}
		keep(a.Take(in))
		keep(a.Take(in))
		keep(a.Tick())
		if next(5) == 0 {
			keep(a.Take(api.Token{Kind: ack, T: a.State().T}))
		}
	}
	for i, l := range answers {
		if told(l) != were[i] {
			t.Fatal(i, told(l), were[i])
		}
		spoil(l)
	}
	w := opened(t, 3, 5)
	w.mix(next, 50)
}

// What was told may be sent and taken, by the same one and by another one, and be written then.
func TestToldIsSentAgain(t *testing.T) { // rule 3
	x, y := opened(t, 1, 3, 5, 6), opened(t, 1, 16, 5, 6)
	x.texts("a", "another", "")
	for i := range 16 {
		in := api.Token{Kind: chal, T: x.n, C: 1, R: 2}
		x.taken(in)
		l := x.a.Take(in)
		x.take(l[0])
		y.take(l[0])
		y.send(l[0].Data)
		x.ack(2)
		x.send(l[0].Data)
		spoil(l)
		x.holds()
		y.holds()
		if i%3 == 2 {
			y.chal(1, 2)
			y.ack(2)
		}
	}
}

// unmade are the askers that New did not make.
func unmade() []*asker.Asker {
	return []*asker.Asker{nil, new(asker.Asker), {}}
}

// nothing fails the test if the asker, which New did not make, isn't such.
func nothing(t *testing.T, a *asker.Asker) {
	t.Helper()
	for _, m := range [][]byte{nil, []byte("a"), make([]byte, maxData), make([]byte, maxData+1)} {
		if id, l, e := a.Send(m); id != 0 || len(l) != 0 || e != errNil {
			t.Fatal(len(m), id, told(l), e)
		}
	}
	for _, id := range []int{0, 1, -1, math.MinInt, math.MaxInt} {
		if o, e := a.Poll(id); o != 0 || e != errNil {
			t.Fatal(id, o, e)
		}
	}
	if l := a.Tick(); len(l) != 0 {
		t.Fatal(told(l))
	}
	for kind := -1; kind < 5; kind++ {
		for _, n := range []uint64{0, 1, half, most} {
			if l := a.Take(api.Token{Kind: kind, T: n, C: n, R: n, Data: []byte("a")}); len(l) != 0 {
				t.Fatal(kind, n, told(l))
			}
		}
	}
	if s := a.State(); s != (asker.State{}) {
		t.Fatal(s)
	}
}

// Each call as the first one, and each behind each other one.
func TestUnmade(t *testing.T) { // P27.1 to P27.4, rules 1 and 2
	calls := []func(a *asker.Asker) bool{
		func(a *asker.Asker) bool {
			id, l, e := a.Send([]byte("a"))
			return id == 0 && len(l) == 0 && e == errNil
		},
		func(a *asker.Asker) bool {
			id, l, e := a.Send(make([]byte, 1000))
			return id == 0 && len(l) == 0 && e == errNil
		},
		func(a *asker.Asker) bool { o, e := a.Poll(0); return o == 0 && e == errNil },
		func(a *asker.Asker) bool { o, e := a.Poll(-1); return o == 0 && e == errNil },
		func(a *asker.Asker) bool { return len(a.Tick()) == 0 },
		func(a *asker.Asker) bool { return len(a.Take(api.Token{})) == 0 },
		func(a *asker.Asker) bool { return len(a.Take(api.Token{Kind: chal, C: 1, R: 2})) == 0 },
		func(a *asker.Asker) bool { return len(a.Take(api.Token{Kind: ack})) == 0 },
		func(a *asker.Asker) bool { return a.State() == asker.State{} },
	}
	for i := range unmade() {
		for first, f := range calls {
			for second, g := range calls {
				a := unmade()[i]
				for range 20 {
					if !f(a) || !g(a) {
						t.Fatal(i, first, second)
					}
				}
				nothing(t, a)
			}
		}
	}
}

// An asker that is a part of something else, and that nobody made, is no other than one of its own.
func TestUnmadeInside(t *testing.T) { // P27.1 to P27.4, rule 1
	var s struct {
		before uint64
		a      asker.Asker
		after  uint64
	}
	var l [3]asker.Asker
	for range 40 {
		nothing(t, &s.a)
		for i := range l {
			nothing(t, &l[i])
		}
		if s.before != 0 || s.after != 0 {
			t.Fatal(s.before, s.after)
		}
	}
}

// An asker has the chapter's calls, and none of its parts': nobody else's Push or Pop comes at what it has.
func TestNoOtherCalls(t *testing.T) { // P27.1 to P27.4
	p := reflect.TypeFor[*asker.Asker]()
	var names []string
	for m := range p.Methods() {
		names = append(names, m.Name)
	}
	if want := []string{"Poll", "Send", "State", "Take", "Tick"}; !slices.Equal(names, want) {
		t.Fatal(names)
	}
	for f := range p.Elem().Fields() {
		if f.IsExported() {
			t.Fatal(f.Name)
		}
	}
}

// Askers with sources of their own have nothing to do with one another, nor with one that nobody made.
func TestTwoAskers(t *testing.T) { // rule 4
	next := drawn(7)
	x, y, z := opened(t, 3, 1, 5), opened(t, 64, 16, 5), opened(t, 3, 1, 5)
	for i := range 400 {
		x.mix(next, 1)
		y.mix(next, 1)
		if i%3 == 0 {
			z.mix(next, 1)
		}
		for _, a := range unmade() {
			nothing(t, a)
		}
		opened(t, 3, 1, 5).texts("a", "b")
		x.holds()
		y.holds()
		z.holds()
	}
}

// The same calls are answered alike, many times over.
func TestTheSameAgain(t *testing.T) { // rule 4
	run := func(seed int) string {
		a, _ := asker.New(api.Config{B: 1 + seed, Room: 1 + seed%maxRoom}, nonce.New(numbers[:seed]))
		next := drawn(seed)
		var said strings.Builder
		for range 300 {
			switch next(4) {
			case 0:
				id, l, e := a.Send(noise(next(100), next(80)))
				fmt.Fprint(&said, id, told(l), e)
			case 1:
				said.WriteString(told(a.Tick()))
			default:
				said.WriteString(told(a.Take(api.Token{Kind: 1 + next(3), T: a.State().T, C: uint64(next(9)), R: uint64(next(2))})))
			}
			fmt.Fprint(&said, a.State())
			for id := range 5 {
				o, e := a.Poll(id * 20)
				fmt.Fprint(&said, o, e)
			}
		}
		return said.String()
	}
	for seed := range 20 {
		want := run(seed)
		for range 10 {
			if run(seed) != want {
				t.Fatal("other answers")
			}
		}
	}
}

// inUse is how many bytes are kept.
func inUse() int {
	var m runtime.MemStats
	runtime.GC()
	runtime.GC()
	runtime.ReadMemStats(&m)
	return int(m.HeapAlloc)
}

// Of a message that is done no more is kept than what became of it, and of packets nothing is.
func TestWhatIsKept(t *testing.T) { // P27.1 to P27.3
	const many, each = 200, 200
	var l [many]*asker.Asker
	for i := range l {
		l[i], _ = asker.New(api.Config{B: 1, Room: maxRoom}, nonce.New(nil))
	}
	before := inUse()
	for _, a := range l {
		for n := range each {
			a.Send(make([]byte, maxData))
			a.Tick()
			a.Take(api.Token{Kind: chal, T: a.State().T, R: 1, Data: make([]byte, 10000)})
			a.Take(api.Token{Kind: chal + 2*(n%2), T: a.State().T, R: 2, Data: make([]byte, 10000)})
		}
	}
	if left := inUse() - before; left > many*each*50 {
		t.Fatal(left)
	}
	for _, a := range l {
		if s := a.State(); s.Accepted != each || s.Done != each {
			t.Fatal(s)
		}
	}
}
