package giver_test

import (
	"bytes"
	"fmt"
	"kedge/api"
	"kedge/asker"
	"kedge/giver"
	"kedge/nonce"
	"kedge/queue"
	"math"
	"reflect"
	"runtime"
	"slices"
	"strings"
	"testing"
)

// The numbers that the chapter and its page name, written out, so that the tests hold whatever api says.
const (
	maxData = 64
	maxRoom = 16
	half    = 9223372036854775808  // 2^63, which is drawn when nothing that was handed in is left
	most    = 18446744073709551615 // 2^64 - 1
)

// The errors, the outcomes and the kinds, written out.
const (
	fine      api.Errno = 0
	errArg    api.Errno = 1
	waiting             = 0
	confirmed           = 1
	unknown             = 2
	req                 = 0
	chal                = 1
	data                = 2
	ack                 = 3
)

// far are ints far outside of all bounds; among them such as may be, if they are cut short or have no sign.
var far = []int{
	-1, -2, -16, -64, -255, -256, -65536, -1 << 31, -1 << 32, 1 - 1<<32, 4 - 1<<32, -1 << 62, 1 - 1<<62, math.MinInt, math.MinInt + 1, math.MinInt + 4,
	65, 255, 256, 257, 260, 65536, 65537, 1<<31 - 1, 1 << 31, 1<<32 - 1, 1 << 32, 1<<32 + 1, 1<<32 + 4, 1<<32 + 16, 1 << 62, 1<<62 + 1, math.MaxInt - 1, math.MaxInt,
}

// oddKinds are kinds that no packet has; among them such as have one if they are cut short.
var oddKinds = []int{4, 5, 6, 7, 8, 9, 255, 256, 257, 258, 259, 65536, 65538, 65539, 1 << 32, 1<<32 + 1, 1<<32 + 2, 1<<32 + 3, -1, -2, -3, -254, -255, -256, math.MaxInt, math.MaxInt - 1, math.MinInt, math.MinInt + 1, math.MinInt + 2, math.MinInt + 3}

// numbers are such as nonces, challenges and incarnations may be, each another one; among them such as are others if they are cut short, lose a bit, or have a sign.
var numbers = []uint64{
	0, 1, 2, 3, 5, 255, 256, 257, 65535, 65536, 65537, 1<<31 - 1, 1 << 31, 1<<32 - 1, 1 << 32, 1<<32 + 1, 1 << 53, 1<<53 + 1,
	half - 1, half, half + 1, most - 1<<32, most - 256, most - 1, most,
}

// but answers numbers that are others than n: those above, and n with each one of its bits turned.
func but(n uint64) []uint64 {
	l := slices.DeleteFunc(slices.Clone(numbers), func(x uint64) bool { return x == n })
	for bit := range 64 {
		l = append(l, n^1<<bit)
	}
	return l
}

// pool is a source, and beside it what was drawn of it, kept apart.
type pool struct {
	s     *nonce.Source
	draws []uint64
	used  int
}

// pooled is a source of these.
func pooled(draws ...uint64) *pool {
	return &pool{s: nonce.New(draws), draws: draws}
}

// next is the number that is drawn.
func (p *pool) next() uint64 {
	p.used++
	if p.used <= len(p.draws) {
		return p.draws[p.used-1]
	}
	return half + uint64(p.used-1-len(p.draws))
}

// twin is a giver, and beside it what the chapter says of it, kept apart: all messages that entered with their T's, and all challenges that there ever were, of which the last one may be open.
type twin struct {
	t        *testing.T
	g        *giver.Giver
	room     int
	pool     *pool
	r        uint64
	ts       []uint64
	messages []string
	returned int
	told     [][2]uint64
	open     bool
}

// opened is a giver whose queue is empty, of its own source.
func opened(t *testing.T, room int, draws ...uint64) *twin {
	t.Helper()
	return of(t, pooled(draws...), room)
}

// of is a giver whose queue is empty that draws of that.
func of(t *testing.T, p *pool, room int) *twin {
	t.Helper()
	g, e := giver.New(room, p.s)
	if g == nil || e != fine {
		t.Fatalf("New(%d) = %v, %d", room, g, e)
	}
	w := &twin{t: t, g: g, room: room, pool: p, r: p.next()}
	w.holds()
	return w
}

// waits is how many messages are in the queue.
func (w *twin) waits() int {
	return len(w.messages) - w.returned
}

// isOpen is whether the open challenge is of that T.
func (w *twin) isOpen(n uint64) bool {
	return w.open && w.told[len(w.told)-1][0] == n
}

// c is the number of the last challenge, 0 if there was none.
func (w *twin) c() uint64 {
	if len(w.told) == 0 {
		return 0
	}
	return w.told[len(w.told)-1][1]
}

// asked is what is sent to who asks with that T.
func (w *twin) asked(n uint64) []api.Token {
	if i := len(w.ts) - 1; i >= 0 && w.ts[i] == n {
		return w.acked()
	}
	if !w.isOpen(n) {
		w.told = append(w.told, [2]uint64{n, w.pool.next()})
		w.open = true
	}
	return []api.Token{{Kind: chal, T: n, C: w.c(), R: w.r}}
}

// acked is what is sent of the last message that entered.
func (w *twin) acked() []api.Token {
	if w.waits() != 0 {
		return nil
	}
	return []api.Token{{Kind: ack, T: w.ts[len(w.ts)-1], R: w.r}}
}

// taken is what is sent when that is taken.
func (w *twin) taken(t api.Token) []api.Token {
	switch {
	case t.Kind == req:
		return w.asked(t.T)
	case t.Kind != data:
		return nil
	case w.isOpen(t.T) && w.c() == t.C:
		if len(t.Data) <= maxData && w.waits() < w.room {
			w.messages, w.ts, w.open = append(w.messages, string(t.Data)), append(w.ts, t.T), false
		}
		return nil
	case len(w.ts) != 0 && w.ts[len(w.ts)-1] == t.T:
		return w.asked(t.T)
	}
	return nil
}

// take hands in a packet, and is kept.
func (w *twin) take(t api.Token) {
	w.t.Helper()
	w.are(w.g.Take(t), w.taken(t), "Take", t)
}

// ask hands in a TkReq, give a TkData.
func (w *twin) ask(n uint64) {
	w.t.Helper()
	w.take(api.Token{Kind: req, T: n})
}

func (w *twin) give(n, c uint64, m []byte) {
	w.t.Helper()
	w.take(api.Token{Kind: data, T: n, C: c, Data: m})
}

// enter asks with that T, and gives messages with what is told, one behind the other.
func (w *twin) enter(n uint64, l ...string) {
	w.t.Helper()
	for i, m := range l {
		w.ask(n + uint64(i))
		w.give(n+uint64(i), w.c(), []byte(m))
	}
}

// receive receives, and is kept.
func (w *twin) receive() {
	w.t.Helper()
	var want string
	var sent []api.Token
	there := w.waits() > 0
	if there {
		want = w.messages[w.returned]
		w.returned++
		sent = w.acked()
	}
	m, l, ok := w.g.Receive()
	if string(m) != want || ok != there {
		w.t.Fatalf("%d: Receive() = %q, %v, not %q, %v", w.room, m, ok, want, there)
	}
	overwrite(m)
	w.are(l, sent, "Receive")
}

// are fails the test if these packets aren't those; what was told is spoilt then.
func (w *twin) are(got, want []api.Token, what ...any) {
	w.t.Helper()
	if !same(got, want) {
		w.t.Fatalf("%d, %v: %s, not %s", w.room, what, told(got), told(want))
	}
	spoil(got)
}

// state is what State should tell.
func (w *twin) state() giver.State {
	return giver.State{Entered: len(w.messages), Returned: w.returned, R: w.r}
}

// holds fails the test if the giver isn't what is kept, or another one was drawn than was kept.
func (w *twin) holds() {
	w.t.Helper()
	if got := w.g.State(); got != w.state() {
		w.t.Fatalf("%d: State() = %+v, not %+v", w.room, got, w.state())
	}
	kept := w.g.Kept()
	if !slices.EqualFunc(kept, w.messages[w.returned:], func(m []byte, s string) bool { return string(m) == s }) {
		w.t.Fatalf("%d: Kept() = %q, not %q", w.room, kept, w.messages[w.returned:])
	}
	spoilKept(kept)
	if got := len(w.pool.s.Used()); got != w.pool.used {
		w.t.Fatalf("%d: %d were drawn, not %d", w.room, got, w.pool.used)
	}
}

// asks asks the same of it many times over, and with all T's that ever were: what it knows of each, and how all stands behind that.
func (w *twin) asks() {
	w.t.Helper()
	for _, n := range slices.Concat(w.ts, numbers[:5]) {
		w.ask(n)
		w.give(n, w.c()+1, []byte("not with this one"))
		w.ask(n)
		w.holds()
	}
}

// same tells whether these packets are those.
func same(a, b []api.Token) bool {
	return slices.EqualFunc(a, b, func(x, y api.Token) bool {
		return x.Kind == y.Kind && x.T == y.T && x.C == y.C && x.R == y.R && bytes.Equal(x.Data, y.Data)
	})
}

// told is packets as a text: all that each has.
func told(l []api.Token) string {
	var s []string
	for _, x := range l {
		s = append(s, fmt.Sprintf("%d %d %d %d %q", x.Kind, x.T, x.C, x.R, x.Data))
	}
	return strings.Join(s, ", ")
}

// drawn answers a function that tells numbers that look like noise, below n, the same ones in each run.
func drawn(begin int) func(n int) int {
	x := uint64(begin)
	return func(n int) int {
		x = x*6364136223846793005 + 1442695040888963407
		return int(x>>33) % n
	}
}

// noise is n bytes that look like noise.
func noise(begin, n int) []byte {
	next := drawn(begin)
	b := make([]byte, n)
	for i := range b {
		b[i] = byte(next(256))
	}
	return b
}

// messages are each another one: none, few bytes, such as mean something to other layers, and all lengths up to the longest.
func messages() [][]byte {
	l := [][]byte{nil, {0}, {0, 0}, {0, 'a'}, []byte("a"), []byte("a\x00"), {0x7e}, {0x7d}, {0xff}, {0xc0, 0x80}}
	for n := 1; n <= maxData; n++ {
		l = append(l, noise(n, n))
	}
	return l
}

// overwrite puts other bytes in all of b's memory, up to its capacity.
func overwrite(b []byte) {
	b = b[:cap(b)]
	for i := range b {
		b[i] = ^b[i]
	}
}

// spoil writes, cuts and grows what was told, and the Data in it.
func spoil(l []api.Token) {
	all := l[:cap(l)]
	for i := range all {
		overwrite(all[i].Data)
		_ = append(all[i].Data, "more"...)
		all[i] = api.Token{Kind: -5, T: 5, C: 6, R: 7}
	}
	_ = append(l[:len(l)/2], api.Token{Kind: 3})
	_ = append(l, api.Token{Kind: 4}, api.Token{Kind: 5})
}

// spoilKept does the same to messages that were told.
func spoilKept(l [][]byte) {
	all := l[:cap(l)]
	for i := range all {
		overwrite(all[i])
		_ = append(all[i][:len(all[i])/2], "written"...)
		_ = append(all[i], "more"...)
		all[i] = []byte("another one")
	}
	_ = append(l[:len(l)/2], nil)
	_ = append(l, nil, nil)
}

func TestExample(t *testing.T) { // P28.1 to P28.3
	g, e := giver.New(1, nonce.New([]uint64{9, 8}))
	if e != fine {
		t.Fatal(e)
	}
	if l := g.Take(api.Token{Kind: api.TkReq, T: 5}); told(l) != `1 5 8 9 ""` {
		t.Fatal(told(l))
	}
	if l := g.Take(api.Token{Kind: api.TkData, T: 5, C: 8, Data: []byte("a")}); len(l) != 0 {
		t.Fatal(told(l))
	}
	if m, l, ok := g.Receive(); string(m) != "a" || told(l) != `3 5 0 9 ""` || !ok {
		t.Fatal(m, told(l), ok)
	}
}

func TestTheNumbersOfApi(t *testing.T) { // P28.1 to P28.3
	for i, so := range []bool{
		api.OK == fine, api.ErrArg == errArg, api.Waiting == waiting, api.Confirmed == confirmed, api.Unknown == unknown,
		api.TkReq == req, api.TkChal == chal, api.TkData == data, api.TkAck == ack,
		api.MaxData == maxData, api.MaxRoom == maxRoom,
	} {
		if !so {
			t.Error(i)
		}
	}
}

// Each act, what it told, and how it stands behind that.
func TestWrittenOut(t *testing.T) { // P28.1 to P28.3
	const got, none = -1, -2
	const long = "abcdefghabcdefghabcdefghabcdefghabcdefghabcdefghabcdefghabcdefgh" // 64 bytes
	draws := nonce.New([]uint64{9, 8, 7, 6, 5, 4})
	g, _ := giver.New(2, draws)
	for i, x := range []struct {
		kind              int // or Receive, which tells m: got, or, where there is none, none
		t, c              uint64
		m                 string
		told              string
		entered, returned int
		kept              string
		drawn             int
	}{
		{none, 0, 0, "", ``, 0, 0, "", 1},
		{data, 5, 8, "x", ``, 0, 0, "", 1},
		{data, 0, 0, "x", ``, 0, 0, "", 1},
		{req, 5, 0, "", `1 5 8 9 ""`, 0, 0, "", 2},
		{req, 5, 0, "", `1 5 8 9 ""`, 0, 0, "", 2},
		{chal, 5, 8, "x", ``, 0, 0, "", 2},
		{ack, 5, 8, "x", ``, 0, 0, "", 2},
		{4, 5, 8, "x", ``, 0, 0, "", 2},
		{data, 5, 7, "x", ``, 0, 0, "", 2},
		{data, 4, 8, "x", ``, 0, 0, "", 2},
		{req, 5, 0, "", `1 5 8 9 ""`, 0, 0, "", 2},
		{req, 6, 0, "", `1 6 7 9 ""`, 0, 0, "", 3},
		{data, 5, 8, "x", ``, 0, 0, "", 3},
		{data, 6, 7, long + "x", ``, 0, 0, "", 3},
		{data, 6, 7, long, ``, 1, 0, "[" + long + "]", 3},
		{data, 6, 7, long, ``, 1, 0, "[" + long + "]", 3},
		{req, 6, 0, "", ``, 1, 0, "[" + long + "]", 3},
		{req, 5, 0, "", `1 5 6 9 ""`, 1, 0, "[" + long + "]", 4},
		{req, 6, 0, "", ``, 1, 0, "[" + long + "]", 4},
		{data, 6, 6, "x", ``, 1, 0, "[" + long + "]", 4},
		{data, 5, 6, "", ``, 2, 0, "[" + long + "][]", 4},
		{req, 6, 0, "", `1 6 5 9 ""`, 2, 0, "[" + long + "][]", 5},
		{data, 6, 5, "b", ``, 2, 0, "[" + long + "][]", 5},
		{data, 5, 5, "b", ``, 2, 0, "[" + long + "][]", 5},
		{got, 0, 0, long, ``, 2, 1, "[]", 5},
		{data, 5, 6, "", ``, 2, 1, "[]", 5},
		{got, 0, 0, "", `3 5 0 9 ""`, 2, 2, "", 5},
		{data, 5, 6, "", `3 5 0 9 ""`, 2, 2, "", 5},
		{data, 5, 5, "", `3 5 0 9 ""`, 2, 2, "", 5},
		{req, 5, 0, "", `3 5 0 9 ""`, 2, 2, "", 5},
		{req, 6, 0, "", `1 6 5 9 ""`, 2, 2, "", 5},
		{data, 6, 5, "c", ``, 3, 2, "[c]", 5},
		{data, 6, 5, "c", ``, 3, 2, "[c]", 5},
		{data, 5, 6, "c", ``, 3, 2, "[c]", 5},
		{got, 0, 0, "c", `3 6 0 9 ""`, 3, 3, "", 5},
		{none, 0, 0, "", ``, 3, 3, "", 5},
		{data, 6, 5, "c", `3 6 0 9 ""`, 3, 3, "", 5},
		{data, 5, 6, "c", ``, 3, 3, "", 5},
		{req, 0, 0, "", `1 0 4 9 ""`, 3, 3, "", 6},
		{req, most, 0, "", `1 18446744073709551615 9223372036854775808 9 ""`, 3, 3, "", 7},
		{req, 0, 0, "", `1 0 9223372036854775809 9 ""`, 3, 3, "", 8},
		{data, 0, half + 1, "d", ``, 4, 3, "[d]", 8},
		{got, 0, 0, "d", `3 0 0 9 ""`, 4, 4, "", 8},
	} {
		var m []byte
		var l []api.Token
		var ok bool
		if x.kind < 0 {
			m, l, ok = g.Receive()
			if string(m) != x.m || ok != (x.kind == got) {
				t.Fatalf("%d: %q, %v", i, m, ok)
			}
		} else {
			l = g.Take(api.Token{Kind: x.kind, T: x.t, C: x.c, Data: []byte(x.m)})
		}
		kept := ""
		for _, k := range g.Kept() {
			kept += "[" + string(k) + "]"
		}
		if s := g.State(); told(l) != x.told || s != (giver.State{Entered: x.entered, Returned: x.returned, R: 9}) || kept != x.kept || len(draws.Used()) != x.drawn {
			t.Fatalf("%d: %s, %+v, %s, %d", i, told(l), s, kept, len(draws.Used()))
		}
	}
}

// Each room that may be: as many messages are kept, and no more.
func TestNew(t *testing.T) { // P28.1, P28.2
	for room := 1; room <= maxRoom; room++ {
		w := opened(t, room, 1, 2, 3)
		for i := range room + 3 {
			w.enter(uint64(100+i), fmt.Sprint("m", i))
			w.holds()
		}
		if len(w.g.Kept()) != room {
			t.Fatal(room, w.g.Kept())
		}
		for range room + 3 {
			w.receive()
			w.holds()
		}
		w.asks()
	}
}

// With an error there is no giver, and nothing is drawn; which error the room's is is told by the queue. Both errors have one number, so their order is not to be seen.
func TestNewWithAnError(t *testing.T) { // P28.1, rules 1 and 2
	for _, room := range slices.Concat(far, []int{0, 1, 2, 8, 15, 16, 17, 18, 32, 63, 64}) {
		_, want := queue.New(room)
		mine := fine
		if room < 1 || room > 16 {
			mine = errArg
		}
		s := nonce.New([]uint64{3, 4})
		g, e := giver.New(room, s)
		if e != want || e != mine || (g == nil) != (e != fine) {
			t.Fatal(room, g, e, want)
		}
		if e != fine {
			if len(s.Used()) != 0 || s.Next() != 3 {
				t.Fatal(room, s.Used())
			}
			nothing(t, g)
		}
		g, e = giver.New(room, nil)
		if g != nil || e != errArg {
			t.Fatal(room, g, e)
		}
		nothing(t, g)
	}
}

// New draws one number, the incarnation, whichever that is, and no other one until somebody asks.
func TestIncarnation(t *testing.T) { // P28.1, P28.2
	for _, r := range numbers {
		for _, c := range numbers {
			w := opened(t, 1, r, c)
			if got := w.g.State(); got != (giver.State{R: r}) || w.pool.used != 1 {
				t.Fatal(got)
			}
			for kind := 1; kind < 5; kind++ {
				w.take(api.Token{Kind: kind, T: r, C: c, R: r, Data: []byte("x")})
			}
			w.receive()
			w.holds()
			if l := w.g.Take(api.Token{T: 6}); told(l) != fmt.Sprintf(`1 6 %d %d ""`, c, r) {
				t.Fatal(told(l))
			}
		}
	}
}

// A source of no number, of one, and of the same number several times.
func TestSources(t *testing.T) { // P28.1, P28.2
	for _, draws := range [][]uint64{nil, {}, {0}, {5}, {half}, {most}, {5, 5}, {5, 5, 5, 5}, {0, 0, 0, 0, 0}, {1, 2, 1, 2}, {half + 1}, {most, most}} {
		for room := 1; room <= 3; room++ {
			w := opened(t, room, draws...)
			for i := range 9 {
				w.enter(uint64(i%3), "a", "b", "c")
				w.asks()
				if i%2 == 0 {
					w.receive()
				}
				w.asks()
				w.receive()
			}
		}
	}
	g, e := giver.New(2, new(nonce.Source)) // nobody made it, and nothing is drawn of it
	if e != fine || g.State() != (giver.State{}) {
		t.Fatal(e, g.State())
	}
	for n := range uint64(3) {
		if l := g.Take(api.Token{T: n}); told(l) != fmt.Sprintf(`1 %d 0 0 ""`, n) {
			t.Fatal(told(l))
		}
		g.Take(api.Token{Kind: data, T: n, Data: []byte("a")})
		if m, l, ok := g.Receive(); string(m) != "a" || told(l) != fmt.Sprintf(`3 %d 0 0 ""`, n) || !ok {
			t.Fatal(m, told(l), ok)
		}
	}
}

// Where a challenge has the number of an earlier one of that T, what came with that one enters again.
func TestTheSameNumberTwice(t *testing.T) { // P28.2
	w := opened(t, 3, 9, 8, 7, 8)
	w.enter(5, "a", "b")
	w.give(5, 8, []byte("a"))
	w.holds()
	w.ask(5)
	w.give(5, 8, []byte("a"))
	w.holds()
	if got := w.g.State(); got.Entered != 3 {
		t.Fatal(got)
	}
	w.receive()
	w.receive()
	w.receive()
	w.asks()
}

// Two givers, and a giver and an asker, draw of one source in turn: an incarnation when one is made, then one for each challenge and each message.
func TestOneSourceForTwo(t *testing.T) { // P28.1, P28.2
	p := pooled(10, 20, 30, 40, 50)
	x, y := of(t, p, 1), of(t, p, 2)
	are := func(l []api.Token, want string) {
		t.Helper()
		if told(l) != want {
			t.Fatal(told(l), want)
		}
	}
	are(y.g.Take(api.Token{T: 1}), `1 1 30 20 ""`)
	are(x.g.Take(api.Token{T: 1}), `1 1 40 10 ""`)
	are(y.g.Take(api.Token{T: 1}), `1 1 30 20 ""`)
	are(y.g.Take(api.Token{T: 2}), `1 2 50 20 ""`)
	are(x.g.Take(api.Token{T: 2}), `1 2 9223372036854775808 10 ""`)
	a, _ := asker.New(api.Config{B: 1, Room: 2}, p.s)
	_, l, _ := a.Send([]byte("a"))
	are(l, `0 9223372036854775809 0 0 ""`)
	are(x.g.Take(l[0]), `1 9223372036854775809 9223372036854775810 10 ""`)
	_, l, _ = a.Send([]byte("b"))
	are(l, ``)
	z, _ := giver.New(1, p.s)
	if z.State().R != half+3 || len(p.s.Used()) != 9 {
		t.Fatal(z.State(), p.s.Used())
	}
	for seed := range 40 {
		next := drawn(seed)
		p := pooled(9, 8, 7, 8, 9)
		l := []*twin{of(t, p, 1+seed%16), of(t, p, 3), of(t, p, 1)}
		for range 200 {
			l[next(3)].mix(next, 1)
			for _, w := range l {
				w.holds()
			}
		}
	}
}

// Each T at first, again, and behind another one: one challenge for as long as none else asks, and a new one for each that asks in between.
func TestTakeOfAReq(t *testing.T) { // P28.2
	for _, n := range numbers {
		w := opened(t, 1, 9)
		for range 3 {
			w.ask(n)
			w.holds()
		}
		if w.pool.used != 2 {
			t.Fatal(n, w.pool.used)
		}
		for i, other := range but(n) {
			w.ask(other)
			w.ask(n)
			w.ask(n)
			if w.pool.used != 4+2*i {
				t.Fatal(n, other, w.pool.used)
			}
		}
		w.give(n, w.c(), []byte("a"))
		w.holds()
		w.receive()
		w.asks()
	}
}

// Of a TkReq its kind and its T count alone.
func TestRestOfAReq(t *testing.T) { // P28.2
	w := opened(t, 2, 9, 8)
	for _, n := range numbers {
		w.take(api.Token{Kind: req, T: 5, C: n, R: n, Data: []byte("a")})
		w.take(api.Token{Kind: req, T: 5, C: 8, R: 9, Data: make([]byte, 500)})
		w.holds()
	}
	w.give(5, 8, []byte("a"))
	for _, n := range numbers {
		w.take(api.Token{Kind: req, T: 5, C: n, R: n, Data: []byte("a")})
	}
	w.receive()
	for _, n := range numbers {
		w.take(api.Token{Kind: req, T: 5, C: n, R: n, Data: []byte("a")})
		w.holds()
	}
}

// The open challenge stays what it is behind a message of another T that does not enter, and behind all that is told of the last message that entered.
func TestOpenStays(t *testing.T) { // P28.2, P28.3
	for _, returned := range []bool{false, true} {
		w := opened(t, 2, 9, 8, 7)
		w.enter(4, "first")
		if returned {
			w.receive()
		}
		w.ask(5)
		for _, act := range []func(){
			func() { w.ask(5) },
			func() { w.ask(4) },
			func() { w.give(4, 8, []byte("first")) },
			func() { w.give(4, 7, []byte("first")) },
			func() { w.give(6, 7, []byte("x")) },
			func() { w.give(6, 6, []byte("x")) },
			func() { w.give(5, 8, []byte("x")) },
			func() { w.give(5, 7, make([]byte, maxData+1)) },
			func() { w.take(api.Token{Kind: chal, T: 5, C: 7, R: 9}) },
			func() { w.take(api.Token{Kind: chal, T: 6, C: 7, R: 9}) },
			func() { w.take(api.Token{Kind: ack, T: 5, R: 9}) },
			func() { w.take(api.Token{Kind: 4, T: 5, C: 7}) },
			w.receive,
		} {
			act()
			w.holds()
			if l := w.g.Take(api.Token{T: 5}); told(l) != `1 5 7 9 ""` || w.pool.used != 3 {
				t.Fatal(told(l), w.pool.used)
			}
		}
		w.give(5, 7, []byte("second"))
		w.holds()
		if got := w.g.State().Entered; got != 2 {
			t.Fatal(got)
		}
	}
}

// Who asks with the T of the last message that entered: nothing is told while the queue holds it, alone or behind others, an ack behind its return; and nothing is drawn.
func TestReqOfTheLastOne(t *testing.T) { // P28.2, P28.3
	for _, n := range numbers {
		for ahead := range 4 {
			w := opened(t, 4, 9)
			for i := range ahead {
				w.enter(n-uint64(4-i), "ahead")
			}
			w.enter(n, "last")
			used := w.pool.used
			for range ahead + 1 {
				if l := w.g.Take(api.Token{T: n}); len(l) != 0 {
					t.Fatal(n, ahead, told(l))
				}
				w.ask(n)
				w.holds()
				w.receive()
			}
			if l := w.g.Take(api.Token{T: n}); told(l) != fmt.Sprintf(`3 %d 0 9 ""`, n) {
				t.Fatal(n, ahead, told(l))
			}
			w.ask(n)
			w.receive()
			w.ask(n)
			w.holds()
			if w.pool.used != used {
				t.Fatal(w.pool.used, used)
			}
		}
	}
}

// Who asks with the T of a message that entered, when a later one did: a challenge, as anybody else, whether the queue holds them or not.
func TestReqOfAnEarlierOne(t *testing.T) { // P28.2
	for _, n := range numbers {
		for returns := range 3 {
			w := opened(t, 3, 9, 8, 7, 6)
			w.enter(n, "a")
			w.enter(n+1, "b")
			for range returns {
				w.receive()
			}
			if l := w.g.Take(api.Token{T: n}); told(l) != fmt.Sprintf(`1 %d 6 9 ""`, n) {
				t.Fatal(n, returns, told(l))
			}
			w.ask(n)
			w.give(n, 8, []byte("a")) // its earlier challenge's
			w.holds()
			w.give(n, 6, []byte("c"))
			w.holds()
			w.ask(n)
			w.ask(n + 1)
			w.holds()
		}
	}
}

// T 0 is a T as any other one: at first none is open of it and none entered with it.
func TestT0(t *testing.T) { // P28.1, P28.2
	w := opened(t, 2, 9, 0, 7, 0)
	w.give(0, 0, []byte("x"))
	w.receive()
	w.holds()
	if l := w.g.Take(api.Token{}); told(l) != `1 0 0 9 ""` {
		t.Fatal(told(l))
	}
	w.ask(0)
	w.ask(6)
	w.give(0, 0, []byte("x"))
	w.holds()
	w.ask(0) // with the C 0 again
	w.give(0, 1, []byte("x"))
	w.holds()
	w.give(0, 0, []byte("a"))
	w.give(0, 0, []byte("x"))
	w.ask(0)
	w.holds()
	w.receive()
	w.give(0, 0, []byte("x"))
	w.ask(0)
	w.ask(6)
	w.ask(0)
	w.enter(6, "b")
	w.ask(0)
	w.give(0, w.c(), nil)
	w.ask(0)
	w.holds()
}

// C and R 0 say nothing of there being no challenge and no giver.
func TestC0(t *testing.T) { // P28.1, P28.2
	w := opened(t, 2, 0, 0, 0, 0)
	w.give(5, 0, []byte("x"))
	w.holds()
	w.ask(5)
	w.give(5, 0, []byte("a"))
	w.give(5, 0, []byte("a"))
	w.holds()
	if got := w.g.State(); got != (giver.State{Entered: 1}) {
		t.Fatal(got)
	}
	w.ask(6)
	w.give(6, 0, []byte("b"))
	w.receive()
	w.receive()
	w.asks()
}

// Each T with each C of the open challenge, and each other T and C: both of them must be the same, to the bit.
func TestTakeOfData(t *testing.T) { // P28.2, P28.4
	for _, n := range numbers {
		for _, c := range numbers {
			w := opened(t, 1, 9, c)
			w.ask(n)
			for _, other := range but(n) {
				w.give(other, c, []byte("x"))
			}
			for _, other := range but(c) {
				w.give(n, other, []byte("x"))
			}
			w.give(c+1, n+1, []byte("x"))
			if got := w.g.State(); got != (giver.State{R: 9}) {
				t.Fatal(n, c, got)
			}
			w.give(n, c, []byte("a"))
			w.holds()
			if got := w.g.State(); got != (giver.State{Entered: 1, R: 9}) {
				t.Fatal(n, c, got)
			}
		}
	}
}

// No challenge is open at first, nor behind a message that entered: nothing that comes enters then.
func TestNoneIsOpen(t *testing.T) { // P28.1, P28.2, P28.4
	for _, first := range []bool{true, false} {
		w := opened(t, 2, 9, 8)
		if !first {
			w.enter(5, "a")
		}
		for range 2 {
			for _, n := range slices.Concat(numbers, []uint64{8, 9}) {
				for _, c := range slices.Concat(numbers, []uint64{8, 9}) {
					w.take(api.Token{Kind: data, T: n, C: c, R: 9, Data: []byte("x")})
				}
			}
			w.holds()
			w.receive()
		}
	}
}

// A message that comes again with its challenge does not enter again: nothing is told while the queue holds it, an ack when it was returned. A challenge that is open for another one stays.
func TestDataAgain(t *testing.T) { // P28.2, P28.4
	for _, other := range []bool{false, true} {
		for _, c := range []uint64{8, 7, 0} { // its own, the other one's, and neither's
			for _, m := range []string{"a", "another", "", string(make([]byte, maxData+1))} {
				w := opened(t, 3, 9, 8, 7)
				w.enter(5, "a")
				if other {
					w.ask(6)
				}
				for range 2 {
					w.take(api.Token{Kind: data, T: 5, C: c, R: 9, Data: []byte(m)})
					w.holds()
				}
				w.receive()
				if l := w.g.Take(api.Token{Kind: data, T: 5, C: c, Data: []byte(m)}); told(l) != `3 5 0 9 ""` {
					t.Fatal(other, c, m, told(l))
				}
				w.give(5, c, []byte(m))
				w.holds()
				if other {
					w.give(6, 7, []byte("b"))
				}
				w.give(5, c, []byte(m)) // nothing, where a later one entered
				w.holds()
			}
		}
	}
}

// A message of each length: what has more than MaxData bytes does not enter, and its challenge stays open.
func TestEachLength(t *testing.T) { // P28.2
	lengths := []int{maxData + 1, maxData + 2, 96, 97, 127, 128, 255, 256, 257, 320, 512, 513, 65536, 65537}
	for _, m := range messages() {
		w := opened(t, 2, 9, 8, 7)
		for n := range uint64(2) {
			w.ask(n)
			for _, long := range lengths {
				w.give(n, w.c(), make([]byte, long))
			}
			w.holds()
			w.give(n, w.c(), m)
			w.holds()
		}
		w.receive()
		w.receive()
		w.holds()
	}
}

// nil and an empty list are one message, which is there and has no bytes.
func TestNoByte(t *testing.T) { // P28.2, P28.3, rule 3
	for _, m := range [][]byte{nil, {}, make([]byte, 0, 9), []byte("abc")[:0], []byte("abc")[3:]} {
		g, _ := giver.New(1, nonce.New([]uint64{9, 8}))
		g.Take(api.Token{T: 5, Data: m})
		if l := g.Take(api.Token{Kind: data, T: 5, C: 8, Data: m}); len(l) != 0 {
			t.Fatal(told(l))
		}
		if k := g.Kept(); len(k) != 1 || len(k[0]) != 0 {
			t.Fatal(k)
		}
		if got, l, ok := g.Receive(); len(got) != 0 || told(l) != `3 5 0 9 ""` || !ok {
			t.Fatal(got, told(l), ok)
		}
		if got, l, ok := g.Receive(); len(got) != 0 || len(l) != 0 || ok {
			t.Fatal(got, told(l), ok)
		}
	}
}

// A list's bytes count, not the room behind them.
func TestRoomBehindIsNoByte(t *testing.T) { // P28.2
	w := opened(t, 3)
	for i, m := range [][]byte{make([]byte, 3, 1000), noise(1, 1000)[:maxData], noise(1, 1000)[950:]} {
		w.ask(uint64(i))
		w.give(uint64(i), w.c(), m)
	}
	w.holds()
	if len(w.messages) != 3 {
		t.Fatal(w.messages)
	}
}

// Where the queue is full a message does not enter, and its challenge stays open: it enters with that when one is returned, once.
func TestFull(t *testing.T) { // P28.2, P28.3
	for room := 1; room <= maxRoom; room++ {
		w := opened(t, room, 9, 8, 7)
		for i := range room {
			w.enter(uint64(i), fmt.Sprint("m", i))
		}
		for n := 50; n < 50+2*room; n++ {
			w.ask(uint64(n))
			for range 3 {
				w.give(uint64(n), w.c(), []byte("late"))
				w.give(uint64(n), w.c(), make([]byte, maxData+1))
				w.ask(uint64(n))
				w.holds()
			}
			w.receive()
			w.holds()
			w.give(uint64(n), w.c(), make([]byte, maxData+1))
			w.give(uint64(n), w.c(), []byte("late"))
			w.give(uint64(n), w.c(), []byte("late"))
			w.holds()
			if w.waits() != room || w.pool.used != 2+room+n-50 {
				t.Fatal(room, n, w.waits(), w.pool.used)
			}
		}
		for range room + 1 {
			w.receive()
			w.holds()
		}
	}
}

// A message of which the last one ahead is told to have arrived, that finds no room, and whose challenge another one takes: it asks again, and has another one.
func TestFullAndAskedAnew(t *testing.T) { // P28.2
	w := opened(t, 1, 9, 8, 7, 6, 5)
	w.enter(1, "a")
	w.enter(2, "b")
	w.ask(3)
	w.give(2, 7, []byte("b"))
	w.receive()
	w.give(2, 7, []byte("b"))
	w.holds()
	if got := w.g.State().Entered; got != 1 {
		t.Fatal(got)
	}
	w.ask(2)
	w.give(3, 6, []byte("c"))
	w.give(2, 7, []byte("b"))
	w.holds()
	w.give(2, 5, []byte("b"))
	w.holds()
	if got := w.g.State().Entered; got != 2 {
		t.Fatal(got)
	}
}

// Of a TkData its R says nothing.
func TestRestOfData(t *testing.T) { // P28.2
	for _, r := range numbers {
		w := opened(t, 1, 9, 8)
		w.ask(5)
		w.take(api.Token{Kind: data, T: 5, C: 8, R: r, Data: []byte("a")})
		w.take(api.Token{Kind: data, T: 5, C: 8, R: r, Data: []byte("a")})
		w.holds()
		w.receive()
		w.take(api.Token{Kind: data, T: 5, C: r, R: r, Data: []byte("a")})
		w.holds()
	}
}

// Each other kind, with the T and the C that are open, and with the T of the last message that entered: nothing.
func TestTakeOfOtherKinds(t *testing.T) { // P28.2
	for _, stands := range []string{"at first", "open", "kept", "returned", "returned and open"} {
		w := opened(t, 2, 9, 8, 7)
		if stands != "at first" {
			w.ask(5)
		}
		if stands != "at first" && stands != "open" {
			w.give(5, 8, []byte("a"))
		}
		if strings.HasPrefix(stands, "returned") {
			w.receive()
		}
		if stands == "returned and open" {
			w.ask(6)
		}
		was := w.pool.used
		for _, kind := range slices.Concat(oddKinds, far, []int{chal, ack}) {
			for _, n := range []uint64{0, 5, 6} {
				for _, c := range []uint64{0, 7, 8, 9} {
					if l := w.g.Take(api.Token{Kind: kind, T: n, C: c, R: 9, Data: []byte("x")}); len(l) != 0 {
						t.Fatal(stands, kind, n, c, told(l))
					}
				}
			}
			w.holds()
		}
		w.asks()
		if len(w.messages) > 1 || was > w.pool.used {
			t.Fatal(w.messages, w.pool.used)
		}
	}
}

// Of an empty queue nothing is received, and nothing is told, not even behind a return; of one message and of more the ack comes with the last one alone.
func TestReceive(t *testing.T) { // P28.3
	for n := range maxRoom + 1 {
		w := opened(t, maxRoom, 9)
		for range 3 {
			for i := range n {
				w.receive() // in between, too
				w.enter(uint64(30-i), fmt.Sprint("m", i))
			}
			for range n {
				w.receive()
				w.holds()
			}
			for i := range n {
				w.enter(uint64(50+i), fmt.Sprint("m", i))
			}
			for i := range n {
				m, l, ok := w.g.Receive()
				want := ""
				if i == n-1 {
					want = fmt.Sprintf(`3 %d 0 9 ""`, 50+i)
				}
				if string(m) != fmt.Sprint("m", i) || told(l) != want || !ok {
					t.Fatal(n, i, m, told(l), ok)
				}
				w.returned++
				w.holds()
			}
			for range 3 {
				if m, l, ok := w.g.Receive(); len(m) != 0 || len(l) != 0 || ok {
					t.Fatal(n, m, told(l), ok)
				}
				w.holds()
			}
		}
	}
}

// The ack is of the last message that entered, whatever is open by then, and whoever asked.
func TestAckOfTheLastOne(t *testing.T) { // P28.3, P28.4
	for _, n := range numbers {
		w := opened(t, 2, 9)
		w.enter(n, "a")
		w.ask(n + 1)
		w.receive() // tells of n
		w.ask(n + 1)
		w.ask(n)
		w.give(n+1, w.c(), []byte("b"))
		w.enter(n+2, "c")
		w.ask(n + 3)
		w.receive()
		w.receive() // tells of n + 2
		w.asks()
	}
}

// The one open challenge of a T goes over into its being the last message's: with no return in between, who asks again is told nothing, and the next one is asked for.
func TestInTurn(t *testing.T) { // P28.2, P28.3
	for room := 1; room <= maxRoom; room++ {
		w := opened(t, room, numbers...)
		for i := range 5 * room {
			n := numbers[i%len(numbers)]
			w.ask(n)
			w.ask(n)
			w.give(n, w.c(), noise(i, i%maxData))
			w.ask(n)
			w.give(n, w.c(), noise(i, i%maxData))
			w.holds()
			if i >= room-1 {
				w.receive()
			}
			w.ask(n)
			w.holds()
		}
		if w.waits() != room-1 {
			t.Fatal(room, w.waits())
		}
	}
}

// How it stands: at first, and behind each act.
func TestStateAndKept(t *testing.T) { // P28.3
	g, _ := giver.New(2, nonce.New([]uint64{9, 8, 7, 6}))
	is := func(entered, returned int, kept ...string) {
		t.Helper()
		for range 3 { // which changes nothing
			if got, want := g.State(), (giver.State{Entered: entered, Returned: returned, R: 9}); got != want {
				t.Fatalf("%+v, not %+v", got, want)
			}
			l := g.Kept()
			if !slices.EqualFunc(l, kept, func(m []byte, s string) bool { return string(m) == s }) {
				t.Fatalf("%q, not %q", l, kept)
			}
		}
	}
	is(0, 0)
	g.Take(api.Token{T: 5})
	is(0, 0)
	g.Take(api.Token{Kind: data, T: 5, C: 7, Data: []byte("x")})
	is(0, 0)
	g.Take(api.Token{Kind: data, T: 5, C: 8, Data: []byte("a")})
	is(1, 0, "a")
	g.Take(api.Token{Kind: data, T: 5, C: 8, Data: []byte("a")})
	is(1, 0, "a")
	g.Take(api.Token{T: 6})
	is(1, 0, "a")
	g.Take(api.Token{Kind: data, T: 6, C: 7})
	is(2, 0, "a", "")
	g.Take(api.Token{T: 7})
	g.Take(api.Token{Kind: data, T: 7, C: 6, Data: []byte("full")})
	is(2, 0, "a", "")
	g.Receive()
	is(2, 1, "")
	g.Take(api.Token{Kind: data, T: 7, C: 6, Data: []byte("a")})
	is(3, 1, "", "a")
	g.Receive()
	is(3, 2, "a")
	g.Receive()
	is(3, 3)
	g.Receive()
	is(3, 3)
}

// Asking how it stands changes nothing, however often that is done.
func TestAskingHowItStands(t *testing.T) { // P28.3, rule 4
	next, other := drawn(11), drawn(11)
	x, y := opened(t, 4, 3, 2, 1), opened(t, 4, 3, 2, 1)
	for range 300 {
		for range 10 {
			x.g.State()
			x.g.Kept()
		}
		x.mix(next, 1)
		y.mix(other, 1)
		if x.g.State() != y.g.State() {
			t.Fatal(x.g.State(), y.g.State())
		}
	}
}

// Numbers that 8 or 16 bits do not hold.
func TestManyMessages(t *testing.T) { // P28.2, P28.3
	const many = 70000
	g, _ := giver.New(2, nonce.New([]uint64{9}))
	for n := range many {
		at := uint64(n) % 1000
		l := g.Take(api.Token{T: at})
		if len(l) != 1 || l[0].Kind != chal || l[0].C != half+uint64(n) || l[0].R != 9 {
			t.Fatal(n, told(l))
		}
		if l := g.Take(api.Token{Kind: data, T: at, C: l[0].C, Data: []byte{byte(n)}}); len(l) != 0 {
			t.Fatal(n, told(l))
		}
		if s := g.State(); s != (giver.State{Entered: n + 1, Returned: n, R: 9}) {
			t.Fatal(n, s)
		}
		m, l, ok := g.Receive()
		if len(m) != 1 || m[0] != byte(n) || len(l) != 1 || l[0].Kind != ack || l[0].T != at || !ok {
			t.Fatal(n, m, told(l), ok)
		}
	}
	if s := g.State(); s != (giver.State{Entered: many, Returned: many, R: 9}) {
		t.Fatal(s)
	}
}

// last is the T of the last message that entered, 0 if none did.
func (w *twin) last() uint64 {
	if len(w.ts) == 0 {
		return 0
	}
	return w.ts[len(w.ts)-1]
}

// asking is the T of the last challenge, 0 if there was none.
func (w *twin) asking() uint64 {
	if len(w.told) == 0 {
		return 0
	}
	return w.told[len(w.told)-1][0]
}

// mix does so many acts that are drawn.
func (w *twin) mix(next func(int) int, n int) {
	w.t.Helper()
	all := messages()
	for range n {
		m := all[next(len(all))]
		switch x := next(20); {
		case x < 4:
			w.receive()
		case x < 6:
			w.ask(uint64(next(5)))
		case x == 6:
			w.ask(w.last() + uint64(next(2)))
		case x == 7:
			w.ask(numbers[next(len(numbers))])
		case x < 13:
			w.give(w.asking(), w.c(), m)
		case x == 13:
			w.give(w.asking(), w.c(), make([]byte, maxData+1+next(100)))
		case x == 14:
			w.give(w.asking()+uint64(next(3))-1, w.c()+uint64(next(3))-1, m)
		case x == 15 && len(w.told) > 0: // any that ever was
			old := w.told[next(len(w.told))]
			w.give(old[0], old[1], m)
		case x == 16:
			w.give(w.last(), uint64(next(5)), m)
		case x == 17:
			w.take(api.Token{Kind: chal + 2*next(2), T: w.asking(), C: w.c(), R: w.r, Data: m})
		case x == 18:
			w.take(api.Token{Kind: next(7) - 1, T: numbers[next(len(numbers))], C: w.c(), R: uint64(next(3)), Data: m})
		default:
			w.take(api.Token{Kind: oddKinds[next(len(oddKinds))], T: w.asking(), C: w.c(), R: w.r, Data: m})
		}
	}
}

func TestManyActs(t *testing.T) { // P28.1 to P28.4
	for room := 1; room <= maxRoom; room++ {
		for seed := range 120 {
			next := drawn(seed*100 + room)
			w := opened(t, room, numbers[:seed%len(numbers)]...)
			for range 100 {
				w.mix(next, 1)
				w.holds()
			}
			w.asks()
		}
	}
}

// Long walks, of numbers of which few are other ones, so that what is old is taken for what is not, now and then.
func TestLongWalks(t *testing.T) { // P28.1 to P28.3
	for seed := range 60 {
		next := drawn(seed)
		draws := make([]uint64, 800)
		for i := range draws {
			draws[i] = uint64(next(3))
		}
		w := opened(t, 1+seed%maxRoom, draws...)
		for range 40 {
			w.mix(next, 50)
			w.holds()
		}
		if len(w.messages) < 50 || w.returned < 50 {
			t.Fatal(seed, w.g.State())
		}
	}
}

// Each row of up to six acts, in small rooms, of numbers of which two are the same.
func TestEachShortRow(t *testing.T) { // P28.1 to P28.4
	const deep, acts = 6, 8
	rows := 1
	for range deep {
		rows *= acts
	}
	m := []byte("a")
	for room := 1; room <= 2; room++ {
		for row := range rows {
			p := pooled(9, 3, 0, 3)
			g, _ := giver.New(room, p.s)
			w := &twin{t: t, g: g, room: room, pool: p, r: p.next()}
			for left, i := row, 0; i < deep; i, left = i+1, left/acts {
				switch left % acts {
				case 0:
					w.ask(0)
				case 1:
					w.ask(5)
				case 2:
					w.give(0, 3, m)
				case 3:
					w.give(0, 0, m)
				case 4:
					w.give(5, 3, m)
				case 5:
					w.give(5, 0, m)
				case 6:
					w.receive()
				case 7:
					w.ask(7)
				}
			}
			w.holds()
		}
	}
}

// watch is what was seen of a giver by its answers alone.
type watch struct {
	t          *testing.T
	g          *giver.Giver
	r          uint64
	open       api.Token // the last challenge
	challenges []api.Token
	asked      map[uint64]uint64 // by each challenge's C, its T
	spent      map[uint64]bool   // the C's with which a message entered
	number     map[uint64]int    // by T, which message was the last one that entered with that
	entered    int
}

// sees fails the test if a challenge is told that was told ahead and isn't the last one, or with which a message entered, or an ack of what was not returned.
func (x *watch) sees(l []api.Token) {
	x.t.Helper()
	for i, p := range l {
		n, there := x.number[p.T]
		was, again := x.asked[p.C]
		switch {
		case i > 0, p.R != x.r:
			x.t.Fatal(told(l))
		case p.Kind == ack && (!there || n >= x.g.State().Returned):
			x.t.Fatal(told(l), n, x.g.State())
		case p.Kind == chal && (x.spent[p.C] || p.C == x.r || again && (p.C != x.open.C || p.T != was)):
			x.t.Fatal(told(l), x.open)
		case p.Kind == chal:
			x.open, x.asked[p.C], x.challenges = p, p.T, append(x.challenges, p)
		}
	}
}

// enters fails the test if a message entered by what was handed in that did not come with the last challenge, or if one had entered with that already.
func (x *watch) enters(in api.Token) {
	x.t.Helper()
	s := x.g.State()
	if s.Entered == x.entered {
		return
	}
	if s.Entered != x.entered+1 || in.Kind != data || x.open.Kind != chal || in.T != x.open.T || in.C != x.open.C || x.spent[in.C] {
		x.t.Fatal(s, in, x.open)
	}
	x.spent[in.C], x.number[in.T] = true, x.entered
	x.entered++
}

// Over any acts, where no two draws are the same: a message enters only with the challenge that was told last, and none other enters with that; what is told to have arrived was returned ahead of it.
func TestOneMessageAChallenge(t *testing.T) { // P28.2 to P28.4
	for seed := range 400 {
		next := drawn(seed)
		g, _ := giver.New(1+seed%maxRoom, nonce.New(nil))
		x := &watch{t: t, g: g, r: g.State().R, asked: map[uint64]uint64{}, spent: map[uint64]bool{}, number: map[uint64]int{}}
		for range 300 {
			in := api.Token{Kind: next(5), T: uint64(next(6)), C: x.open.C, R: uint64(next(3)), Data: noise(seed, next(maxData+2))}
			switch next(8) {
			case 0, 1:
				_, l, _ := g.Receive()
				x.sees(l)
				continue
			case 2:
				if len(x.challenges) > 0 { // any one that ever was
					in = x.challenges[next(len(x.challenges))]
				}
				in.Kind = data
			case 3:
				in.Kind = req
			case 4, 5, 6:
				in.Kind, in.T = data, x.open.T
			}
			l := g.Take(in)
			x.enters(in)
			x.sees(l)
		}
		if x.entered < 10 {
			t.Fatal(seed, x.entered)
		}
	}
}

// What is sent, by what it is: a TkChal without data, or a TkAck without C and data; one at a time.
func TestWhatIsSent(t *testing.T) { // P28.2, P28.3, rule 5
	for seed := range 100 {
		next := drawn(seed)
		w := opened(t, 1+seed%maxRoom, most, half, 3)
		check := func(l []api.Token) {
			t.Helper()
			switch {
			case len(l) > 1, len(l) == 1 && l[0].Kind != chal && l[0].Kind != ack, len(l) == 1 && (l[0].R != most || len(l[0].Data) != 0):
				t.Fatal(told(l))
			case len(l) == 1 && l[0].Kind == ack && l[0].C != 0:
				t.Fatal(told(l))
			}
		}
		c := uint64(0)
		for range 300 {
			in := api.Token{Kind: next(6) - 1, T: uint64(next(3)), C: c, R: 7, Data: noise(seed, next(70))}
			l := w.g.Take(in)
			check(l)
			if len(l) == 1 && l[0].Kind == chal {
				c = l[0].C
			}
			if next(3) == 0 {
				_, l, _ := w.g.Receive()
				check(l)
			}
		}
	}
}

// air is two directions in which packets are on their way.
type air [2][]api.Token

// put has these be on their way.
func (a *air) put(dir int, l []api.Token) {
	for _, x := range l {
		x.Data = bytes.Clone(x.Data)
		a[dir] = append(a[dir], x)
	}
}

// pick answers any one, which is on its way no longer, unless it is doubled; and whether there is one.
func (a *air) pick(dir int, next func(int) int) (api.Token, bool) {
	if len(a[dir]) == 0 {
		return api.Token{}, false
	}
	i := next(len(a[dir]))
	x := a[dir][i]
	if next(5) > 0 {
		a[dir] = slices.Delete(a[dir], i, i+1)
	}
	return x, true
}

// talk is an asker and a giver of one source, with what is on its way between them.
type talk struct {
	t        *testing.T
	s        *nonce.Source
	c        api.Config
	a        *asker.Asker
	g        *giver.Giver
	air      air
	sent     []string // all that were accepted, by any asker
	first    int      // of these the first one that the asker has
	returned []string
}

// talking is an asker and a giver that have nothing to say yet.
func talking(t *testing.T, seed int) *talk {
	x := &talk{t: t, s: nonce.New(numbers[:seed%5]), c: api.Config{B: 1 + seed%7, Room: 1 + seed%maxRoom}}
	x.a, _ = asker.New(x.c, x.s)
	x.g, _ = giver.New(1+seed%3, x.s)
	return x
}

// send accepts one more, if there is room.
func (x *talk) send() {
	m := fmt.Sprint("m", len(x.sent))
	if _, l, e := x.a.Send([]byte(m)); e == fine {
		x.sent = append(x.sent, m)
		x.air.put(0, l)
	}
}

// receive returns one, if there is one.
func (x *talk) receive() {
	if m, l, ok := x.g.Receive(); ok {
		x.returned = append(x.returned, string(m))
		x.air.put(1, l)
	}
}

// act does one of all that may happen but a crash.
func (x *talk) act(next func(int) int) {
	switch next(8) {
	case 0:
		x.send()
	case 1:
		x.receive()
	case 2:
		x.air.put(0, x.a.Tick())
	case 3:
		x.air.pick(next(2), next) // lost
	case 4, 5:
		if p, ok := x.air.pick(0, next); ok {
			x.air.put(1, x.g.Take(p))
		}
	default:
		if p, ok := x.air.pick(1, next); ok {
			x.air.put(0, x.a.Take(p))
		}
	}
}

// clean has what is on its way be gone, then each tick, hear all, and receive, until the asker has no message left.
func (x *talk) clean() {
	x.t.Helper()
	x.air = air{}
	for range 8 * (maxRoom + 1) {
		for len(x.air[0])+len(x.air[1]) > 0 {
			was := x.air
			x.air = air{}
			for _, p := range was[0] {
				x.air.put(1, x.g.Take(p))
			}
			for _, p := range was[1] {
				x.air.put(0, x.a.Take(p))
			}
		}
		x.receive()
		x.air.put(0, x.a.Tick())
	}
	if s := x.a.State(); s.Done != s.Accepted || len(x.g.Kept()) != 0 {
		x.t.Fatal(s, x.g.Kept())
	}
}

// An asker and a giver, with packets lost, doubled and out of order: what is returned is a beginning of what was accepted, and what is told Confirmed was returned; none is told Unknown. In the end all is returned.
func TestTalk(t *testing.T) { // P28.1 to P28.4
	for seed := range 150 {
		next := drawn(seed)
		x := talking(t, seed)
		check := func() {
			t.Helper()
			if len(x.returned) > len(x.sent) || !slices.Equal(x.returned, x.sent[:len(x.returned)]) {
				t.Fatal(seed, x.returned, x.sent)
			}
			for id := range x.sent {
				if o, e := x.a.Poll(id); e != fine || o == unknown || o == confirmed && id >= len(x.returned) {
					t.Fatal(seed, id, o, e, len(x.returned))
				}
			}
		}
		for range 400 {
			x.act(next)
			if next(20) == 0 {
				check()
			}
		}
		check()
		x.clean()
		check()
		if len(x.returned) != len(x.sent) || !nonce.Apart(x.s.Used()) {
			t.Fatal(seed, len(x.returned), len(x.sent))
		}
	}
}

// The same, where another giver and another asker take the place of the one that is there, of the same source: what is returned was accepted, in that order, none twice; what is told Confirmed was returned, and Unknown is told only of what was there ahead of another giver.
func TestTalkWithCrashes(t *testing.T) { // P28.1 to P28.4
	lost := 0
	for seed := range 300 {
		next := drawn(seed)
		x := talking(t, seed)
		atCrash := 0 // how many were accepted by the giver's last crash
		check := func() {
			t.Helper()
			at := 0
			for _, m := range x.returned {
				i := slices.Index(x.sent[at:], m)
				if i < 0 {
					t.Fatal(seed, x.returned)
				}
				at += i + 1
			}
			for id := range x.sent[x.first:] {
				switch o, e := x.a.Poll(id); {
				case e != fine, o == confirmed && !slices.Contains(x.returned, x.sent[x.first+id]), o == unknown && x.first+id >= atCrash:
					t.Fatal(seed, id, o, e)
				case o == unknown:
					lost++
				}
			}
		}
		for range 400 {
			switch next(60) {
			case 0:
				x.g, _ = giver.New(1+seed%3, x.s)
				atCrash = len(x.sent)
			case 1:
				x.a, _ = asker.New(x.c, x.s)
				x.first = len(x.sent)
			default:
				x.act(next)
			}
			if next(20) == 0 {
				check()
			}
		}
		check()
		x.clean()
		check()
	}
	if lost == 0 {
		t.Fatal("none was lost")
	}
}

// Another giver of the same source is another incarnation, and knows nothing of what was told ahead.
func TestAnotherIncarnation(t *testing.T) { // P28.1, P28.2
	p := pooled(9, 8, 7, 6, 5)
	x := of(t, p, 2)
	x.enter(5, "a")
	x.ask(6)
	y := of(t, p, 2)
	if got := y.g.State(); got != (giver.State{R: 6}) {
		t.Fatal(got)
	}
	y.give(5, 8, []byte("a"))
	y.give(6, 7, []byte("b"))
	y.receive()
	y.holds()
	y.ask(5)
	y.give(5, 8, []byte("a"))
	y.holds()
	y.give(5, 5, []byte("a"))
	y.receive()
	y.holds()
	x.receive()
	x.holds()
}

// spare answers b with room behind it in which a guard stands, and a function that tells whether b and the guard are as they were.
func spare(b []byte) ([]byte, func() bool) {
	whole := slices.Concat([]byte{7}, b, noise(len(b), 100))
	was := bytes.Clone(whole)
	return whole[1 : 1+len(b)], func() bool { return bytes.Equal(whole, was) }
}

// What is handed in isn't changed, nor what stands behind it, whether it is taken or not, and whatever comes later.
func TestWhatIsHandedInStays(t *testing.T) { // rule 3
	w := opened(t, 4, 1, 2, 3)
	for i, m := range append(messages(), noise(1, maxData+1), noise(2, 500)) {
		b, untouched := spare(m)
		n := uint64(i % 7)
		for kind := -1; kind < 5; kind++ {
			w.take(api.Token{Kind: kind, T: n, C: 1, R: 9, Data: b})
			w.take(api.Token{Kind: kind, T: n, C: w.c(), R: 9, Data: b})
			w.take(api.Token{Kind: kind, T: w.last(), C: w.c(), R: 9, Data: b})
		}
		if i%2 == 0 {
			w.receive()
		}
		w.holds()
		if !untouched() {
			t.Fatal(i, m)
		}
	}
	for _, g := range unmade() {
		b, untouched := spare([]byte("abc"))
		g.Take(api.Token{Kind: data, Data: b})
		g.Take(api.Token{Kind: req, Data: b})
		if !untouched() {
			t.Fatal(b)
		}
	}
}

// What was handed in may be written afterwards: what entered is what it was by then.
func TestWhatIsHandedInIsNotKept(t *testing.T) { // rule 3
	for _, m := range messages() {
		w := opened(t, 3, 1, 2, 3)
		for n := range uint64(4) { // the last one finds no room
			mine, _ := spare(m)
			w.take(api.Token{Kind: req, T: n, Data: mine})
			w.give(n, w.c(), mine)
			overwrite(mine)
			w.holds()
			w.give(n, w.c(), mine)
			overwrite(mine)
			w.holds()
		}
		for range 4 {
			w.receive()
			w.holds()
		}
	}
}

// One list of bytes, written over for each message.
func TestOneBufferForAll(t *testing.T) { // rule 3
	for room := 1; room <= maxRoom; room++ {
		w := opened(t, room)
		buffer := make([]byte, 5)
		for i := range 3 * room {
			for at := range buffer {
				buffer[at] = byte(i + at)
			}
			w.ask(uint64(i))
			w.give(uint64(i), w.c(), buffer[:1+i%5])
			clear(buffer)
			w.holds()
			if i%3 == 2 {
				w.receive()
			}
		}
	}
}

// The numbers that a source was handed may be written: what is drawn are those that it was handed.
func TestDrawsAreTheSources(t *testing.T) { // P28.1, rule 3
	draws := []uint64{9, 5, 6, 7}
	g, _ := giver.New(3, nonce.New(draws))
	for i, c := range []uint64{5, 6, 7, half} {
		clear(draws)
		if l := g.Take(api.Token{T: uint64(i)}); told(l) != fmt.Sprintf(`1 %d %d 9 ""`, i, c) {
			t.Fatal(i, told(l))
		}
	}
}

// What is told may be written, cut and grown, and no later answer is another one; two answers share nothing.
func TestAnswersShareNothing(t *testing.T) { // rule 3
	for _, m := range messages() {
		w := opened(t, 3, 9, 8, 7)
		w.ask(5)
		asked := []api.Token{{Kind: chal, T: 5, C: 8, R: 9}}
		for a, b := w.g.Take(api.Token{T: 5}), w.g.Take(api.Token{T: 5}); w.pool.used < 3; w.ask(6) {
			spoil(a)
			if !same(b, asked) {
				t.Fatal(told(b))
			}
		}
		w.ask(5)
		w.give(5, w.c(), m)
		w.enter(7, string(m), "last")
		a, b := w.g.Kept(), w.g.Kept()
		spoilKept(a)
		if len(b) != 3 || !bytes.Equal(b[0], m) || !bytes.Equal(b[1], m) || string(b[2]) != "last" {
			t.Fatal(b)
		}
		spoilKept(b[1:2:2])
		if !bytes.Equal(b[0], m) || string(b[2]) != "last" {
			t.Fatal(b)
		}
		b = w.g.Kept()
		first, _, _ := w.g.Receive()
		w.returned++
		overwrite(b[0])
		if !bytes.Equal(first, m) {
			t.Fatal(first)
		}
		w.holds()
		w.receive()
		w.receive()
		arrived := []api.Token{{Kind: ack, T: 8, R: 9}}
		x, y, z := w.g.Take(api.Token{T: 8}), w.g.Take(api.Token{Kind: data, T: 8}), w.g.Take(api.Token{T: 8})
		spoil(x)
		if !same(y, arrived) || !same(z, arrived) {
			t.Fatal(told(y), told(z))
		}
		spoil(y)
		if !same(z, arrived) {
			t.Fatal(told(z))
		}
		w.asks()
	}
}

// What was told stays what it was, whatever comes later.
func TestAnswersStay(t *testing.T) { // rule 3
	next := drawn(9)
	w := opened(t, 5, 9, 5, 6, 7)
	var answers [][]api.Token
	var lists [][][]byte
	var were []string
	for range 1500 {
		n := uint64(next(9))
		l := w.g.Take(api.Token{T: n})
		if len(l) == 1 && l[0].Kind == chal && next(2) == 0 {
			w.g.Take(api.Token{Kind: data, T: n, C: l[0].C, Data: noise(next(1000), next(60))})
		}
		k := w.g.Kept()
		if next(4) == 0 {
			m, l, _ := w.g.Receive()
			answers, lists, were = append(answers, l), append(lists, [][]byte{m}), append(were, fmt.Sprint(told(l), [][]byte{m}))
		}
		answers, lists, were = append(answers, l), append(lists, k), append(were, fmt.Sprint(told(l), k))
	}
	for i := range answers {
		if fmt.Sprint(told(answers[i]), lists[i]) != were[i] {
			t.Fatal(i, told(answers[i]), lists[i], were[i])
		}
		spoil(answers[i])
		spoilKept(lists[i])
	}
}

// What was told may be handed in, to the same one and to another one, and be written then.
func TestToldIsHandedIn(t *testing.T) { // rule 3
	x, y := opened(t, 16, 9, 8), opened(t, 16, 9, 8)
	x.enter(1, "a", "another", "")
	for i := range uint64(12) {
		kept := x.g.Kept()
		m, l, _ := x.g.Receive()
		x.returned++
		x.ask(50 + i)
		y.ask(50 + i)
		x.give(50+i, x.c(), m)
		y.give(50+i, y.c(), kept[len(kept)-1])
		for _, p := range l {
			x.take(p)
			y.take(p)
		}
		overwrite(m)
		spoilKept(kept)
		spoil(l)
		x.holds()
		y.holds()
	}
}

// unmade are the givers that New did not make.
func unmade() []*giver.Giver {
	return []*giver.Giver{nil, new(giver.Giver), {}}
}

// calls are all calls of a giver, each as it is answered by one that New did not make.
func calls() []func(g *giver.Giver) bool {
	l := []func(g *giver.Giver) bool{
		func(g *giver.Giver) bool {
			m, l, ok := g.Receive()
			return len(m) == 0 && len(l) == 0 && !ok
		},
		func(g *giver.Giver) bool { return g.State() == giver.State{} },
		func(g *giver.Giver) bool { return len(g.Kept()) == 0 },
	}
	for kind := -1; kind < 5; kind++ {
		for _, n := range []uint64{0, 1, half, most} {
			for _, m := range [][]byte{nil, []byte("a"), make([]byte, maxData+1)} {
				l = append(l, func(g *giver.Giver) bool {
					return len(g.Take(api.Token{Kind: kind, T: n, C: n, R: n, Data: m})) == 0
				})
			}
		}
	}
	return l
}

// nothing fails the test if the giver, which New did not make, isn't such.
func nothing(t *testing.T, g *giver.Giver) {
	t.Helper()
	for i, f := range calls() {
		if !f(g) {
			t.Fatal(i)
		}
	}
}

// Each call as the first one, and each behind each other one.
func TestUnmade(t *testing.T) { // P28.1 to P28.3, rules 1 and 2
	l := calls()
	for i := range unmade() {
		for first, f := range l {
			for second, g := range l {
				x := unmade()[i]
				for range 3 {
					if !f(x) || !g(x) {
						t.Fatal(i, first, second)
					}
				}
			}
			nothing(t, unmade()[i])
		}
	}
}

// A giver that is a part of something else, and that nobody made, is no other than one of its own.
func TestUnmadeInside(t *testing.T) { // P28.1 to P28.3, rule 1
	var s struct {
		before uint64
		g      giver.Giver
		after  uint64
	}
	var l [3]giver.Giver
	for range 40 {
		nothing(t, &s.g)
		for i := range l {
			nothing(t, &l[i])
		}
		if s.before != 0 || s.after != 0 {
			t.Fatal(s.before, s.after)
		}
	}
}

// A giver has the chapter's calls, and none of its parts': nobody else's Push or Pop comes at what it has.
func TestNoOtherCalls(t *testing.T) { // P28.1 to P28.3
	p := reflect.TypeFor[*giver.Giver]()
	var names []string
	for m := range p.Methods() {
		names = append(names, m.Name)
	}
	if want := []string{"Kept", "Receive", "State", "Take"}; !slices.Equal(names, want) {
		t.Fatal(names)
	}
	for f := range p.Elem().Fields() {
		if f.IsExported() {
			t.Fatal(f.Name)
		}
	}
}

// Givers with sources of their own have nothing to do with one another, nor with one that nobody made.
func TestTwoGivers(t *testing.T) { // rule 4
	next := drawn(7)
	x, y, z := opened(t, 1, 5), opened(t, 16, 5), opened(t, 1, 5)
	for i := range 400 {
		x.mix(next, 1)
		y.mix(next, 1)
		if i%3 == 0 {
			z.mix(next, 1)
		}
		for _, g := range unmade() {
			nothing(t, g)
		}
		opened(t, 1, 5).enter(1, "a", "b")
		x.holds()
		y.holds()
		z.holds()
	}
}

// The same calls are answered alike, many times over.
func TestTheSameAgain(t *testing.T) { // rule 4
	run := func(seed int) string {
		g, _ := giver.New(1+seed%maxRoom, nonce.New(numbers[:seed]))
		next := drawn(seed)
		var said strings.Builder
		c := uint64(0)
		for range 300 {
			switch next(4) {
			case 0:
				m, l, ok := g.Receive()
				fmt.Fprint(&said, m, told(l), ok)
			default:
				l := g.Take(api.Token{Kind: next(4), T: uint64(next(4)), C: c, Data: noise(next(100), next(70))})
				if len(l) == 1 {
					c = l[0].C
				}
				said.WriteString(told(l))
			}
			fmt.Fprint(&said, g.State(), g.Kept())
		}
		return said.String()
	}
	for seed := range 20 {
		want := run(seed)
		for range 10 {
			if run(seed) != want {
				t.Fatal("other answers")
			}
		}
	}
}

// inUse is how many bytes are kept.
func inUse() int {
	var m runtime.MemStats
	runtime.GC()
	runtime.GC()
	runtime.ReadMemStats(&m)
	return int(m.HeapAlloc)
}

// Of a message that was returned nothing is kept but its T, as long as it is the last one, and of a challenge that is not open nothing is.
func TestWhatIsKept(t *testing.T) { // P28.1 to P28.3
	const many, each = 200, 300
	var l [many]*giver.Giver
	for i := range l {
		l[i], _ = giver.New(maxRoom, nonce.New(nil))
	}
	before := inUse()
	for _, g := range l {
		for n := range uint64(each) {
			g.Take(api.Token{T: n + 1000, Data: make([]byte, 10000)})
			c := g.Take(api.Token{T: n})
			g.Take(api.Token{Kind: data, T: n, C: c[0].C, Data: make([]byte, 10000)})
			g.Take(api.Token{Kind: data, T: n, C: c[0].C, Data: make([]byte, maxData)})
			g.Take(api.Token{Kind: data, T: n, C: c[0].C, Data: make([]byte, maxData)})
			g.Receive()
		}
	}
	if left := inUse() - before; left > many*1000 {
		t.Fatal(left)
	}
	for _, g := range l {
		if s := g.State(); s.Entered != each || s.Returned != each {
			t.Fatal(s)
		}
	}
}
