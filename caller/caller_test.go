package caller_test

import (
	"bytes"
	"fmt"
	"kedge/api"
	"kedge/caller"
	"kedge/queue"
	"math"
	"reflect"
	"runtime"
	"slices"
	"strings"
	"testing"
)

// The numbers that the chapter names, written out.
const (
	half = 9223372036854775808  // 2^63
	most = 18446744073709551615 // 2^64 - 1
)

// begins are numbers of questions that are open at first: few, many, and such as are others if they are cut short or have a sign.
var begins = []uint64{
	0, 1, 2, 3, 4, 5, 7, 8, 127, 128, 255, 256, 257, 65535, 65536, 65537, 1<<31 - 1, 1 << 31, 1<<32 - 1, 1 << 32, 1<<32 + 1, 1 << 53,
	half - 1, half, half + 1, most - 1<<32, most - 256, most - 20, most - 3, most - 2, most - 1, most,
}

// badRooms are rooms that may not be; among them such as may if they are cut short or have no sign.
var badRooms = []int{
	0, api.MaxRoom + 1, api.MaxRoom + 2, 32, 255, 256, 257, 272, 65536, 65537, 1 << 31, 1<<32 - 1, 1 << 32, 1<<32 + 1, 1<<32 + 16, math.MaxInt - 1, math.MaxInt,
	-1, -2, -15, -16, -17, -256, -65536, -1 << 31, -1 << 32, 16 - 1<<32, math.MinInt + 1, math.MinInt + 16, math.MinInt,
}

// farNumbers are numbers that no message has here.
var farNumbers = []int{
	-1, -2, -16, -255, -256, -65536, -1 << 31, -1 << 32, 1 - 1<<32, math.MinInt, math.MinInt + 1,
	1 << 31, 1<<32 - 1, 1 << 32, 1<<32 + 1, 1 << 62, math.MaxInt - 1, math.MaxInt,
}

// oddLabels are labels that no message has; among them such as are one if they are cut short, or by their last bit alone.
var oddLabels = []int{2, 3, 4, 5, 255, 256, 257, 65536, 65537, 1 << 32, 1<<32 + 1, -1, -2, -3, -256, -255, math.MaxInt, math.MaxInt - 1, math.MinInt, math.MinInt + 1}

// oddKinds are kinds that no packet has; among them such as have one if they are cut short.
var oddKinds = []int{5, 6, 7, 8, 255, 256, 260, 65536, 65540, 1 << 32, 1<<32 + 4, -1, -2, -4, -252, -256, math.MaxInt, math.MaxInt - 3, math.MinInt, math.MinInt + 4}

// twin is a caller, and beside it what the chapter says of it, kept apart.
type twin struct {
	t                 *testing.T
	c                 *caller.Caller
	room              int
	sent              []string // all that were accepted
	done              int
	out, marked, acks uint64
}

// opened is a caller without messages.
func opened(t *testing.T, room int, begin uint64) *twin {
	t.Helper()
	c, e := caller.New(room, begin)
	if c == nil || e != api.OK {
		t.Fatalf("New(%d, %d) = %v, %d", room, begin, c, e)
	}
	w := &twin{t: t, c: c, room: room, out: begin, marked: begin}
	w.holds()
	return w
}

// spent is whether nothing is asked or heard any more.
func (w *twin) spent() bool {
	return w.out == most
}

// waiting are the messages that are not done.
func (w *twin) waiting() []string {
	return w.sent[w.done:]
}

// label is the label of the message.
func (w *twin) label() int {
	if w.done%2 == 1 {
		return 1
	}
	return 0
}

// begins is what happens when a message becomes the message.
func (w *twin) begins() {
	w.acks = 0
	if !w.spent() {
		w.marked = w.out
	}
}

// send sends, and is kept.
func (w *twin) send(m []byte) {
	w.t.Helper()
	id, want := len(w.sent), api.OK
	switch {
	case len(m) > api.MaxData:
		id, want = 0, api.ErrLong
	case len(w.waiting()) == w.room:
		id, want = 0, api.ErrFull
	default:
		w.sent = append(w.sent, string(m))
		if len(w.waiting()) == 1 {
			w.begins()
		}
	}
	if got, e := w.c.Send(m); got != id || e != want {
		w.t.Fatalf("Send(%q) = %d, %d, not %d, %d", m, got, e, id, want)
	}
}

// texts sends texts, one behind the other.
func (w *twin) texts(l ...string) {
	w.t.Helper()
	for _, s := range l {
		w.send([]byte(s))
	}
}

// tick ticks, and is kept.
func (w *twin) tick() {
	w.t.Helper()
	var want []api.Probe
	if len(w.waiting()) > 0 && !w.spent() {
		w.out++
		want = []api.Probe{{Kind: 1}}
	}
	w.are("Tick()", w.c.Tick(), want)
}

// take hands in a packet, and is kept.
func (w *twin) take(p api.Probe) {
	w.t.Helper()
	var want []api.Probe
	if p.Kind == 0 {
		want = []api.Probe{w.answer()}
	}
	if p.Kind == 4 {
		w.answered(p.Label)
	}
	w.are(fmt.Sprint("Take of ", p), w.c.Take(p), want)
}

// answer is what a question is answered with.
func (w *twin) answer() api.Probe {
	if len(w.waiting()) == 0 {
		return api.Probe{Kind: 2}
	}
	return api.Probe{Kind: 3, Label: w.label(), Data: []byte(w.waiting()[0])}
}

// answered keeps what an answer does.
func (w *twin) answered(label int) {
	if w.spent() || w.out == 0 {
		return
	}
	w.out--
	if len(w.waiting()) == 0 || label != w.label() {
		return
	}
	w.acks++
	if w.acks <= w.marked {
		return
	}
	w.done++
	if len(w.waiting()) > 0 {
		w.begins()
	}
}

// ask hands in a question, ack an answer with a label.
func (w *twin) ask() {
	w.t.Helper()
	w.take(api.Probe{})
}

func (w *twin) ack(label int) {
	w.t.Helper()
	w.take(api.Probe{Kind: api.PrAck, Label: label})
}

// are fails the test if these packets aren't those.
func (w *twin) are(what string, got, want []api.Probe) {
	w.t.Helper()
	if told(got) != told(want) {
		w.t.Fatalf("%s: %s, not %s", what, told(got), told(want))
	}
}

// state is what State should tell.
func (w *twin) state() caller.State {
	return caller.State{Accepted: len(w.sent), Done: w.done, Out: w.out, Marked: w.marked, Acks: w.acks, Spent: w.spent()}
}

// poll fails the test if Poll doesn't tell what is kept.
func (w *twin) poll(id int) {
	w.t.Helper()
	outcome, want := 0, api.OK
	switch {
	case id < 0 || id >= len(w.sent):
		want = api.ErrNone
	case id < w.done:
		outcome = 1
	}
	if got, e := w.c.Poll(id); got != outcome || e != want {
		w.t.Fatalf("Poll(%d) = %d, %d, not %d, %d", id, got, e, outcome, want)
	}
}

// holds fails the test if the caller isn't what is kept.
func (w *twin) holds() {
	w.t.Helper()
	if got := w.c.State(); got != w.state() {
		w.t.Fatalf("State() = %v, not %v", got, w.state())
	}
	n := len(w.sent)
	for _, id := range []int{-1, 0, 1, w.done - 1, w.done, w.done + 1, n - 1, n, n + 1, math.MinInt, math.MaxInt} {
		w.poll(id)
	}
}

// told is packets as a text: kind, label and message of each.
func told(l []api.Probe) string {
	var s []string
	for _, p := range l {
		s = append(s, fmt.Sprintf("%d %d %q", p.Kind, p.Label, p.Data))
	}
	return strings.Join(s, ", ")
}

// drawn answers a function that tells numbers that look like noise, below n, the same ones in each run.
func drawn(begin int) func(n int) int {
	x := uint64(begin)
	return func(n int) int {
		x = x*6364136223846793005 + 1442695040888963407
		return int(x>>33) % n
	}
}

// noise is n bytes that look like noise.
func noise(begin, n int) []byte {
	next := drawn(begin)
	b := make([]byte, n)
	for i := range b {
		b[i] = byte(next(256))
	}
	return b
}

// messages are each another one: none, few bytes, such as mean something to other layers, and all lengths up to the longest.
func messages() [][]byte {
	l := [][]byte{nil, {0}, {0, 0}, {0, 'a'}, []byte("a"), []byte("a\x00"), {0x7e}, {0x7d}, {0xff}, {0xc0, 0x80}}
	for n := 1; n <= api.MaxData; n++ {
		l = append(l, noise(n, n))
	}
	return l
}

// overwrite puts other bytes in all of b's memory, up to its capacity.
func overwrite(b []byte) {
	b = b[:cap(b)]
	for i := range b {
		b[i] = ^b[i]
	}
}

// spoil writes, cuts and grows packets that were told, and their messages.
func spoil(l []api.Probe) {
	l = l[:cap(l)]
	for i := range l {
		overwrite(l[i].Data)
		_ = append(l[i].Data[:len(l[i].Data)/2], 4)
		_ = append(l[i].Data, 1, 2, 3)
		l[i] = api.Probe{Kind: -9, Label: -9, Data: []byte("spoilt")}
	}
	_ = append(l[:0], api.Probe{Kind: 77})
	_ = append(l, api.Probe{Kind: 78})
}

// finish brings the message to its end, with as many questions as that needs.
func (w *twin) finish() {
	w.t.Helper()
	for done := w.done; w.done == done; {
		if w.out == 0 {
			w.tick()
		}
		w.ack(w.label())
	}
}

// by is a caller driven by words: what it answers, as a text.
func by(c *caller.Caller, act string) string {
	word, rest, _ := strings.Cut(act, " ")
	switch word {
	case "send":
		id, e := c.Send([]byte(rest))
		return fmt.Sprintf("%d, %d", id, e)
	case "tick":
		return told(c.Tick())
	case "ask":
		return told(c.Take(api.Probe{Kind: api.PrAsk}))
	case "ack0":
		return told(c.Take(api.Probe{Kind: api.PrAck}))
	case "ack1":
		return told(c.Take(api.Probe{Kind: api.PrAck, Label: 1}))
	}
	return "no act"
}

func TestExample(t *testing.T) { // P20.1 to P20.3
	c, e := caller.New(1, 0)
	if e != api.OK {
		t.Fatal(e)
	}
	if id, e := c.Send([]byte("a")); id != 0 || e != api.OK {
		t.Fatal(id, e)
	}
	if x := c.Take(api.Probe{Kind: api.PrAsk}); len(x) != 1 || x[0].Kind != api.PrData || x[0].Label != 0 || string(x[0].Data) != "a" {
		t.Fatal(x)
	}
	if x := c.Tick(); len(x) != 1 || x[0].Kind != api.PrTry || x[0].Label != 0 || len(x[0].Data) != 0 {
		t.Fatal(x)
	}
	if x := c.Take(api.Probe{Kind: api.PrAck}); len(x) != 0 {
		t.Fatal(x)
	}
	if o, e := c.Poll(0); o != api.Confirmed || e != api.OK {
		t.Fatal(o, e)
	}
}

// A row of acts with what each answers, and how it stands behind that, written out.
func TestWrittenOut(t *testing.T) { // P20.1 to P20.3
	type line struct {
		act, answer string
		state       caller.State
	}
	for _, x := range []struct {
		room  int
		begin uint64
		lines []line
	}{
		{2, 1, []line{
			{"tick", "", caller.State{0, 0, 1, 1, 0, false}},
			{"ask", `2 0 ""`, caller.State{0, 0, 1, 1, 0, false}},
			{"send a", "0, 0", caller.State{1, 0, 1, 1, 0, false}},
			{"tick", `1 0 ""`, caller.State{1, 0, 2, 1, 0, false}},
			{"tick", `1 0 ""`, caller.State{1, 0, 3, 1, 0, false}},
			{"send b", "1, 0", caller.State{2, 0, 3, 1, 0, false}},
			{"send c", "0, 3", caller.State{2, 0, 3, 1, 0, false}},
			{"ask", `3 0 "a"`, caller.State{2, 0, 3, 1, 0, false}},
			{"ack1", "", caller.State{2, 0, 2, 1, 0, false}},
			{"ack0", "", caller.State{2, 0, 1, 1, 1, false}},
			{"tick", `1 0 ""`, caller.State{2, 0, 2, 1, 1, false}},
			{"ack0", "", caller.State{2, 1, 1, 1, 0, false}},
			{"ask", `3 1 "b"`, caller.State{2, 1, 1, 1, 0, false}},
			{"send c", "2, 0", caller.State{3, 1, 1, 1, 0, false}},
			{"ack0", "", caller.State{3, 1, 0, 1, 0, false}},
			{"ack1", "", caller.State{3, 1, 0, 1, 0, false}},
			{"tick", `1 0 ""`, caller.State{3, 1, 1, 1, 0, false}},
			{"tick", `1 0 ""`, caller.State{3, 1, 2, 1, 0, false}},
			{"ack1", "", caller.State{3, 1, 1, 1, 1, false}},
			{"ack1", "", caller.State{3, 2, 0, 0, 0, false}},
			{"ask", `3 0 "c"`, caller.State{3, 2, 0, 0, 0, false}},
			{"tick", `1 0 ""`, caller.State{3, 2, 1, 0, 0, false}},
			{"tick", `1 0 ""`, caller.State{3, 2, 2, 0, 0, false}},
			{"ack0", "", caller.State{3, 3, 1, 0, 1, false}},
			{"ask", `2 0 ""`, caller.State{3, 3, 1, 0, 1, false}},
			{"tick", "", caller.State{3, 3, 1, 0, 1, false}},
			{"send ", "3, 0", caller.State{4, 3, 1, 1, 0, false}},
			{"ask", `3 1 ""`, caller.State{4, 3, 1, 1, 0, false}},
			{"ack1", "", caller.State{4, 3, 0, 1, 1, false}},
			{"ack1", "", caller.State{4, 3, 0, 1, 1, false}},
		}},
		{1, most - 2, []line{
			{"ack0", "", caller.State{0, 0, most - 3, most - 2, 0, false}},
			{"send a", "0, 0", caller.State{1, 0, most - 3, most - 3, 0, false}},
			{"tick", `1 0 ""`, caller.State{1, 0, most - 2, most - 3, 0, false}},
			{"tick", `1 0 ""`, caller.State{1, 0, most - 1, most - 3, 0, false}},
			{"ack0", "", caller.State{1, 0, most - 2, most - 3, 1, false}},
			{"tick", `1 0 ""`, caller.State{1, 0, most - 1, most - 3, 1, false}},
			{"tick", `1 0 ""`, caller.State{1, 0, most, most - 3, 1, true}},
			{"tick", "", caller.State{1, 0, most, most - 3, 1, true}},
			{"ack0", "", caller.State{1, 0, most, most - 3, 1, true}},
			{"ask", `3 0 "a"`, caller.State{1, 0, most, most - 3, 1, true}},
			{"send b", "0, 3", caller.State{1, 0, most, most - 3, 1, true}},
		}},
		{2, most, []line{
			{"tick", "", caller.State{0, 0, most, most, 0, true}},
			{"ack0", "", caller.State{0, 0, most, most, 0, true}},
			{"ask", `2 0 ""`, caller.State{0, 0, most, most, 0, true}},
			{"send a", "0, 0", caller.State{1, 0, most, most, 0, true}},
			{"tick", "", caller.State{1, 0, most, most, 0, true}},
			{"ack0", "", caller.State{1, 0, most, most, 0, true}},
			{"ask", `3 0 "a"`, caller.State{1, 0, most, most, 0, true}},
			{"send b", "1, 0", caller.State{2, 0, most, most, 0, true}},
		}},
	} {
		c, _ := caller.New(x.room, x.begin)
		if got, want := c.State(), (caller.State{Out: x.begin, Marked: x.begin, Spent: x.begin == most}); got != want {
			t.Fatal(got, want)
		}
		for i, l := range x.lines {
			if got := by(c, l.act); got != l.answer {
				t.Fatalf("New(%d, %d), line %d, %s: %s, not %s", x.room, x.begin, i, l.act, got, l.answer)
			}
			if got := c.State(); got != l.state {
				t.Fatalf("New(%d, %d), line %d, %s: %v, not %v", x.room, x.begin, i, l.act, got, l.state)
			}
		}
	}
}

// Each room that may be, with each number of open questions, is one for just so many.
func TestNew(t *testing.T) { // P20.1
	for room := 1; room <= api.MaxRoom; room++ {
		for _, begin := range begins {
			w := opened(t, room, begin)
			w.ask()
			w.tick()
			w.holds()
			for range room + 2 {
				w.texts("a")
				w.holds()
			}
		}
	}
}

// With an error New answers no caller that could be used as one, and the error is the queue's.
func TestNewOfNoSuchRoom(t *testing.T) { // P20.1, rule 2
	for _, room := range badRooms {
		_, want := queue.New(room)
		for _, begin := range begins {
			c, e := caller.New(room, begin)
			if c != nil || e != want || e != api.ErrArg {
				t.Fatalf("New(%d, %d) = %v, %d", room, begin, c, e)
			}
			nothing(t, c)
		}
	}
}

// Each message alone and behind another one: it is told as it was sent.
func TestEachMessage(t *testing.T) { // P20.2, P20.3
	all := messages()
	for i := range 256 {
		all = append(all, []byte{byte(i)}, []byte{'x', byte(i)}, []byte{byte(i), 'x'})
	}
	for _, m := range all {
		w := opened(t, 2, 0)
		for range 3 {
			w.send(m)
			w.send(m)
			w.send(m)
			w.holds()
			w.ask()
			w.finish()
			w.ask()
			w.holds()
		}
	}
}

// nil and an empty list are one message, which is there and has no bytes.
func TestNoByte(t *testing.T) { // P20.2, P20.3
	for _, m := range [][]byte{nil, {}, make([]byte, 0, 9), []byte("abc")[:0], []byte("abc")[3:]} {
		c, _ := caller.New(1, 0)
		if id, e := c.Send(m); id != 0 || e != api.OK {
			t.Fatal(id, e)
		}
		if o, e := c.Poll(0); o != api.Waiting || e != api.OK {
			t.Fatal(o, e)
		}
		if x := c.Take(api.Probe{}); len(x) != 1 || x[0].Kind != api.PrData || x[0].Label != 0 || len(x[0].Data) != 0 {
			t.Fatal(x)
		}
		if _, e := c.Send(m); e != api.ErrFull {
			t.Fatal(e)
		}
		if told(c.Tick()) != `1 0 ""` || len(c.Take(api.Probe{Kind: api.PrAck})) != 0 {
			t.Fatal(c.State())
		}
		if o, e := c.Poll(0); o != api.Confirmed || e != api.OK {
			t.Fatal(o, e)
		}
		if id, e := c.Send(m); id != 1 || e != api.OK {
			t.Fatal(id, e)
		}
	}
}

// A message has at most MaxData bytes; what has more is refused, however much room there is, ahead of there being none. What is refused leaves all as it was.
func TestWhichError(t *testing.T) { // P20.2, rule 2
	lengths := []int{api.MaxData + 1, api.MaxData + 2, 96, 97, 127, 128, 255, 256, 257, 320, 512, 513, 65536, 65537}
	for room := 1; room <= api.MaxRoom; room++ {
		for _, begin := range []uint64{0, 2, half, most - 1, most} {
			w := opened(t, room, begin)
			for n := range room + 1 {
				was := w.c.State()
				for _, l := range lengths {
					if id, e := w.c.Send(make([]byte, l)); id != 0 || e != api.ErrLong {
						t.Fatal(room, n, l, id, e)
					}
				}
				if w.c.State() != was {
					t.Fatal(was, w.c.State())
				}
				w.holds()
				w.ask()
				if n < room {
					w.send(noise(n, api.MaxData-n))
				}
			}
			was := w.c.State()
			for _, m := range [][]byte{nil, {}, []byte("a"), make([]byte, api.MaxData)} {
				if id, e := w.c.Send(m); id != 0 || e != api.ErrFull {
					t.Fatal(room, len(m), id, e)
				}
			}
			if w.c.State() != was {
				t.Fatal(was, w.c.State())
			}
			w.holds()
			w.ask()
		}
	}
}

// A Send that is refused sets no mark, and takes nothing of what was heard.
func TestRefusedInBetween(t *testing.T) { // P20.1, P20.2, rule 2
	long := make([]byte, api.MaxData+1)
	for _, begin := range []uint64{2, 3, 9, half, most - 40} {
		for _, room := range []int{1, 2, 16} {
			w := opened(t, room, begin)
			w.send(long) // to an empty queue
			w.ack(0)
			w.send(long)
			w.holds()
			for i := range room {
				w.texts(fmt.Sprint(i))
			}
			for range 3 {
				w.tick()
				w.ack(w.label())
				w.tick()
				w.send(long)
				w.texts("no room")
				w.holds()
			}
		}
	}
	w := opened(t, 1, 1) // the queue is empty again, and Acks is what it was when the last message was done
	w.texts("a")
	w.tick()
	w.ack(0)
	w.ack(0)
	if got := w.c.State(); got.Done != 1 || got.Acks != 2 {
		t.Fatal(got)
	}
	w.send(long)
	w.holds()
	w.texts("b")
	w.holds()
}

// A list's bytes count, not the room behind them.
func TestRoomBehindIsNoByte(t *testing.T) { // P20.2
	w := opened(t, 3, 0)
	w.send(make([]byte, 3, 1000))
	w.send(noise(1, 1000)[:api.MaxData])
	w.send(noise(1, 1000)[900:])
	w.holds()
	for range 2 {
		w.ask()
		w.finish()
	}
}

// The numbers of messages rise by one, whatever is done between, and go on above those that are done.
func TestNumbers(t *testing.T) { // P20.2
	for room := 1; room <= api.MaxRoom; room++ {
		c, _ := caller.New(room, 0)
		for n := 0; n < 400; {
			for range room {
				if id, e := c.Send([]byte{byte(n), byte(n >> 8)}); id != n || e != api.OK {
					t.Fatal(room, n, id, e)
				}
				n++
			}
			if id, e := c.Send(nil); id != 0 || e != api.ErrFull {
				t.Fatal(id, e)
			}
			for range 1 + n%room {
				s := c.State()
				x := c.Take(api.Probe{})
				if len(x) != 1 || x[0].Label != s.Done%2 || !bytes.Equal(x[0].Data, []byte{byte(s.Done), byte(s.Done >> 8)}) {
					t.Fatal(s, x)
				}
				for c.State().Done == s.Done {
					c.Tick()
					c.Take(api.Probe{Kind: api.PrAck, Label: s.Done % 2})
				}
			}
			for s := c.State(); s.Accepted-s.Done > 0; s = c.State() {
				c.Tick()
				c.Take(api.Probe{Kind: api.PrAck, Label: s.Done % 2})
			}
		}
	}
}

// Numbers that 8 or 16 bits do not hold.
func TestManyMessages(t *testing.T) { // P20.2, P20.3
	c, _ := caller.New(2, 0)
	for n := range 70000 {
		if id, e := c.Send([]byte{byte(n)}); id != n || e != api.OK {
			t.Fatal(n, id, e)
		}
		if o, e := c.Poll(n); o != api.Waiting || e != api.OK {
			t.Fatal(n, o, e)
		}
		if x := c.Take(api.Probe{}); told(x) != fmt.Sprintf("3 %d %q", n%2, []byte{byte(n)}) {
			t.Fatal(n, told(x))
		}
		c.Tick()
		c.Take(api.Probe{Kind: api.PrAck, Label: n % 2})
		if o, e := c.Poll(n); o != api.Confirmed || e != api.OK {
			t.Fatal(n, o, e)
		}
		if _, e := c.Poll(n + 1); e != api.ErrNone {
			t.Fatal(n, e)
		}
	}
	if s := c.State(); s != (caller.State{Accepted: 70000, Done: 70000, Acks: 1}) {
		t.Fatal(s)
	}
	for _, id := range []int{0, 1, 255, 256, 4464, 65535, 65536, 69999} {
		if o, e := c.Poll(id); o != api.Confirmed || e != api.OK {
			t.Fatal(id, o, e)
		}
	}
}

// A message that is sent to an empty queue becomes the message at once: what is open then is marked, whatever was marked, and Acks is 0.
func TestBecomesAtOnce(t *testing.T) { // P20.1, P20.2
	for heard := range uint64(6) {
		for _, begin := range []uint64{5, 6, 100, half, most - 1} {
			w := opened(t, 3, begin)
			for range heard {
				w.ack(0)
			}
			if got := w.c.State(); got.Out != begin-heard || got.Marked != begin {
				t.Fatal(got)
			}
			w.texts("a")
			if got := w.c.State(); got.Out != begin-heard || got.Marked != begin-heard || got.Acks != 0 {
				t.Fatal(got)
			}
			w.ask()
			w.holds()
		}
	}
	for begin := range uint64(9) { // behind one that is done, with Acks left from it
		w := opened(t, 3, begin)
		w.texts("a")
		w.tick()
		w.tick()
		w.tick()
		for range begin + 1 {
			w.ack(0)
		}
		if got := w.c.State(); got != (caller.State{Accepted: 1, Done: 1, Out: 2, Marked: begin, Acks: begin + 1}) {
			t.Fatal(got)
		}
		w.ack(1) // one fewer is open, none is counted
		w.ask()
		w.tick()
		if got := w.c.State(); got != (caller.State{Accepted: 1, Done: 1, Out: 1, Marked: begin, Acks: begin + 1}) {
			t.Fatal(got)
		}
		w.texts("b")
		if got := w.c.State(); got != (caller.State{Accepted: 2, Done: 1, Out: 1, Marked: 1}) {
			t.Fatal(got)
		}
		w.ask()
		w.holds()
	}
}

// A message behind another one becomes the message when that is done, and not ahead of that.
func TestBecomesWhenTheOneAheadIsDone(t *testing.T) { // P20.1, P20.3
	for begin := range uint64(7) {
		for more := range uint64(7) {
			w := opened(t, 3, begin)
			w.texts("a")
			for range more + 1 {
				w.tick()
			}
			for i := range begin {
				w.ack(0)
				w.texts("b") // the third one has no room
				if got := w.c.State(); got.Marked != begin || got.Acks != i+1 || got.Done != 0 {
					t.Fatal(begin, more, got)
				}
				w.ask()
			}
			w.texts("c")
			w.holds()
			w.ack(0)
			if got := w.c.State(); got.Done != 1 || got.Out != more || got.Marked != more || got.Acks != 0 {
				t.Fatal(begin, more, got)
			}
			w.tick()
			if got := w.c.State(); got.Out != more+1 || got.Marked != more || got.Acks != 0 {
				t.Fatal(begin, more, got)
			}
			w.ask()
			w.holds()
		}
	}
}

func TestPoll(t *testing.T) { // P20.2
	for _, begin := range []uint64{0, 1, 3} {
		w := opened(t, 4, begin)
		for i := range 12 {
			for range i % 5 {
				w.texts("a")
			}
			for id := -3; id < len(w.sent)+3; id++ {
				w.poll(id)
			}
			for _, id := range farNumbers {
				w.poll(id)
			}
			if len(w.waiting()) > 0 {
				w.finish()
			}
		}
		if w.done < 8 {
			t.Fatal(w.done)
		}
	}
}

// Poll and State change nothing, however often they are called.
func TestAskingHowItStands(t *testing.T) { // P20.2, P20.3
	w := opened(t, 3, 2)
	for i := range 40 {
		for range 20 {
			w.holds()
		}
		switch i % 4 {
		case 0:
			w.texts("a")
		case 1:
			w.tick()
		default:
			w.ack(w.label())
		}
	}
}

// Without a message nothing is asked; with one it is, until the ledger is spent, the ask that spends it among them.
func TestTick(t *testing.T) { // P20.2
	for n := range 40 {
		w := opened(t, 2, most-uint64(n))
		for range 3 {
			if x := w.c.Tick(); len(x) != 0 {
				t.Fatal(n, x)
			}
			w.holds()
		}
		w.texts("a")
		for i := range n {
			w.holds()
			if x := w.c.Tick(); len(x) != 1 || x[0].Kind != api.PrTry || x[0].Label != 0 || len(x[0].Data) != 0 {
				t.Fatal(n, i, x)
			}
			w.out++
		}
		if s := w.c.State(); !s.Spent || s.Out != most || s.Marked != most-uint64(n) {
			t.Fatal(n, s)
		}
		for range 3 {
			if x := w.c.Tick(); len(x) != 0 {
				t.Fatal(n, x)
			}
			w.holds()
			w.ack(0)
			w.ask()
			w.texts("b")
		}
	}
}

// A PrTry is the same for each message: it tells neither label nor message.
func TestTickTellsNoMessage(t *testing.T) { // P20.2
	w := opened(t, 3, 0)
	for i := range 6 {
		w.texts("abc")
		if x := w.c.Tick(); told(x) != `1 0 ""` {
			t.Fatal(i, told(x))
		}
		w.out++
		w.finish()
		if x := w.c.Tick(); len(x) != 0 {
			t.Fatal(i, told(x))
		}
	}
}

// A question has an answer, whatever else stands in it, and that changes nothing.
func TestTakeOfAQuestion(t *testing.T) { // P20.3, P20.4
	for _, begin := range []uint64{0, 1, 7, half, most - 1, most} {
		w := opened(t, 3, begin)
		for i := range 8 {
			for _, label := range slices.Concat(oddLabels, []int{0, 1}) {
				for _, data := range [][]byte{nil, []byte("x"), noise(1, 200)} {
					w.take(api.Probe{Kind: api.PrAsk, Label: label, Data: data})
				}
			}
			w.holds()
			w.send(noise(i, 5*i))
			if i%3 == 2 && begin < 100 {
				w.finish()
			}
		}
	}
}

// By the number of the message the label is 0 and 1 in turn.
func TestLabels(t *testing.T) { // P20.1, P20.3
	for _, room := range []int{1, 2, 16} {
		w := opened(t, room, 1)
		for i := range 40 {
			for range room {
				w.send([]byte{byte(len(w.sent))})
			}
			if x := w.c.Take(api.Probe{}); len(x) != 1 || x[0].Label != i%2 || string(x[0].Data) != string([]byte{byte(i)}) {
				t.Fatal(i, x)
			}
			w.finish()
		}
	}
}

// What the transmitter does not ask for, and what is no kind at all, is nothing.
func TestTakeOfOthers(t *testing.T) { // P20.3
	for _, begin := range []uint64{0, 1, 3, most - 1, most} {
		w := opened(t, 3, begin)
		for range 5 {
			was := w.c.State()
			for _, kind := range slices.Concat(oddKinds, []int{api.PrTry, api.PrIdle, api.PrData}) {
				for _, label := range slices.Concat(oddLabels, []int{0, 1}) {
					for _, data := range [][]byte{nil, []byte("a"), noise(3, 300)} {
						if x := w.c.Take(api.Probe{Kind: kind, Label: label, Data: data}); len(x) != 0 {
							t.Fatal(kind, label, x)
						}
					}
				}
			}
			if w.c.State() != was {
				t.Fatal(was, w.c.State())
			}
			w.holds()
			w.texts("a")
			w.tick()
			w.ack(w.label())
		}
	}
}

// An answer is heard, if one is open, with a message or without, whatever its label: one fewer is open. It is counted only under the label of the message.
func TestTakeOfAnAnswer(t *testing.T) { // P20.3
	for _, label := range slices.Concat(oddLabels, []int{0, 1}) {
		for _, data := range [][]byte{nil, []byte("x"), noise(1, 200)} {
			p := api.Probe{Kind: api.PrAck, Label: label, Data: data}
			w := opened(t, 3, 5)
			is := func(out, marked, acks uint64) {
				t.Helper()
				if s := w.c.State(); s.Out != out || s.Marked != marked || s.Acks != acks {
					t.Fatal(label, s)
				}
				w.holds()
			}
			w.take(p) // no message
			is(4, 5, 0)
			w.texts("a")
			is(4, 4, 0)
			w.take(p) // a message of an even number
			is(3, 4, uint64(one(label == 0)))
			w.finish()
			w.tick()
			for w.out > 0 { // none is open, and there is no message
				w.take(p)
			}
			is(0, 4, 5)
			w.take(p)
			is(0, 4, 5)
			w.texts("b")
			is(0, 0, 0)
			w.take(p) // none is open, and there is a message of an odd number
			is(0, 0, 0)
			w.tick()
			w.take(p)
			is(0, 0, uint64(one(label == 1)))
			if done := w.c.State().Done; done != 1+one(label == 1) {
				t.Fatal(label, done)
			}
		}
	}
}

// one is 1 of what is so, else 0.
func one(so bool) int {
	if so {
		return 1
	}
	return 0
}

// Of a caller that is spent no answer is heard, with its label or not, with a message or without.
func TestAnswersToOneThatIsSpent(t *testing.T) { // P20.3
	for n := range 5 {
		w := opened(t, 2, most-uint64(n))
		w.texts("a", "b")
		if n > 1 {
			w.tick()
			w.ack(0)
		}
		for !w.spent() {
			w.tick()
		}
		was := w.c.State()
		if was.Out != most || !was.Spent || was.Acks != uint64(one(n > 1)) {
			t.Fatal(n, was)
		}
		for range 50 {
			w.ack(0)
			w.ack(1)
			w.ack(2)
			w.tick()
			w.ask()
			w.texts("c")
			if w.c.State() != was {
				t.Fatal(n, was, w.c.State())
			}
			w.holds()
		}
	}
	w := opened(t, 2, most)
	for range 3 {
		w.ack(0)
		w.ack(1)
		w.holds()
	}
}

// As many answers as are marked do not do, one more does: of the first message by what was open at first.
func TestEnough(t *testing.T) { // P20.3, P20.4
	for _, begin := range []uint64{0, 1, 2, 3, 5, 9, 17, 100, 127, 128, 254, 255, 256, 257, 1000, 65534, 65535, 65536, 65537, 131072} {
		for _, more := range []int{1, 2, 7} {
			c, _ := caller.New(2, begin)
			c.Send([]byte("a"))
			c.Send([]byte("b"))
			for range more {
				c.Tick()
			}
			for i := range begin {
				c.Take(api.Probe{Kind: api.PrAck})
				if s := c.State(); s.Done != 0 || s.Acks != i+1 || s.Marked != begin {
					t.Fatal(begin, i, s)
				}
			}
			c.Take(api.Probe{Kind: api.PrAck})
			left := uint64(more) - 1
			if s := c.State(); s != (caller.State{Accepted: 2, Done: 1, Out: left, Marked: left}) {
				t.Fatal(begin, s)
			}
		}
	}
}

// Where more are marked than anybody will ever answer, the message stays, however many of them come.
func TestFewerNeverDo(t *testing.T) { // P20.3, P20.4
	for _, begin := range []uint64{1 << 31, 1 << 32, 1<<32 + 1, 1 << 48, half - 1, half, half + 1, most - 1<<32, most - 2, most - 1} {
		c, _ := caller.New(1, begin)
		c.Send([]byte("a"))
		for i := range uint64(2000) {
			c.Take(api.Probe{Kind: api.PrAck})
			if s := c.State(); s.Done != 0 || s.Acks != i+1 || s.Marked != begin || s.Out != begin-i-1 || s.Spent {
				t.Fatal(begin, i, s)
			}
		}
	}
}

// By the answers alone: each message is done by the answer that is one more than were open when it became the message, those with another label not counted, and by no earlier one; of many begins, with many asks in between.
func TestJustAsManyAnswers(t *testing.T) { // P20.4
	for begin := range uint64(14) {
		for seed := range 30 {
			next := drawn(int(begin)*100 + seed)
			c, _ := caller.New(16, begin)
			for range 16 {
				c.Send([]byte("a"))
			}
			for n := range 16 {
				marked, heard := c.State().Out, uint64(0)
				if c.State().Marked != marked || c.State().Acks != 0 {
					t.Fatal(begin, n, c.State())
				}
				for range next(9) {
					c.Tick()
				}
				for heard <= marked {
					if o, e := c.Poll(n); o != api.Waiting || e != api.OK {
						t.Fatal(begin, n, heard, marked)
					}
					for c.State().Out == 0 || next(3) == 0 {
						c.Tick()
					}
					if next(3) == 0 {
						c.Take(api.Probe{Kind: api.PrAck, Label: 1 - n%2})
						continue
					}
					c.Take(api.Probe{Kind: api.PrAck, Label: n % 2})
					heard++
				}
				if o, e := c.Poll(n); o != api.Confirmed || e != api.OK {
					t.Fatal(begin, n, heard, marked)
				}
			}
		}
	}
}

// Each PrAsk has just one answer, a PrData as long as there is a message, and nothing else has one.
func TestJustOneAnswer(t *testing.T) { // P20.4
	for _, begin := range begins {
		for seed := range 10 {
			next := drawn(seed)
			c, _ := caller.New(1+seed, begin)
			for range 150 {
				switch next(5) {
				case 0:
					c.Send([]byte("a"))
				case 1:
					c.Tick()
				}
				was := c.State()
				p := api.Probe{Kind: next(7) - 1, Label: next(2)}
				want := 2
				if was.Accepted > was.Done {
					want = 3
				}
				switch x := c.Take(p); {
				case p.Kind != 0 && len(x) != 0, p.Kind == 0 && (len(x) != 1 || x[0].Kind != want):
					t.Fatal(was, p, x)
				}
				if p.Kind != 4 && c.State() != was {
					t.Fatal(was, c.State())
				}
			}
		}
	}
}

// What is on its way between a caller and somebody who answers as a receiver does, each answer as old as it may be: a message is told Confirmed only when one of the answers that came was made by somebody who had it.
func TestOneWasFresh(t *testing.T) { // P20.3, P20.4
	type ack struct {
		label int
		had   int // how many messages were got by who made it
	}
	for begin := range 6 {
		for seed := range 60 {
			next := drawn(begin*1000 + seed)
			c, _ := caller.New(4, uint64(begin))
			var way []ack // answers, and among them those from ahead of all, with any label
			for range begin {
				way = append(way, ack{label: next(2)})
			}
			questions, got, best := 0, 0, 0
			for range 400 {
				done := c.State().Done
				switch next(6) {
				case 0:
					c.Send([]byte("a"))
				case 1:
					questions += len(c.Tick())
				case 2:
					if questions > 0 { // who got n messages answers with the last one's label
						questions--
						way = append(way, ack{label: (got + 1) % 2, had: got})
					}
				case 3:
					if s := c.State(); got == s.Done && s.Accepted > got {
						got++
					}
				default:
					if len(way) > 0 {
						i := next(len(way))
						best = max(best, way[i].had)
						c.Take(api.Probe{Kind: api.PrAck, Label: way[i].label})
						way = slices.Delete(way, i, i+1)
					}
				}
				if s := c.State(); s.Done > done && best < s.Done || uint64(questions+len(way)) != s.Out {
					t.Fatal(begin, seed, best, questions, len(way), s)
				}
			}
			if begin < 3 && c.State().Done < 2 {
				t.Fatal(begin, seed, c.State())
			}
		}
	}
}

// mix does so many acts that are drawn, up to high asks among them for ten answers.
func (w *twin) mix(next func(int) int, n, high int) {
	w.t.Helper()
	all := messages()
	for range n {
		switch x := next(24); {
		case x < 4:
			w.send(all[next(len(all))])
		case x == 4:
			w.send(make([]byte, api.MaxData+1+next(100)))
		case x < 5+high:
			w.tick()
		case x < 18:
			w.ack(w.label())
		case x == 18:
			w.ack(1 - w.label())
		case x == 19:
			w.take(api.Probe{Kind: next(7) - 1, Label: next(4) - 1, Data: all[next(len(all))]})
		default:
			w.ask()
		}
		w.holds()
	}
}

func TestManyActs(t *testing.T) { // P20.1 to P20.4
	for room := 1; room <= api.MaxRoom; room++ {
		for seed := range 12 {
			for i, begin := range begins {
				next := drawn(seed*1000 + room*50 + i)
				opened(t, room, begin).mix(next, 60, 1+(seed+i)%7)
			}
		}
	}
}

// Walks that go up and down in turn, so that none is open now and then, and many messages are done.
func TestLongWalks(t *testing.T) { // P20.1 to P20.4
	for room := 1; room <= api.MaxRoom; room++ {
		for begin := range uint64(5) {
			next := drawn(int(begin)*100 + room)
			w := opened(t, room, begin)
			for i := range 20 {
				w.mix(next, 50, []int{7, 2, 5, 1}[i%4])
			}
			if w.done < 20 {
				t.Fatal(room, begin, w.done)
			}
		}
	}
}

// Each row of up to six acts, in small rooms, from begins about the ends.
func TestEachShortRow(t *testing.T) { // P20.1 to P20.4
	const deep, acts = 6, 6
	rows := 1
	for range deep {
		rows *= acts
	}
	for room := 1; room <= 2; room++ {
		for _, begin := range []uint64{0, 1, 2, most - 2, most - 1, most} {
			for row := range rows {
				c, _ := caller.New(room, begin)
				w := &twin{t: t, c: c, room: room, out: begin, marked: begin}
				for range deep {
					switch row % acts {
					case 0:
						w.texts("a")
					case 1:
						w.tick()
					case 2:
						w.ask()
					case 3:
						w.ack(0)
					case 4:
						w.ack(1)
					case 5:
						w.send(make([]byte, api.MaxData+1))
					}
					row /= acts
					if c.State() != w.state() {
						t.Fatal(row, c.State(), w.state())
					}
				}
			}
		}
	}
}

// spare answers b with room behind it in which a guard stands, and a function that tells whether b and the guard are as they were.
func spare(b []byte) ([]byte, func() bool) {
	whole := slices.Concat([]byte{7}, b, noise(len(b), 100))
	was := bytes.Clone(whole)
	return whole[1 : 1+len(b)], func() bool { return bytes.Equal(whole, was) }
}

// What is handed in isn't changed, nor what stands behind it, whether it is taken or not, and whatever comes later.
func TestWhatIsHandedInStays(t *testing.T) { // rule 3
	w := opened(t, 4, 1)
	for i, m := range append(messages(), noise(1, api.MaxData+1), noise(2, 500)) {
		b, sent := spare(m)
		d, taken := spare(m)
		w.send(b)
		for kind := -1; kind < 6; kind++ {
			for label := range 3 {
				p := api.Probe{Kind: kind, Label: label, Data: d}
				w.take(p)
				if p.Kind != kind || p.Label != label || len(p.Data) != len(m) {
					t.Fatal(p)
				}
				spoil(w.c.Take(api.Probe{}))
			}
		}
		w.tick()
		if i%2 == 0 && len(w.waiting()) > 0 {
			w.finish()
		}
		spoil(w.c.Take(api.Probe{Kind: api.PrAsk, Data: d}))
		w.holds()
		if !sent() || !taken() {
			t.Fatal(i, m)
		}
	}
	for _, c := range unmade() {
		b, untouched := spare([]byte("abc"))
		c.Send(b)
		c.Take(api.Probe{Data: b})
		c.Take(api.Probe{Kind: api.PrAck, Data: b})
		if !untouched() {
			t.Fatal(b)
		}
	}
}

// What was handed in may be changed: what was sent is what it was by then, and of a packet's Data nothing is kept.
func TestWhatIsHandedInIsNotKept(t *testing.T) { // rule 3
	for _, m := range messages() {
		w := opened(t, 3, 0)
		for range 4 { // the last one is refused
			mine, _ := spare(m)
			w.send(mine)
			overwrite(mine)
			w.holds()
		}
		for range 3 {
			d, _ := spare(m)
			for kind := range 5 {
				w.take(api.Probe{Kind: kind, Label: 2, Data: d})
				overwrite(d)
				w.ask()
			}
			w.finish()
		}
	}
}

// One list of bytes, written over for each Send.
func TestOneBufferForAll(t *testing.T) { // rule 3
	for room := 1; room <= api.MaxRoom; room++ {
		w := opened(t, room, 2)
		buffer := make([]byte, 5)
		for i := range 3 * room {
			for at := range buffer {
				buffer[at] = byte(i + at)
			}
			w.send(buffer[:1+i%5])
			clear(buffer)
			w.ask()
			w.holds()
			if i%3 == 2 {
				w.finish()
				w.ask()
			}
		}
	}
}

// What is told may be written, cut and grown, and no later answer is another one; two answers share nothing.
func TestWhatIsToldIsNewMemory(t *testing.T) { // rule 3
	for _, m := range messages() {
		w := opened(t, 4, 1)
		w.texts("first")
		w.send(m)
		w.send(m)
		for range 3 {
			want := told([]api.Probe{w.answer()})
			a, b := w.c.Take(api.Probe{}), w.c.Take(api.Probe{})
			x, y := w.c.Tick(), w.c.Tick()
			w.out += 2
			for range 2 {
				spoil(a)
				spoil(x)
				if told(b) != want || told(y) != `1 0 ""` {
					t.Fatal(told(b), told(y), want)
				}
				w.ask()
				w.tick()
				w.holds()
				a, b = b, w.c.Take(api.Probe{})
				x, y = y, w.c.Tick()
				w.out++
			}
			w.finish()
			if told(b) != want || told(y) != `1 0 ""` {
				t.Fatal(told(b), told(y), want)
			}
		}
		idle, other := w.c.Take(api.Probe{}), w.c.Take(api.Probe{})
		spoil(idle)
		w.are("what Take told", other, []api.Probe{{Kind: 2}})
		w.ask()
	}
}

// What was told stays what it was, whatever comes later.
func TestAnswersStay(t *testing.T) { // rule 3
	next := drawn(9)
	w := opened(t, 5, 1)
	var answers [][]api.Probe
	var were []string
	for i := range 400 {
		x := w.c.Take(api.Probe{})
		answers, were = append(answers, x), append(were, told(x))
		if i%3 == 0 {
			x := w.c.Tick()
			w.out += uint64(len(x))
			answers, were = append(answers, x), append(were, told(x))
		}
		w.mix(next, 5, 3)
	}
	for i, x := range answers {
		if told(x) != were[i] {
			t.Fatal(i, told(x), were[i])
		}
		spoil(x)
	}
	w.mix(next, 50, 3)
}

// What was told may be sent, and be written then.
func TestToldIsSentAgain(t *testing.T) { // rule 3
	w := opened(t, 2, 0)
	w.texts("a", "another")
	for range 20 {
		x := w.c.Take(api.Probe{})
		w.finish()
		w.send(x[0].Data)
		w.take(x[0])
		spoil(x)
		w.ask()
		w.holds()
	}
}

// unmade are the callers that New did not make.
func unmade() []*caller.Caller {
	return []*caller.Caller{nil, new(caller.Caller), {}}
}

// nothing fails the test if the caller, which New did not make, is one.
func nothing(t *testing.T, c *caller.Caller) {
	t.Helper()
	for _, m := range [][]byte{nil, []byte("a"), make([]byte, api.MaxData), make([]byte, api.MaxData+1)} {
		if id, e := c.Send(m); id != 0 || e != api.ErrNil {
			t.Fatal(len(m), id, e)
		}
	}
	for _, id := range slices.Concat(farNumbers, []int{0, 1}) {
		if o, e := c.Poll(id); o != 0 || e != api.ErrNil {
			t.Fatal(id, o, e)
		}
	}
	if x := c.Tick(); len(x) != 0 {
		t.Fatal(x)
	}
	for _, kind := range slices.Concat(oddKinds, []int{0, 1, 2, 3, 4}) {
		for label := range 3 {
			if x := c.Take(api.Probe{Kind: kind, Label: label, Data: []byte("a")}); len(x) != 0 {
				t.Fatal(kind, label, x)
			}
		}
	}
	if s := c.State(); s != (caller.State{Spent: true}) {
		t.Fatal(s)
	}
}

// Each call as the first one, and each behind each other one.
func TestUnmade(t *testing.T) { // P20.1 to P20.3, rules 1 and 2
	calls := []func(c *caller.Caller) bool{
		func(c *caller.Caller) bool { id, e := c.Send([]byte("a")); return id == 0 && e == api.ErrNil },
		func(c *caller.Caller) bool { id, e := c.Send(make([]byte, 1000)); return id == 0 && e == api.ErrNil },
		func(c *caller.Caller) bool { o, e := c.Poll(0); return o == 0 && e == api.ErrNil },
		func(c *caller.Caller) bool { o, e := c.Poll(-1); return o == 0 && e == api.ErrNil },
		func(c *caller.Caller) bool { return len(c.Tick()) == 0 },
		func(c *caller.Caller) bool { return len(c.Take(api.Probe{})) == 0 },
		func(c *caller.Caller) bool { return len(c.Take(api.Probe{Kind: api.PrAck})) == 0 },
		func(c *caller.Caller) bool { return len(c.Take(api.Probe{Kind: -1, Label: -1})) == 0 },
		func(c *caller.Caller) bool { return c.State() == caller.State{Spent: true} },
	}
	for i := range unmade() {
		for first, f := range calls {
			for second, g := range calls {
				c := unmade()[i]
				for range 20 {
					if !f(c) || !g(c) {
						t.Fatal(i, first, second)
					}
				}
				nothing(t, c)
			}
		}
	}
}

// A caller that is a part of something else, and that nobody made, is no other than one of its own.
func TestUnmadeInside(t *testing.T) { // P20.1 to P20.3, rule 1
	var s struct {
		before uint64
		c      caller.Caller
		after  uint64
	}
	var l [3]caller.Caller
	for range 40 {
		nothing(t, &s.c)
		for i := range l {
			nothing(t, &l[i])
		}
		if s.before != 0 || s.after != 0 {
			t.Fatal(s.before, s.after)
		}
	}
}

// A caller has the chapter's calls, and none of its parts': nobody else's Push or Mark comes at what it has.
func TestNoOtherCalls(t *testing.T) { // P20.1 to P20.4
	p := reflect.TypeFor[*caller.Caller]()
	var names []string
	for m := range p.Methods() {
		names = append(names, m.Name)
	}
	if want := []string{"Poll", "Send", "State", "Take", "Tick"}; !slices.Equal(names, want) {
		t.Fatal(names)
	}
	for f := range p.Elem().Fields() {
		if f.IsExported() {
			t.Fatal(f.Name)
		}
	}
}

// Callers have nothing to do with one another, nor with one that nobody made.
func TestTwoCallers(t *testing.T) { // rule 4
	next := drawn(7)
	x, y, z := opened(t, 3, 1), opened(t, 16, most-60), opened(t, 3, 1)
	for i := range 400 {
		x.mix(next, 1, 4)
		y.mix(next, 1, 6)
		if i%3 == 0 {
			z.mix(next, 1, 2)
		}
		for _, c := range unmade() {
			nothing(t, c)
		}
		opened(t, 3, 1).texts("a", "b")
		x.holds()
		y.holds()
		z.holds()
	}
}

// What one caller told is handed to another one.
func TestFromOneToAnother(t *testing.T) { // rule 3
	x, y := opened(t, 16, 0), opened(t, 5, 3)
	for i := range 16 {
		x.send(noise(i, 4*i))
	}
	for range 16 {
		l := x.c.Take(api.Probe{})
		y.send(l[0].Data)
		y.take(l[0])
		spoil(l)
		x.finish()
		y.finish()
		y.send(nil)
		x.ask()
		y.ask()
		x.holds()
		y.holds()
	}
}

// The same calls have the same answers.
func TestTheSameAgain(t *testing.T) { // rule 4
	run := func(begin uint64) string {
		c, _ := caller.New(5, begin)
		next := drawn(3)
		said := ""
		for range 300 {
			switch next(4) {
			case 0:
				said += fmt.Sprint(c.Send(noise(next(100), next(80))))
			case 1:
				said += told(c.Tick())
			default:
				said += told(c.Take(api.Probe{Kind: next(6), Label: next(3)}))
			}
			said += fmt.Sprint(c.State())
			said += fmt.Sprint(c.Poll(next(20) - 2))
		}
		return said
	}
	for _, begin := range begins {
		if run(begin) != run(begin) {
			t.Fatal("other answers")
		}
	}
}

// inUse is how many bytes are kept.
func inUse() int {
	var m runtime.MemStats
	runtime.GC()
	runtime.GC()
	runtime.ReadMemStats(&m)
	return int(m.HeapAlloc)
}

// What is done is kept no longer, however many there were, and of packets nothing is.
func TestWhatIsKept(t *testing.T) { // P20.1 to P20.3
	const many = 200
	var l [many]*caller.Caller
	for i := range l {
		l[i], _ = caller.New(api.MaxRoom, 0)
	}
	before := inUse()
	for _, c := range l {
		for n := range 200 {
			c.Send(make([]byte, api.MaxData))
			c.Take(api.Probe{Kind: n % 5, Data: make([]byte, 10000)})
			c.Tick()
			c.Take(api.Probe{Kind: api.PrAck, Label: c.State().Done % 2, Data: make([]byte, 10000)})
		}
	}
	if left := inUse() - before; left > many*2000 {
		t.Fatal(left)
	}
	for _, c := range l {
		if s := c.State(); s.Accepted != 200 || s.Done < 190 {
			t.Fatal(s)
		}
	}
}
