package hearer_test

import (
	"bytes"
	"fmt"
	"kedge/api"
	"kedge/caller"
	"kedge/hearer"
	"kedge/queue"
	"math"
	"reflect"
	"runtime"
	"slices"
	"strings"
	"testing"
)

// The numbers that the chapter names, written out.
const (
	half = 9223372036854775808  // 2^63
	most = 18446744073709551615 // 2^64 - 1
)

// begins are numbers of questions that are open at first: few, many, and such as are others if they are cut short or have a sign.
var begins = []uint64{
	0, 1, 2, 3, 4, 5, 7, 8, 127, 128, 255, 256, 257, 65535, 65536, 65537, 1<<31 - 1, 1 << 31, 1<<32 - 1, 1 << 32, 1<<32 + 1, 1 << 53,
	half - 1, half, half + 1, most - 1<<32, most - 256, most - 20, most - 3, most - 2, most - 1, most,
}

// badRooms are rooms that may not be; among them such as may if they are cut short or have no sign.
var badRooms = []int{
	0, api.MaxRoom + 1, api.MaxRoom + 2, 32, 255, 256, 257, 272, 65536, 65537, 1 << 31, 1<<32 - 1, 1 << 32, 1<<32 + 1, 1<<32 + 16, math.MaxInt - 1, math.MaxInt,
	-1, -2, -15, -16, -17, -256, -65536, -1 << 31, -1 << 32, 16 - 1<<32, math.MinInt + 1, math.MinInt + 16, math.MinInt,
}

// oddLabels are labels that no message has; among them such as are one if they are cut short, or by their last bit alone.
var oddLabels = []int{2, 3, 4, 5, 255, 256, 257, 65536, 65537, 1 << 32, 1<<32 + 1, -1, -2, -3, -256, -255, math.MaxInt, math.MaxInt - 1, math.MinInt, math.MinInt + 1}

// allLabels are those, and the two that messages have.
var allLabels = slices.Concat(oddLabels, []int{0, 1})

// oddKinds are kinds that no packet has; among them such as have one if they are cut short.
var oddKinds = []int{5, 6, 7, 8, 255, 256, 257, 258, 259, 260, 65537, 65538, 65539, 1<<32 + 1, 1<<32 + 2, 1<<32 + 3, -1, -2, -3, -252, -253, -254, -255, math.MaxInt, math.MaxInt - 4, math.MinInt, math.MinInt + 1, math.MinInt + 2, math.MinInt + 3}

// row is a message that was told, and how often.
type row struct {
	data  string
	count uint64
}

// twin is a hearer, and beside it what the chapter says of it, kept apart.
type twin struct {
	t                 *testing.T
	h                 *hearer.Hearer
	room              int
	kept              []string
	entered, returned int
	out, marked       uint64
	told              []row // under the label that is waited for, in the order in which they were told first
}

// opened is a hearer that no message has entered.
func opened(t *testing.T, room int, begin uint64) *twin {
	t.Helper()
	h, e := hearer.New(room, begin)
	if h == nil || e != api.OK {
		t.Fatalf("New(%d, %d) = %v, %d", room, begin, h, e)
	}
	w := &twin{t: t, h: h, room: room, out: begin, marked: begin}
	w.holds()
	return w
}

// spent is whether nothing is asked or heard any more.
func (w *twin) spent() bool {
	return w.out == most
}

// label is the label that is waited for.
func (w *twin) label() int {
	if w.entered%2 == 1 {
		return 1
	}
	return 0
}

// best is the message that was told most often, the first one of several.
func (w *twin) best() row {
	b := row{}
	for _, r := range w.told {
		if r.count > b.count {
			b = r
		}
	}
	return b
}

// may is what happens when a message may enter.
func (w *twin) may() {
	b := w.best()
	if len(w.kept) == w.room || w.spent() || b.count <= w.marked || len(b.data) > 64 {
		return
	}
	w.kept = append(w.kept, b.data)
	w.entered++
	w.told = nil
	w.marked = w.out
}

// heard is whether an answer is heard; one fewer is open then.
func (w *twin) heard() bool {
	if w.spent() || w.out == 0 {
		return false
	}
	w.out--
	return true
}

// add counts that a message was told once more.
func (w *twin) add(data string) {
	for i := range w.told {
		if w.told[i].data == data {
			w.told[i].count++
			return
		}
	}
	w.told = append(w.told, row{data, 1})
}

// tick ticks, and is kept.
func (w *twin) tick() {
	w.t.Helper()
	var want []api.Probe
	if !w.spent() {
		w.out++
		want = []api.Probe{{Kind: 0}}
	}
	if got := w.h.Tick(); told(got) != told(want) {
		w.t.Fatalf("Tick() = %s, not %s", told(got), told(want))
	}
}

// ticks ticks n times.
func (w *twin) ticks(n int) {
	w.t.Helper()
	for range n {
		w.tick()
	}
}

// take hands in a packet, and is kept.
func (w *twin) take(p api.Probe) {
	w.t.Helper()
	var want []api.Probe
	switch p.Kind {
	case 1:
		want = []api.Probe{{Kind: 4, Label: 1 - w.label()}}
	case 2:
		w.heard()
	case 3:
		if w.heard() && p.Label == w.label() {
			w.add(string(p.Data))
			w.may()
		}
	}
	if got := w.h.Take(p); told(got) != told(want) {
		w.t.Fatalf("Take(%v) = %s, not %s", p, told(got), told(want))
	}
}

// try hands in a question, idle an answer without a message, data one with a message.
func (w *twin) try() {
	w.t.Helper()
	w.take(api.Probe{Kind: api.PrTry})
}

func (w *twin) idle() {
	w.t.Helper()
	w.take(api.Probe{Kind: api.PrIdle})
}

func (w *twin) data(label int, m string) {
	w.t.Helper()
	w.take(api.Probe{Kind: api.PrData, Label: label, Data: []byte(m)})
}

// tell hands in n answers with a message under the label that is waited for, each to a question that is asked for it.
func (w *twin) tell(m string, n int) {
	w.t.Helper()
	for range n {
		w.tick()
		w.data(w.label(), m)
	}
}

// drain has all questions answered, but with no message.
func (w *twin) drain() {
	w.t.Helper()
	for w.out > 0 {
		w.idle()
	}
}

// receive receives, and is kept.
func (w *twin) receive() {
	w.t.Helper()
	m, ok := w.h.Receive()
	if len(w.kept) == 0 {
		if len(m) != 0 || ok {
			w.t.Fatalf("Receive() = %q, %v, but there is none", m, ok)
		}
		return
	}
	if string(m) != w.kept[0] || !ok {
		w.t.Fatalf("Receive() = %q, %v, not %q", m, ok, w.kept[0])
	}
	w.kept = w.kept[1:]
	w.returned++
	w.may()
}

// fill has messages enter until there is no room.
func (w *twin) fill() {
	w.t.Helper()
	for len(w.kept) < w.room {
		w.tell(fmt.Sprint("full ", w.entered), 1)
	}
	w.holds()
}

// state is what State should tell.
func (w *twin) state() hearer.State {
	return hearer.State{Entered: w.entered, Returned: w.returned, Out: w.out, Marked: w.marked, Spent: w.spent()}
}

// holds fails the test if the hearer isn't what is kept.
func (w *twin) holds() {
	w.t.Helper()
	if got := w.h.State(); got != w.state() {
		w.t.Fatalf("State() = %v, not %v", got, w.state())
	}
	if got := texts(w.h.Kept()); !slices.Equal(got, w.kept) {
		w.t.Fatalf("Kept() = %q, not %q", got, w.kept)
	}
}

// is fails the test if the hearer isn't at this.
func (w *twin) is(entered, returned int, out, marked uint64) {
	w.t.Helper()
	if got, want := w.h.State(), (hearer.State{Entered: entered, Returned: returned, Out: out, Marked: marked}); got != want {
		w.t.Fatalf("State() = %v, not %v", got, want)
	}
	w.holds()
}

// told is packets as a text: kind, label and message of each.
func told(l []api.Probe) string {
	var s []string
	for _, p := range l {
		s = append(s, fmt.Sprintf("%d %d %q", p.Kind, p.Label, p.Data))
	}
	return strings.Join(s, ", ")
}

// texts is messages as texts.
func texts(l [][]byte) []string {
	var s []string
	for _, m := range l {
		s = append(s, string(m))
	}
	return s
}

// drawn answers a function that tells numbers that look like noise, below n, the same ones in each run.
func drawn(begin int) func(n int) int {
	x := uint64(begin)
	return func(n int) int {
		x = x*6364136223846793005 + 1442695040888963407
		return int(x>>33) % n
	}
}

// noise is n bytes that look like noise.
func noise(begin, n int) []byte {
	next := drawn(begin)
	b := make([]byte, n)
	for i := range b {
		b[i] = byte(next(256))
	}
	return b
}

// messages are each another one: none, few bytes, such as mean something to other layers, and all lengths up to the longest.
func messages() [][]byte {
	l := [][]byte{nil, {0}, {0, 0}, {0, 'a'}, []byte("a"), []byte("a\x00"), {0x7e}, {0x7d}, {0xff}, {0xc0, 0x80}}
	for n := 1; n <= api.MaxData; n++ {
		l = append(l, noise(n, n))
	}
	return l
}

// long answers a message that is too long by n bytes.
func long(n int) string {
	return strings.Repeat("l", api.MaxData+n)
}

// overwrite puts other bytes in all of b's memory, up to its capacity.
func overwrite(b []byte) {
	b = b[:cap(b)]
	for i := range b {
		b[i] = ^b[i]
	}
}

// deface writes, cuts and grows a message that was told.
func deface(b []byte) {
	overwrite(b)
	_ = append(b[:len(b)/2], 4)
	_ = append(b, 1, 2, 3)
}

// defaceAll writes, cuts and grows messages that were told, and their list.
func defaceAll(l [][]byte) {
	l = l[:cap(l)]
	for i := range l {
		deface(l[i])
		l[i] = []byte("spoilt")
	}
	_ = append(l[:len(l)/2], []byte("cut"))
	_ = append(l, []byte("grown"))
}

// spoil writes, cuts and grows packets that were told, and their messages.
func spoil(l []api.Probe) {
	l = l[:cap(l)]
	for i := range l {
		deface(l[i].Data)
		l[i] = api.Probe{Kind: -9, Label: -9, Data: []byte("spoilt")}
	}
	_ = append(l[:0], api.Probe{Kind: 77})
	_ = append(l, api.Probe{Kind: 78})
}

// by is a hearer driven by words: what it answers, as a text.
func by(h *hearer.Hearer, act string) string {
	word, rest, _ := strings.Cut(act, " ")
	switch word {
	case "tick":
		return told(h.Tick())
	case "try":
		return told(h.Take(api.Probe{Kind: api.PrTry}))
	case "idle":
		return told(h.Take(api.Probe{Kind: api.PrIdle}))
	case "data0":
		return told(h.Take(api.Probe{Kind: api.PrData, Data: []byte(rest)}))
	case "data1":
		return told(h.Take(api.Probe{Kind: api.PrData, Label: 1, Data: []byte(rest)}))
	case "receive":
		m, ok := h.Receive()
		return fmt.Sprintf("%q %v", m, ok)
	}
	return "no act"
}

func TestExample(t *testing.T) { // P21.1 to P21.3
	h, e := hearer.New(1, 0)
	if e != api.OK {
		t.Fatal(e)
	}
	if x := h.Tick(); len(x) != 1 || x[0].Kind != api.PrAsk || x[0].Label != 0 || len(x[0].Data) != 0 {
		t.Fatal(x)
	}
	if x := h.Take(api.Probe{Kind: api.PrData, Data: []byte("a")}); len(x) != 0 {
		t.Fatal(x)
	}
	if m, ok := h.Receive(); string(m) != "a" || !ok {
		t.Fatal(m, ok)
	}
	if x := h.Take(api.Probe{Kind: api.PrTry}); len(x) != 1 || x[0].Kind != api.PrAck || x[0].Label != 0 || len(x[0].Data) != 0 {
		t.Fatal(x)
	}
}

// The second of the document's examples: with two open, three answers with "a" are needed.
func TestExampleWithTwoOpen(t *testing.T) { // P21.1, P21.2
	h, _ := hearer.New(1, 2)
	h.Tick()
	a := api.Probe{Kind: api.PrData, Data: []byte("a")}
	for i := range 3 {
		if s := h.State(); s.Entered != 0 || len(h.Kept()) != 0 {
			t.Fatal(i, s)
		}
		h.Take(a)
	}
	if s := h.State(); s != (hearer.State{Entered: 1}) || len(h.Kept()) != 1 || string(h.Kept()[0]) != "a" {
		t.Fatal(s, h.Kept())
	}
}

// A row of acts with what each answers, and how it stands behind that, written out.
func TestWrittenOut(t *testing.T) { // P21.1 to P21.3
	type state = hearer.State
	type line struct {
		act, answer, kept string
		state             state
	}
	for _, x := range []struct {
		room  int
		begin uint64
		lines []line
	}{
		{2, 1, []line{
			{"try", `4 1 ""`, "", state{0, 0, 1, 1, false}},
			{"receive", `"" false`, "", state{0, 0, 1, 1, false}},
			{"data1 z", "", "", state{0, 0, 0, 1, false}},
			{"data0 a", "", "", state{0, 0, 0, 1, false}},
			{"idle", "", "", state{0, 0, 0, 1, false}},
			{"tick", `0 0 ""`, "", state{0, 0, 1, 1, false}},
			{"tick", `0 0 ""`, "", state{0, 0, 2, 1, false}},
			{"tick", `0 0 ""`, "", state{0, 0, 3, 1, false}},
			{"tick", `0 0 ""`, "", state{0, 0, 4, 1, false}},
			{"data0 b", "", "", state{0, 0, 3, 1, false}},
			{"data0 a", "", "", state{0, 0, 2, 1, false}},
			{"data0 a", "", "a", state{1, 0, 1, 1, false}},
			{"try", `4 0 ""`, "a", state{1, 0, 1, 1, false}},
			{"data0 b", "", "a", state{1, 0, 0, 1, false}},
			{"tick", `0 0 ""`, "a", state{1, 0, 1, 1, false}},
			{"data1 b", "", "a", state{1, 0, 0, 1, false}},
			{"tick", `0 0 ""`, "a", state{1, 0, 1, 1, false}},
			{"data1 b", "", "a b", state{2, 0, 0, 0, false}},
			{"try", `4 1 ""`, "a b", state{2, 0, 0, 0, false}},
			{"tick", `0 0 ""`, "a b", state{2, 0, 1, 0, false}},
			{"tick", `0 0 ""`, "a b", state{2, 0, 2, 0, false}},
			{"tick", `0 0 ""`, "a b", state{2, 0, 3, 0, false}},
			{"data0 c", "", "a b", state{2, 0, 2, 0, false}},
			{"try", `4 1 ""`, "a b", state{2, 0, 2, 0, false}},
			{"receive", `"a" true`, "b c", state{3, 1, 2, 2, false}},
			{"try", `4 0 ""`, "b c", state{3, 1, 2, 2, false}},
			{"receive", `"b" true`, "c", state{3, 2, 2, 2, false}},
			{"data1 d", "", "c", state{3, 2, 1, 2, false}},
			{"data1 d", "", "c", state{3, 2, 0, 2, false}},
			{"receive", `"c" true`, "", state{3, 3, 0, 2, false}},
			{"receive", `"" false`, "", state{3, 3, 0, 2, false}},
			{"tick", `0 0 ""`, "", state{3, 3, 1, 2, false}},
			{"data1 d", "", "d", state{4, 3, 0, 0, false}},
			{"receive", `"d" true`, "", state{4, 4, 0, 0, false}},
		}},
		{1, 0, []line{
			{"data0 a", "", "", state{0, 0, 0, 0, false}},
			{"tick", `0 0 ""`, "", state{0, 0, 1, 0, false}},
			{"data0 a", "", "a", state{1, 0, 0, 0, false}},
			{"tick", `0 0 ""`, "a", state{1, 0, 1, 0, false}},
			{"tick", `0 0 ""`, "a", state{1, 0, 2, 0, false}},
			{"tick", `0 0 ""`, "a", state{1, 0, 3, 0, false}},
			{"tick", `0 0 ""`, "a", state{1, 0, 4, 0, false}},
			{"data1 b", "", "a", state{1, 0, 3, 0, false}},
			{"data1 c", "", "a", state{1, 0, 2, 0, false}},
			{"data1 c", "", "a", state{1, 0, 1, 0, false}},
			{"receive", `"a" true`, "c", state{2, 1, 1, 1, false}},
			{"receive", `"c" true`, "", state{2, 2, 1, 1, false}},
			{"receive", `"" false`, "", state{2, 2, 1, 1, false}},
			{"data1 b", "", "", state{2, 2, 0, 1, false}},
			{"try", `4 1 ""`, "", state{2, 2, 0, 1, false}},
		}},
		{1, most - 2, []line{
			{"idle", "", "", state{0, 0, most - 3, most - 2, false}},
			{"data0 a", "", "", state{0, 0, most - 4, most - 2, false}},
			{"tick", `0 0 ""`, "", state{0, 0, most - 3, most - 2, false}},
			{"tick", `0 0 ""`, "", state{0, 0, most - 2, most - 2, false}},
			{"tick", `0 0 ""`, "", state{0, 0, most - 1, most - 2, false}},
			{"data1 a", "", "", state{0, 0, most - 2, most - 2, false}},
			{"tick", `0 0 ""`, "", state{0, 0, most - 1, most - 2, false}},
			{"tick", `0 0 ""`, "", state{0, 0, most, most - 2, true}},
			{"tick", "", "", state{0, 0, most, most - 2, true}},
			{"data0 a", "", "", state{0, 0, most, most - 2, true}},
			{"idle", "", "", state{0, 0, most, most - 2, true}},
			{"try", `4 1 ""`, "", state{0, 0, most, most - 2, true}},
			{"receive", `"" false`, "", state{0, 0, most, most - 2, true}},
		}},
		{2, most, []line{
			{"tick", "", "", state{0, 0, most, most, true}},
			{"data0 a", "", "", state{0, 0, most, most, true}},
			{"idle", "", "", state{0, 0, most, most, true}},
			{"try", `4 1 ""`, "", state{0, 0, most, most, true}},
			{"receive", `"" false`, "", state{0, 0, most, most, true}},
		}},
	} {
		h, _ := hearer.New(x.room, x.begin)
		if got, want := h.State(), (state{Out: x.begin, Marked: x.begin, Spent: x.begin == most}); got != want {
			t.Fatal(got, want)
		}
		for i, l := range x.lines {
			if got := by(h, l.act); got != l.answer {
				t.Fatalf("New(%d, %d), line %d, %s: %s, not %s", x.room, x.begin, i, l.act, got, l.answer)
			}
			if got := h.State(); got != l.state {
				t.Fatalf("New(%d, %d), line %d, %s: %v, not %v", x.room, x.begin, i, l.act, got, l.state)
			}
			if got := strings.Join(texts(h.Kept()), " "); got != l.kept {
				t.Fatalf("New(%d, %d), line %d, %s: %s, not %s", x.room, x.begin, i, l.act, got, l.kept)
			}
		}
	}
}

// Each room that may be, with each number of open questions; by few of these it is seen that there is room for just so many.
func TestNew(t *testing.T) { // P21.1
	for room := 1; room <= api.MaxRoom; room++ {
		for _, begin := range begins {
			w := opened(t, room, begin)
			w.receive()
			w.try()
			w.tick()
			w.holds()
			w.data(0, "a")
			w.data(1, "b")
			w.idle()
			w.holds()
			if begin > 8 {
				continue
			}
			w.drain()
			for range room + 2 {
				w.tell(fmt.Sprint(w.entered), 9)
				w.drain()
				w.holds()
			}
			if w.entered != room {
				t.Fatal(room, begin, w.entered)
			}
		}
	}
}

// With an error New answers no hearer that could be used as one, and the error is the queue's.
func TestNewOfNoSuchRoom(t *testing.T) { // P21.1, rule 2
	for _, room := range badRooms {
		_, want := queue.New(room)
		for _, begin := range begins {
			h, e := hearer.New(room, begin)
			if h != nil || e != want || e != api.ErrArg {
				t.Fatalf("New(%d, %d) = %v, %d", room, begin, h, e)
			}
			nothing(t, h)
		}
	}
}

// It asks until the ledger is spent, the ask that spends it among them, and never again.
func TestTick(t *testing.T) { // P21.1
	for n := range 40 {
		w := opened(t, 2, most-uint64(n))
		for i := range n {
			w.holds()
			if x := w.h.Tick(); len(x) != 1 || x[0].Kind != api.PrAsk || x[0].Label != 0 || len(x[0].Data) != 0 {
				t.Fatal(n, i, x)
			}
			w.out++
		}
		if s := w.h.State(); s != (hearer.State{Out: most, Marked: most - uint64(n), Spent: true}) {
			t.Fatal(n, s)
		}
		for range 3 {
			if x := w.h.Tick(); len(x) != 0 {
				t.Fatal(n, x)
			}
			w.holds()
			w.idle()
			w.data(0, "a")
			w.try()
			w.receive()
		}
	}
}

// A question is the same, whatever it waits for, and whether there is room or not.
func TestTickTellsNoLabel(t *testing.T) { // P21.1
	w := opened(t, 3, 0)
	for i := range 12 {
		if x := w.h.Tick(); told(x) != `0 0 ""` {
			t.Fatal(i, told(x))
		}
		w.out++
		w.data(w.label(), "abc")
		w.holds()
		if i%4 == 3 {
			w.receive()
		}
	}
}

// Each PrTry is answered with the label of the message that entered last, be it asked for whenever, and whatever else stands in it, and that changes nothing.
func TestTakeOfATry(t *testing.T) { // P21.2, P21.4
	for _, begin := range []uint64{0, 1, 3, 7, half, most - 1, most} {
		w := opened(t, 3, begin)
		for i := range 8 {
			for _, label := range allLabels {
				for _, data := range [][]byte{nil, []byte("x"), noise(1, 200)} {
					x := w.h.Take(api.Probe{Kind: api.PrTry, Label: label, Data: data})
					if len(x) != 1 || x[0].Kind != api.PrAck || x[0].Label != 1-w.entered%2 || len(x[0].Data) != 0 {
						t.Fatal(begin, i, x)
					}
				}
			}
			w.holds()
			w.tick()
			w.data(w.label(), "x")
			if begin < 10 {
				w.tell("a", 8)
			}
			if i%3 == 2 {
				w.receive()
			}
			w.holds()
		}
	}
}

// By how many entered, the label that is waited for is 0 and 1 in turn; those that were returned are among them.
func TestLabels(t *testing.T) { // P21.1, P21.2
	for _, room := range []int{1, 2, 5, 16} {
		w := opened(t, room, 0)
		for i := range 40 {
			if x := w.h.Take(api.Probe{Kind: api.PrTry}); told(x) != fmt.Sprintf(`4 %d ""`, (i+1)%2) {
				t.Fatal(i, told(x))
			}
			w.ticks(2)
			w.data((i+1)%2, "other")
			w.is(i, w.returned, 1, 0)
			w.data(i%2, fmt.Sprint(i))
			w.is(i+1, w.returned, 0, 0)
			if len(w.kept) == room {
				for range 1 + i%room {
					w.receive()
				}
			}
		}
	}
}

// What the receiver does not ask for, and what is no kind at all, is nothing: neither is it heard, nor told.
func TestTakeOfOthers(t *testing.T) { // P21.2
	for _, begin := range []uint64{0, 1, 3, most - 1, most} {
		w := opened(t, 3, begin)
		for range 5 {
			was := w.h.State()
			for _, kind := range slices.Concat(oddKinds, []int{api.PrAsk, api.PrAck}) {
				for _, label := range allLabels {
					for _, data := range [][]byte{nil, []byte("a"), noise(3, 300)} {
						if x := w.h.Take(api.Probe{Kind: kind, Label: label, Data: data}); len(x) != 0 {
							t.Fatal(kind, label, x)
						}
					}
				}
			}
			if w.h.State() != was {
				t.Fatal(was, w.h.State())
			}
			w.holds()
			w.tick()
			w.data(w.label(), "a")
			w.holds()
		}
	}
}

// A PrIdle is heard, if a question is open, whatever stands in it; nothing is told by it.
func TestTakeOfAnIdle(t *testing.T) { // P21.2
	for _, label := range allLabels {
		for _, data := range [][]byte{nil, []byte("x"), noise(1, 200)} {
			p := api.Probe{Kind: api.PrIdle, Label: label, Data: data}
			w := opened(t, 2, 3)
			w.take(p)
			w.is(0, 0, 2, 3)
			w.take(p)
			w.take(p)
			w.is(0, 0, 0, 3)
			w.take(p) // none is open
			w.is(0, 0, 0, 3)
			w.ticks(9)
			for i := range 3 {
				w.take(p)
				w.data(0, "x")
				w.is(0, 0, uint64(7-2*i), 3)
			}
			w.take(p)
			w.is(0, 0, 2, 3)
			w.data(0, "x") // the fourth one
			w.is(1, 0, 1, 1)
			w.take(p) // a message entered
			w.is(1, 0, 0, 1)
			w.take(p)
			w.is(1, 0, 0, 1)
		}
	}
}

// A PrData is heard, if a question is open, whatever its label; it is told only under the label that is waited for.
func TestTakeOfData(t *testing.T) { // P21.2
	for _, label := range allLabels {
		w := opened(t, 3, 2)
		w.data(label, "x")
		w.is(0, 0, 1, 2)
		w.data(label, "x")
		w.is(0, 0, 0, 2)
		for range 5 { // none is open: it is not told either
			w.data(label, "x")
			w.data(0, "x")
			w.is(0, 0, 0, 2)
		}
		w.ticks(5)
		w.data(label, "x")
		w.is(one(label == 0), 0, 4, uint64(2+2*one(label == 0)))
		w = opened(t, 3, 0) // and at an odd number
		w.tell("first", 1)
		w.ticks(4)
		w.data(label, "x")
		w.is(1+one(label == 1), 0, 3, uint64(3*one(label == 1)))
		w.data(label, "x")
		w.is(1+one(label == 1), 0, 2, uint64(3*one(label == 1)))
	}
}

// one is 1 of what is so, else 0.
func one(so bool) int {
	if so {
		return 1
	}
	return 0
}

// What none had asked for, or was told under another label, does not count later, when it is asked for and the label is waited for.
func TestNotToldIsNotCounted(t *testing.T) { // P21.2
	for _, begin := range []uint64{1, 2, 5} {
		w := opened(t, 4, begin)
		w.drain()
		for range 20 {
			w.data(0, "b")
			w.data(1, "b")
			w.data(2, "b")
		}
		w.ticks(20)
		for range 10 {
			w.data(1, "b")
			w.data(-1, "b")
		}
		w.is(0, 0, 0, begin)
		w.tell("b", int(begin))
		w.is(0, 0, 0, begin)
		w.ticks(3)
		w.data(0, "b")
		w.is(1, 0, 2, 2) // of the ten that were told under 1 none counts now
		w.data(1, "b")
		w.data(1, "b")
		w.is(1, 0, 0, 2)
		w.tick()
		w.data(1, "b")
		w.is(2, 0, 0, 0)
	}
}

// Of a hearer that is spent no answer is heard, and nothing enters; it goes on answering questions, and tells what it has.
func TestAnswersToOneThatIsSpent(t *testing.T) { // P21.2, P21.3
	for n := range 5 {
		w := opened(t, 2, most-uint64(n))
		if n > 1 {
			w.tick()
			w.data(0, "a")
		}
		for !w.spent() {
			w.tick()
		}
		was := w.h.State()
		if was != (hearer.State{Out: most, Marked: most - uint64(n), Spent: true}) {
			t.Fatal(n, was)
		}
		for range 50 {
			w.data(0, "a")
			w.data(1, "a")
			w.data(2, "a")
			w.idle()
			w.tick()
			w.try()
			w.receive()
			if w.h.State() != was {
				t.Fatal(n, was, w.h.State())
			}
			w.holds()
		}
	}
}

// Each message is returned as it was told, at whichever label.
func TestEachMessage(t *testing.T) { // P21.2, P21.3
	all := messages()
	for i := range 256 {
		all = append(all, []byte{byte(i)}, []byte{'x', byte(i)}, []byte{byte(i), 'x'})
	}
	for _, m := range all {
		w := opened(t, 2, 1)
		for range 3 {
			w.tell(string(m), 2)
			w.tell(string(m), 1)
			w.holds()
			w.try()
			w.receive()
			w.holds()
		}
		if w.returned != 3 {
			t.Fatal(m, w.returned)
		}
	}
}

// Messages that are nearly the same are others: each is counted by itself.
func TestEachMessageByItself(t *testing.T) { // P21.2
	all := messages()
	w := opened(t, 1, 2)
	w.drain()
	for range 2 {
		for _, m := range all {
			w.tell(string(m), 1)
		}
	}
	w.is(0, 0, 0, 2)
	for i := range all { // each of them is the one that is told once more
		w := opened(t, 1, 2)
		w.drain()
		for range 2 {
			for _, m := range all {
				w.tell(string(m), 1)
			}
		}
		w.tell(string(all[i]), 1)
		w.is(1, 0, 0, 0)
		w.receive()
	}
}

// nil and an empty list are one message, which is there and has no bytes.
func TestNoByte(t *testing.T) { // P21.2, P21.3
	empty := [][]byte{nil, {}, make([]byte, 0, 9), []byte("abc")[:0], []byte("abc")[3:]}
	for i := range empty {
		h, _ := hearer.New(1, 4)
		h.Tick()
		for j := range empty {
			if s := h.State(); s.Entered != 0 {
				t.Fatal(i, j, s)
			}
			if x := h.Take(api.Probe{Kind: api.PrData, Data: empty[(i+j)%5]}); len(x) != 0 {
				t.Fatal(x)
			}
		}
		if l := h.Kept(); len(l) != 1 || len(l[0]) != 0 || h.State().Entered != 1 {
			t.Fatal(l, h.State())
		}
		if m, ok := h.Receive(); len(m) != 0 || !ok {
			t.Fatal(m, ok)
		}
		if m, ok := h.Receive(); len(m) != 0 || ok {
			t.Fatal(m, ok)
		}
		if s := h.State(); s != (hearer.State{Entered: 1, Returned: 1}) {
			t.Fatal(s)
		}
	}
}

// A list's bytes count, not the room behind them.
func TestRoomBehindIsNoByte(t *testing.T) { // P21.2
	w := opened(t, 3, 0)
	w.ticks(9)
	for _, m := range [][]byte{make([]byte, 3, 1000), noise(1, 1000)[:api.MaxData], noise(1, 1000)[936:]} {
		for range 9 {
			w.take(api.Probe{Kind: api.PrData, Label: w.label(), Data: m})
			w.tick()
		}
		w.holds()
	}
	if w.entered == 0 {
		t.Fatal("none entered")
	}
}

// What has more than MaxData bytes never enters, however often it is told, at whatever begin.
func TestTooLongNeverEnters(t *testing.T) { // P21.2
	for _, n := range []int{1, 2, 32, 33, 63, 64, 191, 192, 193, 256, 448, 449, 65536 - 64, 65536, 65600} {
		for _, begin := range []uint64{0, 1, 3} {
			w := opened(t, 2, begin)
			w.drain()
			w.tell(long(n), 12)
			w.is(0, 0, 0, begin)
			w.receive()
			w.try()
			w.is(0, 0, 0, begin)
			w.tell(long(0), 13) // of as many bytes as may be
			if w.entered != 1 || w.kept[0] != long(0) {
				t.Fatal(n, begin, w.kept)
			}
			w.holds()
		}
	}
}

// The one that is told best too long: nothing enters, the tally and the mark stay, until another one is told better, or as often and told first.
func TestTooLongIsBest(t *testing.T) { // P21.2
	for _, begin := range []uint64{0, 1, 2, 5} {
		for _, more := range []int{1, 2, 7} {
			best := int(begin) + more
			w := opened(t, 2, begin)
			w.drain()
			w.tell(long(1), best)
			w.tell("a", best) // as often, but told later
			w.tell("b", best)
			w.is(0, 0, 0, begin)
			w.tell("b", 1)
			w.is(1, 0, 0, 0)
			if w.kept[0] != "b" {
				t.Fatal(w.kept)
			}
			if begin == 0 {
				continue // the first one that is told enters at once
			}
			w = opened(t, 2, begin)
			w.drain()
			w.tell("b", 1)
			w.tell("a", 1)
			w.tell(long(1), best)
			w.tell("a", best-2)
			w.is(0, 0, 0, begin)
			w.tell("a", 1) // as often as the one that is too long, and told first
			w.is(1, 0, 0, 0)
			if w.kept[0] != "a" {
				t.Fatal(w.kept)
			}
		}
	}
}

// Behind a message that entered those that were too long are forgotten with all others.
func TestTooLongIsForgotten(t *testing.T) { // P21.2
	w := opened(t, 9, 3)
	w.drain()
	for range 4 {
		w.tell(long(1), 20)
		w.tell("a", 21)
		w.holds()
	}
	if w.entered != 4 {
		t.Fatal(w.entered)
	}
	w = opened(t, 9, 3)
	w.drain()
	w.tell(long(1), 20)
	w.tell("a", 21)
	w.tell("b", 1)
	w.tell("c", 1) // under 0 again
	w.is(3, 0, 0, 0)
}

// The queue full, and the one that is told best too long: a Receive has nothing enter then, and a later one the one that is best by then.
func TestTooLongAndNoRoom(t *testing.T) { // P21.2, P21.3
	w := opened(t, 2, 0)
	w.fill()
	w.tell("a", 1)
	w.tell(long(1), 2)
	w.is(2, 0, 0, 0)
	w.receive()
	w.is(2, 1, 0, 0)
	w.tell("b", 1)
	w.is(2, 1, 0, 0)
	w.receive()
	w.is(2, 2, 0, 0)
	w.receive()
	w.is(2, 2, 0, 0)
	w.tell("a", 1)
	w.is(3, 2, 0, 0)
	if w.kept[0] != "a" {
		t.Fatal(w.kept)
	}
}

// As many answers as are marked do not do, one more does: of the first message by what was open at first.
func TestEnough(t *testing.T) { // P21.2, P21.4
	for _, begin := range []uint64{0, 1, 2, 3, 5, 9, 17, 100, 127, 128, 254, 255, 256, 257, 1000, 65534, 65535, 65536, 65537, 131072} {
		for _, more := range []int{1, 2, 7} {
			h, _ := hearer.New(2, begin)
			for range more {
				h.Tick()
			}
			a := api.Probe{Kind: api.PrData, Data: []byte("a")}
			for i := range begin {
				h.Take(a)
				if s := h.State(); s != (hearer.State{Out: begin + uint64(more) - i - 1, Marked: begin}) {
					t.Fatal(begin, i, s)
				}
			}
			h.Take(a)
			left := uint64(more) - 1
			if s := h.State(); s != (hearer.State{Entered: 1, Out: left, Marked: left}) {
				t.Fatal(begin, s)
			}
		}
	}
}

// Where more are marked than anybody will ever answer, no message enters, however many answers come.
func TestFewerNeverDo(t *testing.T) { // P21.2, P21.4
	for _, begin := range []uint64{1 << 31, 1 << 32, 1<<32 + 1, 1 << 48, half - 1, half, half + 1, most - 1<<32, most - 2, most - 1} {
		h, _ := hearer.New(1, begin)
		for i := range uint64(2000) {
			h.Take(api.Probe{Kind: api.PrData, Data: []byte("a")})
			if s := h.State(); s != (hearer.State{Out: begin - i - 1, Marked: begin}) {
				t.Fatal(begin, i, s)
			}
		}
	}
}

// Several messages under one label, told in turn: the one that was told first gets to be enough first, and then all begin anew.
func TestToldInTurn(t *testing.T) { // P21.2
	for begin := range uint64(6) {
		for several := 1; several < 6; several++ {
			w := opened(t, 3, begin)
			w.drain()
			for range begin {
				for i := range several {
					w.tell(fmt.Sprint(i), 1)
					w.is(0, 0, 0, begin)
				}
			}
			w.tell("0", 1)
			w.is(1, 0, 0, 0)
			if w.kept[0] != "0" {
				t.Fatal(w.kept)
			}
		}
	}
}

// Whichever of several is told once more enters, be it told first or last.
func TestWhoeverIsEnough(t *testing.T) { // P21.2
	for _, begin := range []uint64{1, 2, 4, 9} {
		for which := range 6 {
			w := opened(t, 3, begin)
			w.drain()
			for i := range 6 {
				w.tell(fmt.Sprint(i), int(begin))
			}
			w.is(0, 0, 0, begin)
			w.ticks(4)
			w.data(0, fmt.Sprint(which))
			w.is(1, 0, 3, 3)
			if w.kept[0] != fmt.Sprint(which) {
				t.Fatal(which, w.kept)
			}
		}
	}
}

// Several that are enough while there is no room: the one that is best when there is room enters, of those that are equally often the one that was told first, and no other one behind it.
func TestSeveralWithoutRoom(t *testing.T) { // P21.2, P21.3
	for _, x := range []struct{ told, enters string }{
		{"a", "a"}, {"ab", "a"}, {"ba", "b"}, {"aab", "a"}, {"abb", "b"}, {"abba", "a"}, {"baab", "b"}, {"abcbc", "b"}, {"abcbcc", "c"},
		{"aabbcc", "a"}, {"ccbbaa", "c"}, {"cbbaa", "b"}, {"abcabcabcb", "b"}, {"aaabbbbcc", "b"}, {"abbbaa", "a"}, {"bbbaaac", "b"},
	} {
		for _, room := range []int{1, 2, 16} {
			w := opened(t, room, 0)
			w.fill()
			for _, m := range x.told {
				w.tell(string(m), 1)
				w.is(room, 0, 0, 0)
			}
			w.ticks(3)
			w.receive()
			w.is(room+1, 1, 3, 3)
			if got := w.kept[room-1]; got != x.enters {
				t.Fatal(x, got)
			}
			for i := range room { // the others are forgotten
				w.receive()
				w.is(room+1, 2+i, 3, 3)
			}
			w.receive()
			w.is(room+1, room+1, 3, 3)
		}
	}
}

// Without room nothing enters, however often it is told; it does by the Receive, and what is open then is marked.
func TestNoRoom(t *testing.T) { // P21.2, P21.3
	for room := 1; room <= api.MaxRoom; room++ {
		for _, often := range []int{1, 2, 9, 100} {
			w := opened(t, room, 0)
			w.fill()
			w.ticks(5)
			label := w.label()
			for range often {
				w.tell("waits", 1)
				w.is(room, 0, 5, 0)
				w.try()
				w.tick()
				w.data(1-label, "other")
				w.idle()
				w.tick()
				w.is(room, 0, 5, 0)
			}
			w.ticks(2)
			w.receive()
			w.is(room+1, 1, 7, 7)
			if w.kept[room-1] != "waits" || len(w.kept) != room {
				t.Fatal(w.kept)
			}
			w.data(label, "waits")
			w.data(label, "waits")
			w.is(room+1, 1, 5, 7)
			w.receive()
			w.is(room+1, 2, 5, 7)
		}
	}
}

// What was not told often enough ahead of a Receive does not enter by it; it goes on being counted, and enters when it is enough.
func TestNotEnoughAtReceive(t *testing.T) { // P21.2, P21.3
	for marked := 1; marked < 7; marked++ {
		for ahead := range marked + 1 {
			w := opened(t, 2, 0)
			w.tell("0", 1)
			w.ticks(marked)
			w.tell("1", 1)
			w.is(2, 0, uint64(marked), uint64(marked))
			w.tell("a", ahead)
			w.is(2, 0, uint64(marked), uint64(marked))
			w.receive()
			w.is(2, 1, uint64(marked), uint64(marked))
			w.tell("a", marked-ahead)
			w.is(2, 1, uint64(marked), uint64(marked))
			w.receive() // there was room before
			w.is(2, 2, uint64(marked), uint64(marked))
			w.tell("a", 1)
			w.is(3, 2, uint64(marked), uint64(marked))
		}
	}
}

// Behind an entering the tally is empty: neither the message that entered, nor others, nor such as waited count any more when its label comes again.
func TestTallyIsEmptyBehind(t *testing.T) { // P21.2
	for _, begin := range []uint64{1, 2, 5} {
		w := opened(t, 9, begin)
		w.drain()
		w.tell("b", int(begin))
		w.tell("a", int(begin))
		w.ticks(int(begin))
		w.tell("a", 1)
		w.is(1, 0, begin, begin)
		w.tell("c", int(begin)+1)
		w.is(2, 0, begin, begin)
		w.tell("b", int(begin)) // under the label 0 for the second time
		w.tell("a", int(begin))
		w.tell("c", int(begin))
		w.is(2, 0, begin, begin)
		w.tell("b", 1)
		w.is(3, 0, begin, begin)
		w.tell("c", int(begin)) // under the label 1 for the second time
		w.tell("b", int(begin))
		w.is(3, 0, begin, begin)
	}
}

// Behind an entering what is open then is marked, be it fewer or more than were marked.
func TestMarkIsSetBehind(t *testing.T) { // P21.2
	for begin := range uint64(7) {
		for more := range uint64(9) {
			w := opened(t, 3, begin)
			w.drain()
			w.tell("a", int(begin))
			w.ticks(int(more) + 1)
			w.is(0, 0, more+1, begin)
			w.data(0, "a")
			w.is(1, 0, more, more)
			w.ticks(2)
			w.is(1, 0, more+2, more)
			w.tell("b", int(more))
			w.is(1, 0, more+2, more)
			w.data(1, "b")
			w.is(2, 0, more+1, more+1)
		}
	}
}

// Of an empty queue Receive tells none, and changes nothing.
func TestReceiveOfAnEmptyQueue(t *testing.T) { // P21.3
	for _, begin := range begins {
		w := opened(t, 2, begin)
		for range 3 {
			was := w.h.State()
			for range 5 {
				if m, ok := w.h.Receive(); len(m) != 0 || ok {
					t.Fatal(m, ok)
				}
			}
			if w.h.State() != was {
				t.Fatal(was, w.h.State())
			}
			w.holds()
			w.tick()
			w.data(0, "a")
			w.receive()
		}
	}
}

// A queue that becomes empty by a Receive, and has the message enter that waited outside, which is returned by the next one.
func TestReceiveOfTheLastOne(t *testing.T) { // P21.3
	w := opened(t, 1, 0)
	w.tell("0", 1)
	for i := range 20 {
		w.is(i+1, i, 0, 0)
		w.tell(fmt.Sprint(i+1), 1)
		w.is(i+1, i, 0, 0)
		if m, ok := w.h.Receive(); string(m) != fmt.Sprint(i) || !ok {
			t.Fatal(i, m, ok)
		}
		w.kept, w.entered, w.returned, w.told = []string{fmt.Sprint(i + 1)}, i+2, i+1, nil
		w.is(i+2, i+1, 0, 0)
	}
	w.receive()
	w.is(21, 21, 0, 0)
	w.receive()
	w.is(21, 21, 0, 0)
}

// One message alone enters by a Receive, and none by the next one.
func TestOneEntersByAReceive(t *testing.T) { // P21.3
	w := opened(t, 4, 0)
	w.fill()
	w.tell("a", 3)
	w.tell("b", 2)
	for i := range 4 {
		w.receive()
		w.is(5, i+1, 0, 0)
	}
	w.tell("c", 1)
	w.is(6, 4, 0, 0)
}

// None, one, as many as there is room for, in their order, wherever the first one stands.
func TestKept(t *testing.T) { // P21.3
	for room := 1; room <= api.MaxRoom; room++ {
		w := opened(t, room, 0)
		if l := w.h.Kept(); len(l) != 0 {
			t.Fatal(l)
		}
		for round := range 3 {
			for i := range room {
				w.tell(fmt.Sprint(round, i), 1)
				l := w.h.Kept()
				if len(l) != i+1 || string(l[0]) != fmt.Sprint(round, 0) || string(l[i]) != fmt.Sprint(round, i) {
					t.Fatal(room, round, i, texts(l))
				}
				w.holds()
			}
			for range 1 + round%room {
				w.receive()
				w.holds()
			}
			for len(w.kept) > 0 {
				w.receive()
				w.holds()
			}
		}
	}
}

// State and Kept change nothing, however often they are called.
func TestAskingHowItStands(t *testing.T) { // P21.3
	w := opened(t, 3, 2)
	for i := range 80 {
		for range 20 {
			w.holds()
		}
		switch i % 4 {
		case 0, 1:
			w.tick()
			w.data(w.label(), "a")
		case 2:
			w.tick()
		case 3:
			if i%3 == 0 {
				w.receive()
			}
		}
	}
	if w.entered < 4 {
		t.Fatal(w.entered)
	}
}

// Numbers that 8 or 16 bits do not hold.
func TestManyMessages(t *testing.T) { // P21.2, P21.3
	h, _ := hearer.New(2, 0)
	for n := range 70000 {
		if x := h.Take(api.Probe{Kind: api.PrTry}); told(x) != fmt.Sprintf(`4 %d ""`, (n+1)%2) {
			t.Fatal(n, told(x))
		}
		h.Tick()
		h.Take(api.Probe{Kind: api.PrData, Label: n % 2, Data: []byte{byte(n), byte(n >> 8)}})
		if s := h.State(); s != (hearer.State{Entered: n + 1, Returned: n}) {
			t.Fatal(n, s)
		}
		if m, ok := h.Receive(); !bytes.Equal(m, []byte{byte(n), byte(n >> 8)}) || !ok {
			t.Fatal(n, m, ok)
		}
	}
	if s := h.State(); s != (hearer.State{Entered: 70000, Returned: 70000}) {
		t.Fatal(s)
	}
}

// By the answers alone: each message enters by the answer that is one more than were open when the one ahead of it entered, and by no earlier one; those with another label, or another message, or none, not counted, and questions lost or asked in between; of many begins.
func TestJustAsManyAnswers(t *testing.T) { // P21.4
	for begin := range uint64(14) {
		for seed := range 30 {
			next := drawn(int(begin)*100 + seed)
			h, _ := hearer.New(16, begin)
			for n := range 16 {
				s := h.State()
				if s.Marked != s.Out {
					t.Fatal(begin, n, s)
				}
				others := map[int]uint64{}
				for count := uint64(0); count <= s.Marked; {
					if now := h.State(); now.Entered != n || now.Marked != s.Marked {
						t.Fatal(begin, n, count, s, now)
					}
					for h.State().Out == 0 || next(3) == 0 {
						h.Tick()
					}
					switch other := next(5); {
					case next(3) == 0:
						h.Take(api.Probe{Kind: api.PrData, Label: 1 - n%2, Data: []byte{byte(n)}})
					case next(9) == 0:
						h.Take(api.Probe{Kind: api.PrIdle})
					case next(3) == 0 && others[other] < s.Marked:
						others[other]++
						h.Take(api.Probe{Kind: api.PrData, Label: n % 2, Data: []byte{byte(100 + other)}})
					default:
						count++
						h.Take(api.Probe{Kind: api.PrData, Label: n % 2, Data: []byte{byte(n)}})
					}
				}
				if l := h.Kept(); h.State().Entered != n+1 || len(l) != n+1 || string(l[n]) != string([]byte{byte(n)}) {
					t.Fatal(begin, n, s, h.State(), l)
				}
			}
		}
	}
}

// Of each of many messages as many answers as are marked: none enters.
func TestFewerOfEachBringNone(t *testing.T) { // P21.4
	for _, begin := range []uint64{0, 1, 2, 3, 8, 20} {
		for seed := range 10 {
			next := drawn(seed)
			w := opened(t, 1+seed, begin)
			w.drain()
			var l []string
			for i := range 30 {
				for range begin {
					l = append(l, fmt.Sprint(i))
				}
			}
			for i := range l {
				j := i + next(len(l)-i)
				l[i], l[j] = l[j], l[i]
				w.tell(l[i], 1)
				w.is(0, 0, 0, begin)
				w.tick()
				w.data(1, l[i])
				w.try()
				w.receive()
			}
			w.is(0, 0, 0, begin)
		}
	}
}

// Each PrTry has just one answer, a PrAck, and nothing else has one.
func TestJustOneAnswer(t *testing.T) { // P21.4
	for _, begin := range begins {
		for seed := range 10 {
			next := drawn(seed)
			h, _ := hearer.New(1+seed, begin)
			for range 150 {
				switch next(5) {
				case 0:
					h.Receive()
				case 1:
					h.Tick()
				}
				was := h.State()
				p := api.Probe{Kind: next(7) - 1, Label: next(2), Data: []byte("a")[:next(2)]}
				want := 1 - was.Entered%2
				switch x := h.Take(p); {
				case p.Kind != 1 && len(x) != 0, p.Kind == 1 && (len(x) != 1 || x[0].Kind != 4 || x[0].Label != want || len(x[0].Data) != 0):
					t.Fatal(was, p, x)
				}
				if p.Kind != 2 && p.Kind != 3 && h.State() != was {
					t.Fatal(was, h.State())
				}
			}
		}
	}
}

// Stale answers, all that were open when the last message entered, each with the same wrong one: one fewer than is needed. Then as many fresh ones and one; by the (2 u + 1)'th answer with its label the message has entered.
func TestStaleOnesDoNotDo(t *testing.T) { // P21.4
	for u := range 12 {
		for seed := range 20 {
			next := drawn(u*50 + seed)
			w := opened(t, 3, 0)
			w.tell("first", 1)
			w.ticks(u)
			w.tell("second", 1)
			w.is(2, 0, uint64(u), uint64(u))
			stale, fresh := u, 0
			w.ticks(u + 1)
			for w.entered == 2 {
				if stale > 0 && next(2) == 0 {
					stale--
					w.data(0, "first")
					continue
				}
				fresh++
				w.data(0, "third")
			}
			if w.kept[2] != "third" || fresh != u+1 || u-stale+fresh > 2*u+1 {
				t.Fatal(u, w.kept, stale, fresh)
			}
			w.holds()
		}
	}
}

// answer is one that is on its way, and says what its maker's message was.
type answer struct {
	p     api.Probe
	stray bool // from ahead of all
}

// between are a hearer, and a transmitter that is none, but a row of messages, with a channel between them that loses and turns about.
type between struct {
	h         *hearer.Hearer
	next      func(int) int
	questions int
	way       []answer
}

// opens is with so many answers on their way from ahead of all, with any label and any message.
func (b *between) opens(begin int) {
	for range begin {
		p := api.Probe{Kind: api.PrData, Label: b.next(2), Data: []byte{byte(b.next(3))}}
		if b.next(4) == 0 {
			p = api.Probe{Kind: api.PrIdle}
		}
		b.way = append(b.way, answer{p: p, stray: true})
	}
}

// act does something that is drawn, the transmitter being at the n'th message.
func (b *between) act(n int) {
	switch x := b.next(8); {
	case x < 3:
		b.questions += len(b.h.Tick())
	case x < 5 && b.questions > 0:
		b.questions--
		b.way = append(b.way, answer{p: api.Probe{Kind: api.PrData, Label: n % 2, Data: []byte{byte(n % 3)}}})
	case x < 7 && len(b.way) > 0:
		i := b.next(len(b.way))
		a := b.way[i]
		b.way = slices.Delete(b.way, i, i+1)
		b.h.Take(a.p)
	case x == 7:
		b.h.Receive()
	}
}

// Whatever comes first of what is on its way, each message that enters is the one that the transmitter had, in order, each once: the transmitter goes on only when it entered.
func TestOneWasFresh(t *testing.T) { // P21.2, P21.4
	for begin := range 6 {
		for seed := range 60 {
			h, _ := hearer.New(1+seed%3, uint64(begin))
			b := &between{h: h, next: drawn(begin*1000 + seed)}
			b.opens(begin)
			var got []byte
			for range 600 {
				n := h.State().Entered
				b.act(n)
				s := h.State()
				if s.Entered > n {
					l := h.Kept()
					got = append(got, l[len(l)-1]...)
				}
				if s.Entered > n+1 || len(got) != s.Entered || s.Entered > 0 && int(got[s.Entered-1]) != (s.Entered-1)%3 {
					t.Fatal(begin, seed, got, s)
				}
				if s.Out != uint64(b.questions+len(b.way)) {
					t.Fatal(begin, seed, b.questions, len(b.way), s)
				}
			}
			if begin < 2 && h.State().Entered < 3 {
				t.Fatal(begin, seed, h.State())
			}
		}
	}
}

// A transmitter and a receiver, with a channel between them that loses some, and brings the others in any order: what is returned is a beginning of what was accepted, and all of it in the end, when nothing is lost any more.
func TestWithACaller(t *testing.T) { // P21.2 to P21.4
	for begin := range 4 {
		for seed := range 40 {
			next := drawn(begin*1000 + seed)
			c, _ := caller.New(1+seed%4, uint64(begin))
			h, _ := hearer.New(1+seed%3, uint64(begin))
			var way [2][]api.Probe // to the transmitter, to the receiver
			for range begin {
				way[0] = append(way[0], api.Probe{Kind: api.PrAck, Label: next(2)})
				way[1] = append(way[1], api.Probe{Kind: api.PrData, Label: next(2), Data: []byte{byte(next(4))}})
			}
			var sent, got []string
			carry := func(to int, lost bool) {
				if len(way[to]) == 0 {
					return
				}
				i := next(len(way[to]))
				p := way[to][i]
				way[to] = slices.Delete(way[to], i, i+1)
				if lost {
					return
				}
				if to == 0 {
					way[1] = append(way[1], c.Take(p)...)
				} else {
					way[0] = append(way[0], h.Take(p)...)
				}
			}
			for i := range 900 {
				lost := i < 100 && next(10) == 0
				switch next(9) {
				case 0:
					m := []byte{byte(next(4))}
					if _, e := c.Send(m); e == api.OK {
						sent = append(sent, string(m))
					}
				case 1:
					way[1] = append(way[1], c.Tick()...)
				case 2:
					way[0] = append(way[0], h.Tick()...)
				case 3:
					if m, ok := h.Receive(); ok {
						got = append(got, string(m))
					}
				case 4, 5:
					carry(0, lost)
				default:
					carry(1, lost)
				}
				if len(got) > len(sent) || !slices.Equal(got, sent[:len(got)]) {
					t.Fatal(begin, seed, sent, got)
				}
				if d := c.State().Done; d > h.State().Entered {
					t.Fatal(begin, seed, d, h.State())
				}
			}
			for range 4000 {
				for len(way[0])+len(way[1]) > 0 {
					carry(0, false)
					carry(1, false)
				}
				way[0], way[1] = h.Tick(), c.Tick()
				if m, ok := h.Receive(); ok {
					got = append(got, string(m))
				}
			}
			if s := c.State(); s.Done != s.Accepted || !slices.Equal(got, sent) || len(sent) < 2 {
				t.Fatal(begin, seed, s, h.State(), sent, got)
			}
		}
	}
}

// mix does so many acts that are drawn, up to high asks among them for some ten answers.
func (w *twin) mix(next func(int) int, n, high int) {
	w.t.Helper()
	few := []string{"a", "b", ""}
	all := messages()
	for range n {
		switch x := next(26); {
		case x < 2+high:
			w.tick()
		case x < 14:
			w.data(w.label(), "a")
		case x < 17:
			w.data(w.label(), few[next(3)])
		case x == 17:
			w.data(1-w.label(), few[next(3)])
		case x == 18:
			w.data(w.label(), string(all[next(len(all))]))
		case x == 19:
			w.data(w.label(), long(1+next(2)))
		case x == 20:
			w.take(api.Probe{Kind: next(7) - 1, Label: next(4) - 1, Data: all[next(len(all))]})
		case x == 21:
			w.idle()
		case x < 24:
			w.receive()
		default:
			w.try()
		}
		w.holds()
	}
}

func TestManyActs(t *testing.T) { // P21.1 to P21.4
	for room := 1; room <= api.MaxRoom; room++ {
		for seed := range 12 {
			for i, begin := range begins {
				next := drawn(seed*1000 + room*50 + i)
				opened(t, room, begin).mix(next, 60, 1+(seed+i)%9)
			}
		}
	}
}

// Walks that go up and down in turn, so that none is open now and then, and many messages enter, with room and without.
func TestLongWalks(t *testing.T) { // P21.1 to P21.4
	entered := 0
	for room := 1; room <= api.MaxRoom; room++ {
		for begin := range uint64(5) {
			next := drawn(int(begin)*100 + room)
			w := opened(t, room, begin)
			for i := range 30 {
				w.mix(next, 50, []int{9, 4, 7, 2}[i%4])
			}
			entered += w.entered
		}
	}
	if entered < 1600 {
		t.Fatal(entered)
	}
}

// Each row of up to five acts, in small rooms, from begins about the ends.
func TestEachShortRow(t *testing.T) { // P21.1 to P21.4
	acts := []func(w *twin){
		func(w *twin) { w.ticks(2) },
		func(w *twin) { w.data(0, "a") },
		func(w *twin) { w.tell("a", 1) },
		func(w *twin) { w.tell("b", 1) },
		func(w *twin) { w.tell(long(1), 2) },
		(*twin).idle,
		(*twin).receive,
	}
	const deep = 5
	rows := 1
	for range deep {
		rows *= len(acts)
	}
	for room := 1; room <= 2; room++ {
		for _, begin := range []uint64{0, 1, most - 1} {
			for row := range rows {
				h, _ := hearer.New(room, begin)
				w := &twin{t: t, h: h, room: room, out: begin, marked: begin}
				for range deep {
					acts[row%len(acts)](w)
					row /= len(acts)
					if h.State() != w.state() {
						t.Fatal(row, h.State(), w.state())
					}
				}
				w.holds()
			}
		}
	}
}

// spare answers b with room behind it in which a guard stands, and a function that tells whether b and the guard are as they were.
func spare(b []byte) ([]byte, func() bool) {
	whole := slices.Concat([]byte{7}, b, noise(len(b), 100))
	was := bytes.Clone(whole)
	return whole[1 : 1+len(b)], func() bool { return bytes.Equal(whole, was) }
}

// What is handed in isn't changed, nor what stands behind it, whether it enters or not, and whatever comes later.
func TestWhatIsHandedInStays(t *testing.T) { // rule 3
	w := opened(t, 4, 1)
	for i, m := range append(messages(), []byte(long(1)), noise(2, 500)) {
		d, untouched := spare(m)
		for kind := -1; kind < 6; kind++ {
			for label := range 3 {
				w.ticks(2)
				p := api.Probe{Kind: kind, Label: label, Data: d}
				w.take(p)
				w.take(p)
				if p.Kind != kind || p.Label != label || len(p.Data) != len(m) {
					t.Fatal(p)
				}
				spoil(w.h.Take(api.Probe{Kind: api.PrTry, Data: d}))
				defaceAll(w.h.Kept())
			}
		}
		if i%2 == 0 {
			w.receive()
			w.drain()
		}
		w.holds()
		if !untouched() {
			t.Fatal(i, m)
		}
	}
	for _, h := range unmade() {
		b, untouched := spare([]byte("abc"))
		for kind := -1; kind < 6; kind++ {
			h.Take(api.Probe{Kind: kind, Data: b})
		}
		if !untouched() {
			t.Fatal(b)
		}
	}
}

// What was handed in may be changed: what was told is what it was by then, while it is counted, while it waits outside, and when it entered.
func TestWhatIsHandedInIsNotKept(t *testing.T) { // rule 3
	for _, m := range messages() {
		for _, begin := range []uint64{0, 2} {
			w := opened(t, 1, begin)
			w.drain()
			for range 4 {
				for range begin + 3 {
					mine, _ := spare(m)
					w.tick()
					w.take(api.Probe{Kind: api.PrData, Label: w.label(), Data: mine})
					overwrite(mine)
					w.holds()
				}
				w.receive()
				w.holds()
			}
			if w.entered < 4 {
				t.Fatal(w.entered)
			}
		}
	}
}

// One list of bytes, written over for each Take.
func TestOneBufferForAll(t *testing.T) { // rule 3
	for room := 1; room <= api.MaxRoom; room++ {
		w := opened(t, room, 2)
		w.drain()
		buffer := make([]byte, 5)
		for i := range 12 * room {
			for at := range buffer {
				buffer[at] = byte(i/4 + at)
			}
			w.tick()
			w.take(api.Probe{Kind: api.PrData, Label: w.label(), Data: buffer[:1+i/4%5]})
			clear(buffer)
			w.holds()
			if i%7 == 2 {
				w.receive()
				w.holds()
			}
		}
		if w.entered < 2 {
			t.Fatal(w.entered)
		}
	}
}

// Packets that were told may be written, cut and grown, and no later answer is another one; two of them share nothing.
func TestPacketsAreNewMemory(t *testing.T) { // rule 3
	w := opened(t, 4, 1)
	for i := range 12 {
		want := fmt.Sprintf(`4 %d ""`, 1-w.label())
		a, b := w.h.Take(api.Probe{Kind: api.PrTry}), w.h.Take(api.Probe{Kind: api.PrTry})
		x, y := w.h.Tick(), w.h.Tick()
		w.out += 2
		for range 3 {
			spoil(a)
			spoil(x)
			if told(b) != want || told(y) != `0 0 ""` {
				t.Fatal(told(b), told(y), want)
			}
			w.try()
			w.tick()
			w.holds()
			a, b = b, w.h.Take(api.Probe{Kind: api.PrTry})
			x, y = y, w.h.Tick()
			w.out++
		}
		w.drain()
		w.tell("a", 12)
		if told(b) != want || told(y) != `0 0 ""` {
			t.Fatal(i, told(b), told(y), want)
		}
		w.receive()
	}
}

// What Receive told may be written, cut and grown, and no later answer is another one.
func TestReceivedIsNewMemory(t *testing.T) { // rule 3
	for _, m := range messages() {
		w := opened(t, 3, 0)
		var got [][]byte
		for range 9 {
			w.tell(string(m), 1)
			w.tell(string(m), 1)
			if len(w.kept) < 2 {
				continue
			}
			b, ok := w.h.Receive()
			if string(b) != string(m) || !ok {
				t.Fatal(b, ok)
			}
			w.kept = w.kept[1:]
			w.returned++
			w.may()
			w.holds()
			got = append(got, b)
		}
		for i, b := range got {
			if string(b) != string(m) {
				t.Fatal(i, b)
			}
			deface(b)
			w.holds()
			w.receive()
		}
		if len(got) < 5 {
			t.Fatal(len(got))
		}
	}
}

// What is told while the same message is told again, kept and waits outside: none of them is another one by what is written into it.
func TestReceivedAndToldAgain(t *testing.T) { // rule 3
	for _, m := range messages() {
		w := opened(t, 1, 0)
		w.tell(string(m), 1)
		w.tell(string(m), 1) // it waits outside
		for range 6 {
			b, ok := w.h.Receive()
			if string(b) != string(m) || !ok {
				t.Fatal(b, ok)
			}
			w.kept = w.kept[1:]
			w.returned++
			w.may()
			deface(b)
			w.holds()
			w.tell(string(m), 1)
		}
	}
}

// What Kept told, and each of its texts, may be written, cut and grown, and no later answer is another one; no two of them share anything.
func TestKeptIsNewMemory(t *testing.T) { // rule 3
	for room := 1; room <= api.MaxRoom; room++ {
		for _, m := range []string{"", "a", "abcdefg", long(0)} {
			w := opened(t, room, 0)
			for range room + 1 {
				w.tell(m, 1)
				w.holds()
				a, b := w.h.Kept(), w.h.Kept()
				defaceAll(a)
				if got := texts(b); !slices.Equal(got, w.kept) {
					t.Fatal(got, w.kept)
				}
				w.holds()
				for i := range b { // each by itself
					deface(b[i])
					for j := range b[i+1:] {
						if string(b[i+1+j]) != m {
							t.Fatal(i, j, b)
						}
					}
				}
				w.holds()
			}
			last := w.h.Kept()
			for len(w.kept) > 0 {
				w.receive()
			}
			for _, x := range last {
				if string(x) != m {
					t.Fatal(x)
				}
			}
			defaceAll(last)
			w.tell(m, 1)
			w.holds()
		}
	}
}

// Of an empty queue what Kept told may be written, too.
func TestKeptOfNone(t *testing.T) { // rule 3
	w := opened(t, 2, 0)
	for range 3 {
		defaceAll(w.h.Kept())
		w.holds()
		w.tell("a", 1)
		w.receive()
	}
}

// What was told stays what it was, whatever comes later.
func TestAnswersStay(t *testing.T) { // rule 3
	next := drawn(9)
	w := opened(t, 5, 1)
	var packets [][]api.Probe
	var lists [][][]byte
	var were, kept []string
	for i := range 400 {
		x := w.h.Take(api.Probe{Kind: api.PrTry})
		packets, were = append(packets, x), append(were, told(x))
		l := w.h.Kept()
		lists, kept = append(lists, l), append(kept, fmt.Sprintf("%q", l))
		if i%3 == 0 {
			x := w.h.Tick()
			w.out += uint64(len(x))
			packets, were = append(packets, x), append(were, told(x))
		}
		w.mix(next, 5, 5)
	}
	for i, x := range packets {
		if told(x) != were[i] {
			t.Fatal(i, told(x), were[i])
		}
		spoil(x)
	}
	for i, l := range lists {
		if got := fmt.Sprintf("%q", l); got != kept[i] {
			t.Fatal(i, got, kept[i])
		}
		defaceAll(l)
	}
	w.mix(next, 50, 5)
	if w.entered < 20 {
		t.Fatal(w.entered)
	}
}

// What was returned may be told again, and be written then.
func TestReturnedIsToldAgain(t *testing.T) { // rule 3
	w := opened(t, 2, 0)
	w.tell("a", 1)
	w.tell("another", 1)
	for range 20 {
		m, ok := w.h.Receive()
		if !ok {
			t.Fatal("none")
		}
		w.kept = w.kept[1:]
		w.returned++
		w.tick()
		w.take(api.Probe{Kind: api.PrData, Label: w.label(), Data: m})
		overwrite(m)
		w.holds()
	}
}

// unmade are the hearers that New did not make.
func unmade() []*hearer.Hearer {
	return []*hearer.Hearer{nil, new(hearer.Hearer), {}}
}

// nothing fails the test if the hearer, which New did not make, is one.
func nothing(t *testing.T, h *hearer.Hearer) {
	t.Helper()
	if x := h.Tick(); len(x) != 0 {
		t.Fatal(x)
	}
	for _, kind := range slices.Concat(oddKinds, []int{0, 1, 2, 3, 4}) {
		for label := range 3 {
			if x := h.Take(api.Probe{Kind: kind, Label: label, Data: []byte("a")}); len(x) != 0 {
				t.Fatal(kind, label, x)
			}
		}
	}
	if m, ok := h.Receive(); len(m) != 0 || ok {
		t.Fatal(m, ok)
	}
	if s := h.State(); s != (hearer.State{Spent: true}) {
		t.Fatal(s)
	}
	if l := h.Kept(); len(l) != 0 {
		t.Fatal(l)
	}
}

// Each call as the first one, and each behind each other one.
func TestUnmade(t *testing.T) { // P21.1 to P21.3, rule 1
	calls := []func(h *hearer.Hearer) bool{
		func(h *hearer.Hearer) bool { return len(h.Tick()) == 0 },
		func(h *hearer.Hearer) bool { return len(h.Take(api.Probe{})) == 0 },
		func(h *hearer.Hearer) bool { return len(h.Take(api.Probe{Kind: api.PrTry})) == 0 },
		func(h *hearer.Hearer) bool { return len(h.Take(api.Probe{Kind: api.PrIdle})) == 0 },
		func(h *hearer.Hearer) bool {
			return len(h.Take(api.Probe{Kind: api.PrData, Data: []byte("a")})) == 0
		},
		func(h *hearer.Hearer) bool { return len(h.Take(api.Probe{Kind: -1, Label: -1})) == 0 },
		func(h *hearer.Hearer) bool { m, ok := h.Receive(); return len(m) == 0 && !ok },
		func(h *hearer.Hearer) bool { return h.State() == hearer.State{Spent: true} },
		func(h *hearer.Hearer) bool { return len(h.Kept()) == 0 },
	}
	for i := range unmade() {
		for first, f := range calls {
			for second, g := range calls {
				h := unmade()[i]
				for range 20 {
					if !f(h) || !g(h) {
						t.Fatal(i, first, second)
					}
				}
				nothing(t, h)
			}
		}
	}
}

// A hearer that is a part of something else, and that nobody made, is no other than one of its own.
func TestUnmadeInside(t *testing.T) { // P21.1 to P21.3, rule 1
	var s struct {
		before uint64
		h      hearer.Hearer
		after  uint64
	}
	var l [3]hearer.Hearer
	for range 40 {
		nothing(t, &s.h)
		for i := range l {
			nothing(t, &l[i])
		}
		if s.before != 0 || s.after != 0 {
			t.Fatal(s.before, s.after)
		}
	}
}

// A hearer has the chapter's calls, and none of its parts': nobody else's Push, Mark or Add comes at what it has.
func TestNoOtherCalls(t *testing.T) { // P21.1 to P21.4
	p := reflect.TypeFor[*hearer.Hearer]()
	var names []string
	for m := range p.Methods() {
		names = append(names, m.Name)
	}
	if want := []string{"Kept", "Receive", "State", "Take", "Tick"}; !slices.Equal(names, want) {
		t.Fatal(names)
	}
	for f := range p.Elem().Fields() {
		if f.IsExported() {
			t.Fatal(f.Name)
		}
	}
}

// Hearers have nothing to do with one another, nor with one that nobody made.
func TestTwoHearers(t *testing.T) { // rule 4
	next := drawn(7)
	x, y, z := opened(t, 3, 1), opened(t, 16, most-60), opened(t, 3, 1)
	for i := range 400 {
		x.mix(next, 1, 5)
		y.mix(next, 1, 9)
		if i%3 == 0 {
			z.mix(next, 1, 4)
		}
		for _, h := range unmade() {
			nothing(t, h)
		}
		opened(t, 3, 1).tell("a", 3)
		x.holds()
		y.holds()
		z.holds()
	}
}

// What one hearer told is handed to another one.
func TestFromOneToAnother(t *testing.T) { // rule 3
	x, y := opened(t, 16, 0), opened(t, 5, 0)
	for i := range 16 {
		x.tell(string(noise(i, 4*i)), 1)
	}
	for range 16 {
		l := x.h.Kept()
		y.tick()
		y.take(api.Probe{Kind: api.PrData, Label: y.label(), Data: l[0]})
		defaceAll(l)
		x.receive()
		if len(y.kept) == 5 {
			y.receive()
		}
		x.holds()
		y.holds()
	}
}

// The same calls have the same answers.
func TestTheSameAgain(t *testing.T) { // rule 4
	run := func(begin uint64) string {
		h, _ := hearer.New(5, begin)
		next := drawn(3)
		said := ""
		for range 300 {
			switch next(5) {
			case 0:
				m, ok := h.Receive()
				said += fmt.Sprintf("%q %v", m, ok)
			case 1, 2:
				said += told(h.Tick())
			default:
				said += told(h.Take(api.Probe{Kind: next(6), Label: next(3), Data: noise(next(3), next(2)*next(70))}))
			}
			said += fmt.Sprint(h.State())
			said += fmt.Sprintf("%q", h.Kept())
		}
		return said
	}
	for _, begin := range begins {
		if run(begin) != run(begin) {
			t.Fatal("other answers")
		}
	}
}

// Of many that are equally often the one that was told first enters, in each run: not the order of a map.
func TestBestOfManyAgain(t *testing.T) { // P21.2, rule 4
	for seed := range 200 {
		w := opened(t, 1, 0)
		w.fill()
		for i := range 40 {
			w.tell(fmt.Sprint(seed, i), 1)
		}
		w.receive()
		w.is(2, 1, 0, 0)
		if w.kept[0] != fmt.Sprint(seed, 0) {
			t.Fatal(w.kept)
		}
	}
}

// inUse is how many bytes are kept.
func inUse() int {
	var m runtime.MemStats
	runtime.GC()
	runtime.GC()
	runtime.ReadMemStats(&m)
	return int(m.HeapAlloc)
}

// What was returned is kept no longer, however many there were; of what is told nothing is when a message entered, and of other packets nothing ever.
func TestWhatIsKept(t *testing.T) { // P21.1 to P21.3
	const many = 200
	var l [many]*hearer.Hearer
	for i := range l {
		l[i], _ = hearer.New(api.MaxRoom, 1)
	}
	before := inUse()
	for _, h := range l {
		for n := range 200 {
			big := make([]byte, 10000)
			big[0] = byte(n)
			h.Tick()
			h.Take(api.Probe{Kind: n % 3, Data: big})
			h.Take(api.Probe{Kind: api.PrAck, Data: big})
			h.Tick()
			h.Take(api.Probe{Kind: api.PrData, Label: 1 - h.State().Entered%2, Data: big})
			h.Tick()
			h.Take(api.Probe{Kind: api.PrData, Label: h.State().Entered % 2, Data: big})
			for n := h.State().Entered; h.State().Entered == n; {
				h.Tick()
				h.Take(api.Probe{Kind: api.PrData, Label: n % 2, Data: make([]byte, api.MaxData)})
			}
			h.Receive()
		}
	}
	if left := inUse() - before; left > many*2000 {
		t.Fatal(left)
	}
	for _, h := range l {
		if s := h.State(); s.Entered != 200 || s.Returned != 200 {
			t.Fatal(s)
		}
	}
}

// Of what is told under a label that is not waited for, and of what nobody had asked for, nothing is kept, though no message enters.
func TestWhatIsNotCountedIsNotKept(t *testing.T) { // P21.2
	const many = 50
	var l [many]*hearer.Hearer
	for i := range l {
		l[i], _ = hearer.New(1, 2)
	}
	before := inUse()
	for _, h := range l {
		for i, label := range allLabels {
			big := make([]byte, 10000)
			big[0] = byte(i)
			if label != 0 {
				h.Tick()
				h.Take(api.Probe{Kind: api.PrData, Label: label, Data: big})
			}
		}
		h.Take(api.Probe{Kind: api.PrIdle})
		h.Take(api.Probe{Kind: api.PrIdle})
		for i := range 20 {
			big := make([]byte, 10000)
			big[0] = byte(i)
			h.Take(api.Probe{Kind: api.PrData, Data: big})
		}
	}
	if left := inUse() - before; left > many*5000 {
		t.Fatal(left)
	}
	for _, h := range l {
		if s := h.State(); s != (hearer.State{Marked: 2}) {
			t.Fatal(s)
		}
	}
}
