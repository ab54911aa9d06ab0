package queue_test

import (
	"bytes"
	"fmt"
	"kedge/api"
	"kedge/queue"
	"math"
	"runtime"
	"slices"
	"testing"
)

// badRooms are rooms that may not be; among them such as may if they are cut short or have no sign.
var badRooms = []int{
	0, api.MaxRoom + 1, api.MaxRoom + 2, 31, 32, 127, 128, 255, 256, 257, 272, 273, 65535, 65536, 65537, 65552,
	1<<31 - 1, 1 << 31, 1<<31 + 1, 1<<32 - 1, 1 << 32, 1<<32 + 1, 1<<32 + 16, 1<<33 + 1, 1<<62 + 1, math.MaxInt - 1, math.MaxInt,
	-1, -2, -15, -16, -17, -127, -128, -255, -256, -65535, -65536, 1 - 1<<31, -1 << 31, 1 - 1<<32, -1 << 32, 16 - 1<<32, math.MinInt + 1, math.MinInt + 16, math.MinInt,
}

// farPlaces are places at which no queue has a message.
var farPlaces = []int{
	-1, -2, -15, -16, -17, -32, -255, -256, -65536, 1 - 1<<31, -1 << 31, 1 - 1<<32, -1 << 32, -1<<32 - 1, math.MinInt + 1, math.MinInt + 16, math.MinInt,
	api.MaxRoom, api.MaxRoom + 1, 31, 32, 33, 255, 256, 257, 65535, 65536, 65537, 1<<31 - 1, 1 << 31, 1<<31 + 1, 1<<32 - 1, 1 << 32, 1<<32 + 1, 1 << 62, math.MaxInt - 16, math.MaxInt - 1, math.MaxInt,
}

// messages are each another one: none, few bytes, zeros at either end, such as mean something to other layers, and all lengths up to the longest.
func messages() [][]byte {
	l := [][]byte{
		nil, {0}, {0, 0}, {0, 'a'}, []byte("a"), []byte("a\x00"), []byte("b"), []byte("ab"), []byte("ba"), []byte("A"),
		{0x7e}, {0x7d}, {0x7d, 0x5e}, {0x80}, {0xff}, {0xff, 0xff}, {0xc0, 0x80}, {0xef, 0xbf, 0xbd}, {'\n'},
	}
	for n := 3; n <= api.MaxData; n++ {
		l = append(l, noise(n, n), make([]byte, n))
	}
	return l
}

// tooLong are lists of bytes that are no message.
func tooLong() [][]byte {
	var l [][]byte
	for _, n := range []int{api.MaxData + 1, api.MaxData + 2, 95, 96, 97, 127, 128, 255, 256, 257, 320, 511, 512, 513, 65536, 65537} {
		l = append(l, noise(n, n), make([]byte, n))
	}
	return l
}

// twin is a queue, and beside it a list of what should be in it, kept as the chapter says.
type twin struct {
	t    *testing.T
	q    *queue.Queue
	room int
	list []string
}

// opened is an empty queue for so many.
func opened(t *testing.T, room int) *twin {
	t.Helper()
	q, e := queue.New(room)
	if q == nil || e != api.OK {
		t.Fatalf("New(%d) = %v, %v", room, q, e)
	}
	w := &twin{t: t, q: q, room: room}
	w.holds()
	return w
}

// error is what Push should answer of these bytes.
func (w *twin) error(m []byte) api.Errno {
	switch {
	case len(m) > api.MaxData:
		return api.ErrLong
	case len(w.list) == w.room:
		return api.ErrFull
	}
	return api.OK
}

// push pushes, and the list, too.
func (w *twin) push(m []byte) {
	w.t.Helper()
	want := w.error(m)
	if want == api.OK {
		w.list = append(w.list, string(m))
	}
	if e := w.q.Push(m); e != want {
		w.t.Fatalf("Push(%s) = %d, not %d", short(m), e, want)
	}
}

// texts pushes texts, one behind the other.
func (w *twin) texts(l ...string) {
	w.t.Helper()
	for _, s := range l {
		w.push([]byte(s))
	}
}

// told fails the test if that isn't what should be told of the i'th message.
func (w *twin) told(what string, i int, m []byte, ok bool) {
	w.t.Helper()
	want, there := "", i >= 0 && i < len(w.list)
	if there {
		want = w.list[i]
	}
	if ok != there || string(m) != want {
		w.t.Fatalf("%s of %d = %s, %v, not %s, %v", what, i, short(m), ok, short([]byte(want)), there)
	}
}

// pop pops, and the list, too.
func (w *twin) pop() []byte {
	w.t.Helper()
	m, ok := w.q.Pop()
	w.told("Pop", 0, m, ok)
	w.list = w.list[min(1, len(w.list)):]
	return m
}

// at fails the test if At doesn't tell what the list does.
func (w *twin) at(i int) {
	w.t.Helper()
	m, ok := w.q.At(i)
	w.told("At", i, m, ok)
}

// are fails the test if that isn't what All should tell.
func (w *twin) are(l [][]byte) {
	w.t.Helper()
	if !slices.Equal(texts(l), w.list) {
		w.t.Fatalf("All() = %q, not %q", l, w.list)
	}
}

// holds fails the test if the queue isn't, as a whole, what the list is.
func (w *twin) holds() {
	w.t.Helper()
	if n, free := w.q.Len(), w.q.Free(); n != len(w.list) || free != w.room-len(w.list) || n+free != w.room {
		w.t.Fatalf("Len() = %d, Free() = %d, not %d, %d", n, free, len(w.list), w.room-len(w.list))
	}
	m, ok := w.q.Front()
	w.told("Front", 0, m, ok)
	for i := -2; i <= api.MaxRoom+2; i++ {
		w.at(i)
	}
	w.are(w.q.All())
}

// texts are the messages of a list.
func texts(l [][]byte) []string {
	s := make([]string, len(l))
	for i, m := range l {
		s[i] = string(m)
	}
	return s
}

// short is a text for a failing test's words.
func short(b []byte) string {
	if len(b) > 20 {
		return fmt.Sprintf("%x.. (%d bytes)", b[:20], len(b))
	}
	return fmt.Sprintf("%q", b)
}

// drawn answers a function that tells numbers that look like noise, below n, the same ones in each run.
func drawn(begin int) func(n int) int {
	x := uint64(begin)
	return func(n int) int {
		x = x*6364136223846793005 + 1442695040888963407
		return int(x>>33) % n
	}
}

// noise is n bytes that look like noise.
func noise(begin, n int) []byte {
	next := drawn(begin)
	b := make([]byte, n)
	for i := range b {
		b[i] = byte(next(256))
	}
	return b
}

// spare answers b with room behind it in which a guard stands, and a function that tells whether b and the guard are as they were.
func spare(b []byte) ([]byte, func() bool) {
	whole := slices.Concat([]byte{7}, b, noise(len(b), 100))
	was := bytes.Clone(whole)
	return whole[1 : 1+len(b)], func() bool { return bytes.Equal(whole, was) }
}

// overwrite puts other bytes in all of b's memory, up to its capacity.
func overwrite(b []byte) {
	b = b[:cap(b)]
	for i := range b {
		b[i] = ^b[i]
	}
}

// spoil writes, cuts and grows what was told.
func spoil(b []byte) {
	overwrite(b)
	_ = append(b[:len(b)/2], 4)
	_ = append(b, 1, 2, 3)
}

// each does f for each room, and each place of a ring at which the first message may stand: behind so many that were pushed and popped.
func each(t *testing.T, f func(w *twin)) {
	t.Helper()
	for room := 1; room <= api.MaxRoom; room++ {
		for turned := range api.MaxRoom + 2 {
			w := opened(t, room)
			for i := range turned {
				w.texts(fmt.Sprint("gone ", i))
				w.pop()
			}
			f(w)
		}
	}
}

// fill pushes until there is no room, each time another message.
func (w *twin) fill() {
	w.t.Helper()
	for i := len(w.list); i < w.room; i++ {
		w.push(noise(i, 1+i*3))
	}
}

func TestExample(t *testing.T) { // P19.1, P19.2
	q, e := queue.New(1)
	if e != api.OK {
		t.Fatal(e)
	}
	if e := q.Push([]byte("a")); e != api.OK {
		t.Fatal(e)
	}
	if e := q.Push([]byte("b")); e != api.ErrFull {
		t.Fatal(e)
	}
	if m, ok := q.Pop(); !ok || string(m) != "a" {
		t.Fatal(string(m), ok)
	}
	if m, ok := q.Pop(); ok || len(m) != 0 {
		t.Fatal(string(m), ok)
	}
}

func TestWrittenOut(t *testing.T) { // P19.1, P19.2
	q, e := queue.New(3)
	if e != api.OK || q.Len() != 0 || q.Free() != 3 || len(q.All()) != 0 {
		t.Fatal(e, q.Len(), q.Free(), q.All())
	}
	for i, c := range []struct {
		push, pop string // one of them: "-" is an act that isn't done
		e         api.Errno
		all       []string
	}{
		{"a", "-", api.OK, []string{"a"}},
		{"", "-", api.OK, []string{"a", ""}},
		{"a", "-", api.OK, []string{"a", "", "a"}},
		{"b", "-", api.ErrFull, []string{"a", "", "a"}},
		{"-", "a", 0, []string{"", "a"}},
		{"b", "-", api.OK, []string{"", "a", "b"}},
		{"-", "", 0, []string{"a", "b"}},
		{"-", "a", 0, []string{"b"}},
		{"cc", "-", api.OK, []string{"b", "cc"}},
		{"-", "b", 0, []string{"cc"}},
		{"-", "cc", 0, []string{}},
		{"d", "-", api.OK, []string{"d"}},
	} {
		if c.push != "-" {
			if e := q.Push([]byte(c.push)); e != c.e {
				t.Fatal(i, e)
			}
		} else if m, ok := q.Pop(); !ok || string(m) != c.pop {
			t.Fatal(i, string(m), ok)
		}
		if got := texts(q.All()); !slices.Equal(got, c.all) || q.Len() != len(c.all) || q.Free() != 3-len(c.all) {
			t.Fatal(i, got, q.Len(), q.Free())
		}
		for at, want := range c.all {
			if m, ok := q.At(at); !ok || string(m) != want {
				t.Fatal(i, at, string(m), ok)
			}
		}
	}
}

// Each room that may be is one for just so many.
func TestNew(t *testing.T) { // P19.1, P19.2
	for room := 1; room <= api.MaxRoom; room++ {
		w := opened(t, room)
		for i := range room {
			if n := w.q.Free(); n != room-i {
				t.Fatal(room, i, n)
			}
			if e := w.q.Push([]byte{byte(i)}); e != api.OK {
				t.Fatal(room, i, e)
			}
		}
		if e := w.q.Push([]byte{99}); e != api.ErrFull || w.q.Len() != room || w.q.Free() != 0 {
			t.Fatal(room, e, w.q.Len(), w.q.Free())
		}
	}
}

// With an error New answers no queue that could be used as one.
func TestNewOfNoSuchRoom(t *testing.T) { // P19.1, rule 2
	for _, room := range badRooms {
		q, e := queue.New(room)
		if e != api.ErrArg || q != nil {
			t.Fatalf("New(%d) = %v, %d", room, q, e)
		}
		nothing(t, q)
	}
}

// Each byte, alone and ahead of and behind others.
func TestEachByte(t *testing.T) { // P19.1, P19.2
	w := opened(t, 3)
	for i := range 256 {
		w.push([]byte{byte(i)})
		w.push([]byte{'x', byte(i)})
		w.push([]byte{byte(i), 'x'})
		w.holds()
		if m := w.pop(); len(m) != 1 || m[0] != byte(i) {
			t.Fatal(i, m)
		}
		w.pop()
		w.pop()
	}
}

// Each message alone, as the first one and as the last one.
func TestEachMessage(t *testing.T) { // P19.1, P19.2
	for _, m := range messages() {
		w := opened(t, 3)
		w.push(m)
		w.holds()
		w.texts("b")
		w.push(m)
		w.holds()
		w.push(m)
		for range 4 {
			w.pop()
			w.holds()
		}
	}
}

// nil and an empty list are one message, which is there and has no bytes.
func TestNoByte(t *testing.T) { // P19.1, P19.2
	empty := [][]byte{nil, {}, make([]byte, 0, 9), []byte("abc")[:0], []byte("abc")[3:]}
	for _, m := range empty {
		q, _ := queue.New(2)
		if e := q.Push(m); e != api.OK || q.Len() != 1 || q.Free() != 1 {
			t.Fatal(e, q.Len(), q.Free())
		}
		if b, ok := q.Front(); !ok || len(b) != 0 {
			t.Fatal(b, ok)
		}
		if b, ok := q.At(0); !ok || len(b) != 0 {
			t.Fatal(b, ok)
		}
		if l := q.All(); len(l) != 1 || len(l[0]) != 0 {
			t.Fatal(l)
		}
		if e := q.Push([]byte("a")); e != api.OK {
			t.Fatal(e)
		}
		if e := q.Push(m); e != api.ErrFull {
			t.Fatal(e)
		}
		if b, ok := q.Pop(); !ok || len(b) != 0 {
			t.Fatal(b, ok)
		}
		if b, ok := q.Pop(); !ok || string(b) != "a" {
			t.Fatal(b, ok)
		}
		if b, ok := q.Pop(); ok || len(b) != 0 {
			t.Fatal(b, ok)
		}
	}
}

// A queue of messages without bytes alone has as many as were pushed.
func TestManyOfNoByte(t *testing.T) { // P19.1 to P19.3
	each(t, func(w *twin) {
		for range w.room + 1 {
			w.push(nil)
			w.holds()
		}
		for range w.room + 1 {
			w.pop()
			w.holds()
		}
	})
}

// A message has at most MaxData bytes; a list that has more is none, however much room there is, and is told to be too long ahead of all but ErrNil.
func TestHowLong(t *testing.T) { // P19.1, rule 2
	for _, c := range []struct {
		n int
		e api.Errno
	}{{0, api.OK}, {1, api.OK}, {api.MaxData - 1, api.OK}, {api.MaxData, api.OK}, {api.MaxData + 1, api.ErrLong}, {2 * api.MaxData, api.ErrLong}, {256, api.ErrLong}, {257, api.ErrLong}, {1 << 20, api.ErrLong}} {
		q, _ := queue.New(1)
		m := noise(c.n, c.n)
		if e := q.Push(m); e != c.e {
			t.Fatal(c.n, e)
		}
		b, ok := q.Pop()
		if ok != (c.e == api.OK) || ok && !bytes.Equal(b, m) || !ok && len(b) != 0 {
			t.Fatal(c.n, b, ok)
		}
	}
}

// A list's bytes count, not the room behind them.
func TestRoomBehindIsNoByte(t *testing.T) { // P19.1
	w := opened(t, 2)
	w.push(make([]byte, 3, 1000))
	w.push(noise(1, 1000)[:api.MaxData])
	w.holds()
	w.push(make([]byte, 0, 1000))
	w.push(noise(1, 1000)[900:])
	w.holds()
}

// Of several errors the one is told that the chapter names first; a Push that is refused changes nothing.
func TestWhichError(t *testing.T) { // P19.1, rule 2
	long := tooLong()
	each(t, func(w *twin) {
		for n := range w.room + 1 {
			for _, m := range long {
				if e := w.q.Push(m); e != api.ErrLong {
					t.Fatal(w.room, n, len(m), e)
				}
			}
			w.holds()
			if n < w.room {
				w.push(noise(n, n))
			}
		}
		for _, m := range [][]byte{nil, {}, []byte("a"), make([]byte, api.MaxData)} {
			if e := w.q.Push(m); e != api.ErrFull {
				t.Fatal(w.room, len(m), e)
			}
			w.holds()
		}
		for range w.room {
			w.pop()
			w.holds()
		}
	})
	for _, q := range unmade() {
		for _, m := range slices.Concat(messages(), long) {
			if e := q.Push(m); e != api.ErrNil {
				t.Fatal(len(m), e)
			}
		}
	}
}

// Behind many that were refused all goes on as if there had been none.
func TestRefusedManyTimes(t *testing.T) { // P19.1, P19.3, rule 2
	for room := 1; room <= api.MaxRoom; room++ {
		w := opened(t, room)
		long := make([]byte, api.MaxData+1)
		for i := range 4 * room {
			for range 40 {
				w.push(long)
			}
			w.fill()
			for range 40 {
				w.texts("x")
				w.push(long)
			}
			w.holds()
			for range 1 + i%room {
				w.pop()
			}
			w.holds()
		}
	}
}

// Of an empty queue nothing is told, however often, and nothing changes by that.
func TestEmpty(t *testing.T) { // P19.1, P19.2, rule 2
	each(t, func(w *twin) {
		for range 2*api.MaxRoom + 3 {
			if m, ok := w.q.Pop(); ok || len(m) != 0 {
				t.Fatal(m, ok)
			}
			if m, ok := w.q.Front(); ok || len(m) != 0 {
				t.Fatal(m, ok)
			}
		}
		w.holds()
		for _, i := range farPlaces {
			w.at(i)
		}
		w.fill()
		w.holds()
		for range w.room {
			w.pop()
		}
		w.pop()
		w.holds()
	})
}

// At tells each message, and none ahead of the first one or behind the last one, wherever the ring has others that are gone.
func TestAt(t *testing.T) { // P19.1
	each(t, func(w *twin) {
		for n := range w.room + 1 {
			for _, i := range slices.Concat(farPlaces, []int{n - 1, n, n + 1, w.room - 1, w.room, w.room + 1, n - w.room, n - api.MaxRoom}) {
				w.at(i)
			}
			if m, ok := w.q.At(n); ok || len(m) != 0 {
				t.Fatal(n, m, ok)
			}
			w.fill()
			for len(w.list) > n+1 {
				w.pop()
			}
		}
		for len(w.list) > 0 {
			w.pop()
			for i := -1; i <= w.room; i++ {
				w.at(i)
			}
		}
	})
}

// Who asks changes nothing.
func TestAskingChangesNothing(t *testing.T) { // P19.1, P19.2
	each(t, func(w *twin) {
		for range 2 {
			for range 3 {
				w.holds()
			}
			w.fill()
		}
		first := w.list[0]
		for range 40 {
			if m, ok := w.q.Front(); !ok || string(m) != first {
				t.Fatal(short(m), ok)
			}
			if m, ok := w.q.At(len(w.list) - 1); !ok || string(m) != w.list[len(w.list)-1] {
				t.Fatal(short(m), ok)
			}
			for _, i := range farPlaces {
				w.at(i)
			}
		}
		w.holds()
		for range w.room {
			w.pop()
		}
		w.holds()
	})
}

// Filled, emptied and filled again, from every place, in every room.
func TestFilledAndEmptied(t *testing.T) { // P19.1 to P19.3
	each(t, func(w *twin) {
		for round := range 3 {
			for i := range w.room {
				w.push(noise(round*100+i, i+round))
				w.holds()
			}
			w.texts("none goes in")
			w.holds()
			for range w.room {
				w.pop()
				w.holds()
			}
			w.pop()
			w.holds()
		}
	})
}

// Gone around many times over, with any number of messages in it.
func TestManyTimesAround(t *testing.T) { // P19.1 to P19.3
	for room := 1; room <= api.MaxRoom; room++ {
		for n := range room {
			w := opened(t, room)
			for i := range n {
				w.push([]byte{byte(i), 1})
			}
			for i := range 5*api.MaxRoom + 3 {
				w.push(noise(i, i%9))
				w.holds()
				w.pop()
				w.holds()
			}
		}
	}
}

// Gone around so often that a number of 8 or 16 bits would end.
func TestVeryOften(t *testing.T) { // P19.3
	for _, room := range []int{1, 2, 3, 7, 15, 16} {
		q, _ := queue.New(room)
		pushed, popped := uint32(0), uint32(0)
		for popped < 200000 {
			for {
				b := []byte{byte(pushed >> 24), byte(pushed >> 16), byte(pushed >> 8), byte(pushed)}
				if q.Push(b) != api.OK {
					break
				}
				pushed++
			}
			for range 1 + int(popped)%room {
				m, ok := q.Pop()
				if !ok || len(m) != 4 || uint32(m[0])<<24|uint32(m[1])<<16|uint32(m[2])<<8|uint32(m[3]) != popped {
					t.Fatal(room, popped, m, ok)
				}
				popped++
			}
			if q.Len() != int(pushed-popped) || q.Free() != room-q.Len() {
				t.Fatal(room, popped, q.Len(), q.Free())
			}
		}
	}
}

// Pushes and Pops as they are drawn, in every room: more of the ones or of the others by turns, so that it is full and empty often.
func TestManyActs(t *testing.T) { // P19.1 to P19.3
	all, long := messages(), tooLong()
	for room := 1; room <= api.MaxRoom; room++ {
		for seed := range 40 {
			next := drawn(seed*20 + room)
			w := opened(t, room)
			for i := range 150 {
				switch x := next(20); {
				case x == 0:
					w.push(long[next(len(long))])
				case x < 7+6*(i/30%2):
					w.push(all[next(len(all))])
				default:
					w.pop()
				}
				w.holds()
			}
		}
	}
}

// In small rooms, each short row of acts.
func TestEachShortRow(t *testing.T) { // P19.1 to P19.3
	const deep = 7
	rows := 1
	for range deep {
		rows *= 4
	}
	for room := 1; room <= 3; room++ {
		for row := range rows {
			q, _ := queue.New(room)
			w := &twin{t: t, q: q, room: room}
			for range deep {
				switch row % 4 {
				case 0:
					w.texts("a")
				case 1:
					w.texts("bc")
				case 2:
					w.push(make([]byte, api.MaxData+1))
				case 3:
					w.pop()
				}
				row /= 4
				w.brief()
			}
		}
	}
}

// brief fails the test if the queue isn't what the list is, asked for no more than a few things.
func (w *twin) brief() {
	w.t.Helper()
	if w.q.Len() != len(w.list) || w.q.Free() != w.room-len(w.list) {
		w.t.Fatal(w.q.Len(), w.q.Free(), w.list)
	}
	w.at(0)
	w.at(len(w.list))
	w.are(w.q.All())
}

// What is popped is a beginning of what was pushed, and with what is there it is all of it: by the answers alone.
func TestPoppedIsWhatWasPushed(t *testing.T) { // P19.3
	all := messages()
	for room := 1; room <= api.MaxRoom; room++ {
		for seed := range 20 {
			next := drawn(seed*100 + room)
			q, _ := queue.New(room)
			var in, out []string
			for range 300 {
				if m := all[next(len(all))]; next(2) == 0 {
					if q.Push(m) == api.OK {
						in = append(in, string(m))
					}
				} else if m, ok := q.Pop(); ok {
					out = append(out, string(m))
				}
				if q.Len() != len(in)-len(out) || !slices.Equal(slices.Concat(out, texts(q.All())), in) {
					t.Fatal(room, seed, len(in), len(out))
				}
			}
			if len(out) < 50 {
				t.Fatal(len(out))
			}
		}
	}
}

// There are never more than there is room for, and none is refused as long as there is.
func TestNeverMoreThanRoom(t *testing.T) { // P19.3
	for room := 1; room <= api.MaxRoom; room++ {
		for seed := range 20 {
			next := drawn(seed*100 + room)
			q, _ := queue.New(room)
			full := 0
			for range 300 {
				was := q.Len()
				if next(5) < 2 {
					q.Pop()
					continue
				}
				e := q.Push([]byte("a"))
				if was == room && e != api.ErrFull || was < room && e != api.OK {
					t.Fatal(room, was, e)
				}
				if was == room {
					full++
				}
				if n := q.Len(); n > room || n != len(q.All()) || n+q.Free() != room {
					t.Fatal(room, n, q.Free())
				}
			}
			if full == 0 {
				t.Fatal("never full", room)
			}
		}
	}
}

// What is handed in isn't changed, nor what stands behind it, whether it is taken or not.
func TestWhatIsHandedInStays(t *testing.T) { // P19.2, rule 3
	w := opened(t, 4)
	for i, m := range slices.Concat(messages(), tooLong()) {
		b, untouched := spare(m)
		w.push(b)
		w.holds()
		if i%3 == 0 {
			w.pop()
			w.pop()
		}
		for _, x := range w.q.All() {
			spoil(x)
		}
		spoil(w.pop())
		w.holds()
		if !untouched() {
			t.Fatal(short(m))
		}
	}
	for _, q := range unmade() {
		b, untouched := spare([]byte("abc"))
		q.Push(b)
		if !untouched() {
			t.Fatal(b)
		}
	}
}

// What is handed in may be changed: what was pushed is what it was by then.
func TestWhatIsHandedInIsNotKept(t *testing.T) { // P19.2, rule 3
	for _, m := range messages() {
		w := opened(t, 3)
		for range 4 { // the last one is refused
			mine, _ := spare(m)
			w.push(mine)
			overwrite(mine)
			w.holds()
		}
		for range 3 {
			w.pop()
			w.holds()
		}
	}
}

// One list of bytes, written over for each Push.
func TestOneBufferForAll(t *testing.T) { // P19.2, rule 3
	each(t, func(w *twin) {
		buffer := make([]byte, 5)
		for i := range 3 * w.room {
			for at := range buffer {
				buffer[at] = byte(i + at)
			}
			w.push(buffer[:1+i%5])
			clear(buffer)
			w.holds()
			if i%3 == 2 {
				w.pop()
			}
		}
	})
}

// What Pop told may be pushed again, and be written then.
func TestPoppedIsPushedAgain(t *testing.T) { // P19.2, P19.3, rule 3
	each(t, func(w *twin) {
		w.fill()
		for range 2*w.room + 1 {
			m := w.pop()
			w.push(m)
			spoil(m)
			w.holds()
		}
	})
}

// What Pop, Front and At tell may be written, cut and grown.
func TestOneToldIsNewMemory(t *testing.T) { // P19.2, rule 3
	for _, m := range messages() {
		w := opened(t, 4)
		w.texts("first", "second")
		w.push(m)
		w.push(m)
		all := w.q.All()
		for i := range 4 {
			a, _ := w.q.At(i)
			b, _ := w.q.At(i)
			front, _ := w.q.Front()
			spoil(a)
			w.told("what At told", i, b, true)
			w.told("what Front told", 0, front, true)
			w.holds()
			spoil(front)
			w.told("what At told", i, b, true)
			w.holds()
		}
		w.are(all)
		for range 4 {
			front, _ := w.q.Front()
			at, _ := w.q.At(0)
			was := w.list[0]
			spoil(w.pop())
			w.holds()
			if string(front) != was || string(at) != was {
				t.Fatal(short(front), short(at))
			}
		}
	}
}

// What All tells may be written, cut and grown: the list, and the bytes in it.
func TestAllToldIsNewMemory(t *testing.T) { // P19.2, rule 3
	each(t, func(w *twin) {
		w.fill()
		a, b := w.q.All(), w.q.All()
		front, _ := w.q.Front()
		last, _ := w.q.At(w.room - 1)
		for i := range a {
			overwrite(a[i])
			for j := i + 1; j < len(a); j++ {
				if string(a[j]) != w.list[j] {
					t.Fatal(i, j)
				}
			}
			a[i] = append(a[i][:len(a[i])/2], 4, 5, 6)
			w.are(b)
		}
		w.holds()
		a = append(a[:len(a)/2], []byte("grown"))
		a = append(a, make([][]byte, cap(a))...)
		clear(a[:cap(a)])
		w.are(b)
		w.told("what Front told", 0, front, true)
		w.told("what At told", w.room-1, last, true)
		w.holds()
		w.texts("refused")
		w.pop()
		w.texts("new")
		w.holds()
	})
}

// Of one answer of All no two messages share memory, though they are the same.
func TestAllShareNothing(t *testing.T) { // P19.2, rule 3
	w := opened(t, api.MaxRoom)
	same := []byte("the same")
	for range api.MaxRoom {
		w.push(same)
	}
	a := w.q.All()
	for i := range a {
		overwrite(a[i])
		for j := range a {
			if (j <= i) == (string(a[j]) == "the same") {
				t.Fatal(i, j, string(a[j]))
			}
		}
	}
	if string(same) != "the same" {
		t.Fatal(string(same))
	}
	w.holds()
}

// What was told stays what it was, whatever is pushed and popped later.
func TestAnswersStay(t *testing.T) { // P19.2, rule 3
	each(t, func(w *twin) {
		w.fill()
		was := slices.Clone(w.list)
		all := w.q.All()
		front, _ := w.q.Front()
		last, _ := w.q.At(w.room - 1)
		var popped [][]byte
		for range w.room {
			popped = append(popped, w.pop())
		}
		for i := range 3 * w.room {
			w.push(bytes.Repeat([]byte{byte(i)}, api.MaxData))
			if i >= w.room {
				w.pop()
			}
		}
		for range w.room {
			w.pop()
		}
		if !slices.Equal(texts(all), was) || !slices.Equal(texts(popped), was) || string(front) != was[0] || string(last) != was[w.room-1] {
			t.Fatal(texts(all), texts(popped))
		}
		for _, m := range popped {
			spoil(m)
		}
		w.holds()
		if !slices.Equal(texts(all), was) {
			t.Fatal(texts(all))
		}
	})
}

// unmade are the queues that New did not make.
func unmade() []*queue.Queue {
	return []*queue.Queue{nil, new(queue.Queue), {}}
}

// nothing fails the test if the queue, which New did not make, is one.
func nothing(t *testing.T, q *queue.Queue) {
	t.Helper()
	if q.Len() != 0 || q.Free() != 0 || len(q.All()) != 0 {
		t.Fatal(q.Len(), q.Free(), q.All())
	}
	if m, ok := q.Front(); ok || len(m) != 0 {
		t.Fatal(m, ok)
	}
	for _, i := range slices.Concat(farPlaces, []int{0, 1, 15}) {
		if m, ok := q.At(i); ok || len(m) != 0 {
			t.Fatal(i, m, ok)
		}
	}
	if m, ok := q.Pop(); ok || len(m) != 0 {
		t.Fatal(m, ok)
	}
	for _, m := range [][]byte{nil, []byte("a"), make([]byte, api.MaxData), make([]byte, api.MaxData+1)} {
		if e := q.Push(m); e != api.ErrNil {
			t.Fatal(len(m), e)
		}
	}
}

// Each call as the first one, and each behind each other one.
func TestUnmade(t *testing.T) { // P19.1, P19.2, rules 1 and 2
	none := func(m []byte, ok bool) bool { return len(m) == 0 && !ok }
	calls := []func(q *queue.Queue) bool{
		func(q *queue.Queue) bool { return q.Push([]byte("a")) == api.ErrNil },
		func(q *queue.Queue) bool { return q.Push(nil) == api.ErrNil },
		func(q *queue.Queue) bool { return q.Push(make([]byte, 1000)) == api.ErrNil },
		func(q *queue.Queue) bool { return none(q.Pop()) },
		func(q *queue.Queue) bool { return none(q.Front()) },
		func(q *queue.Queue) bool { return none(q.At(0)) },
		func(q *queue.Queue) bool { return none(q.At(math.MinInt)) && none(q.At(math.MaxInt)) && none(q.At(-1)) },
		func(q *queue.Queue) bool { return q.Len() == 0 },
		func(q *queue.Queue) bool { return q.Free() == 0 },
		func(q *queue.Queue) bool { return len(q.All()) == 0 },
	}
	for i := range unmade() {
		for first, f := range calls {
			for second, g := range calls {
				q := unmade()[i]
				for range 20 {
					if !f(q) || !g(q) {
						t.Fatal(i, first, second)
					}
				}
				nothing(t, q)
			}
		}
	}
}

// A queue that is a part of something else, and that nobody made, is no other than one of its own.
func TestUnmadeInside(t *testing.T) { // P19.1, P19.2, rule 1
	var s struct {
		before uint64
		q      queue.Queue
		after  uint64
	}
	var l [3]queue.Queue
	for range 40 {
		nothing(t, &s.q)
		for i := range l {
			nothing(t, &l[i])
		}
		if s.before != 0 || s.after != 0 {
			t.Fatal(s.before, s.after)
		}
	}
}

// Queues have nothing to do with one another, nor with one that nobody made.
func TestTwoQueues(t *testing.T) { // rule 4
	next := drawn(7)
	all := messages()
	x, y := opened(t, 3), opened(t, 16)
	for range 600 {
		w := x
		if next(2) == 0 {
			w = y
		}
		if m := all[next(len(all))]; next(2) == 0 {
			w.push(m)
		} else {
			w.pop()
		}
		for _, q := range unmade() {
			nothing(t, q)
		}
		opened(t, 3).texts("a", "b")
		x.holds()
		y.holds()
	}
}

// What one queue told is pushed to another one.
func TestFromOneToAnother(t *testing.T) { // P19.2, P19.3, rule 3
	x, y := opened(t, 16), opened(t, 5)
	x.fill()
	for range 40 {
		x.push(y.pop())
		m := x.pop()
		y.push(m)
		spoil(m)
		for _, m := range x.q.All() {
			y.push(m)
			spoil(m)
		}
		x.holds()
		y.holds()
	}
}

// The same calls have the same answers.
func TestTheSameAgain(t *testing.T) { // rule 4
	run := func() string {
		q, _ := queue.New(5)
		next := drawn(3)
		said := ""
		for range 300 {
			if next(2) == 0 {
				said += fmt.Sprint(q.Push(noise(next(100), next(80))))
			} else {
				m, ok := q.Pop()
				said += fmt.Sprint(m, ok)
			}
			said += fmt.Sprint(q.Len(), q.Free(), q.All())
		}
		return said
	}
	if run() != run() {
		t.Fatal("other answers")
	}
}

// inUse is how many bytes are kept.
func inUse() int {
	var m runtime.MemStats
	runtime.GC()
	runtime.GC()
	runtime.ReadMemStats(&m)
	return int(m.HeapAlloc)
}

// What is popped is kept no longer, and what was asked for or refused isn't kept at all.
func TestWhatIsKept(t *testing.T) { // P19.1
	const many = 2000
	var l [many]*queue.Queue
	for i := range l {
		l[i], _ = queue.New(api.MaxRoom)
	}
	before := inUse()
	for _, q := range l {
		for range api.MaxRoom {
			q.Push(make([]byte, api.MaxData))
		}
	}
	full := inUse() - before
	for _, q := range l {
		for range 3 {
			q.Push(make([]byte, api.MaxData))
			q.All()
			q.Front()
		}
	}
	asked := inUse() - before
	for _, q := range l {
		for range api.MaxRoom {
			q.Pop()
		}
	}
	left := inUse() - before
	const whole = many * api.MaxRoom * api.MaxData
	if full < whole || full > 2*whole || asked > full+whole/10 || left > whole/10 {
		t.Fatal(full, asked, left)
	}
	for _, q := range l {
		if q.Len() != 0 || q.Free() != api.MaxRoom {
			t.Fatal(q.Len(), q.Free())
		}
	}
}
