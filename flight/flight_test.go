package flight_test

import (
	"bytes"
	"fmt"
	"kedge/api"
	"kedge/crc"
	"kedge/edit"
	"kedge/flight"
	"kedge/frame"
	"math"
	"runtime"
	"slices"
	"testing"
)

// The numbers that the document names, written out, so that the tests hold whatever api says.
const (
	maxWire = 512
	maxLife = 4096
	maxFly  = 4096

	ok      = api.Errno(0)
	errArg  = api.Errno(1)
	errLong = api.Errno(2)
	errFull = api.Errno(3)
	errNone = api.Errno(4)
	errNil  = api.Errno(5)

	put = 0
	ins = 1
	del = 2
	cut = 3
)

// one is short for an edit.
type one = api.Edit

// noDirs are numbers of no direction, such as would be one if they were cut short or turned about among them.
var noDirs = []int{
	-1, -2, -3, -128, -254, -255, -256, -257, -65535, -65536, -1 << 31, -1<<31 + 1, -1 << 32, 1 - 1<<32, math.MinInt, math.MinInt + 1,
	2, 3, 4, 5, 127, 128, 255, 256, 257, 65536, 65537, math.MaxInt32, 1 << 31, 1<<31 + 1, 1 << 32, 1<<32 + 1, 1 << 62, math.MaxInt - 1, math.MaxInt,
}

// far are places at which there is no frame, however many there are: no place, or far behind the last one.
var far = []int{
	math.MinInt, math.MinInt + 1, -1 << 32, 1 - 1<<32, 2 - 1<<32, -1 << 31, -65536, -4097, -4096, -257, -256, -3, -2, -1,
	4096, 4097, 8192, 65536, 65537, math.MaxInt32, 1 << 31, 1 << 32, 1<<32 + 1, 1<<32 + 2, 1 << 62, math.MaxInt - 1, math.MaxInt,
}

// record is a frame that was put: its bytes by now, and at first; and whether it's on its way still.
type record struct {
	wire, first []byte
	flying      bool
}

// twin is a flight, and beside it a list of all that was ever put in it, kept as the chapter says.
type twin struct {
	t    *testing.T
	f    *flight.Flight
	life int
	list [2][]*record
	gone int
}

// opened is a flight of that life, in which nothing is on its way.
func opened(t *testing.T, life int) *twin {
	t.Helper()
	f, e := flight.New(life)
	if e != ok || f == nil {
		t.Fatalf("New(%d) = %v, %d", life, f, e)
	}
	x := &twin{t: t, f: f, life: life}
	x.holds()
	return x
}

// numbers are those of the frames that are on their way, by the list.
func (x *twin) numbers(dir int) []int {
	var all []int
	if dir == 0 || dir == 1 {
		for i, r := range x.list[dir] {
			if r.flying {
				all = append(all, i+1)
			}
		}
	}
	return all
}

// find is the i'th frame's number by the list, or the error.
func (x *twin) find(dir, i int) (int, api.Errno) {
	if dir != 0 && dir != 1 {
		return 0, errArg
	}
	if all := x.numbers(dir); i >= 0 && i < len(all) {
		return all[i], ok
	}
	return 0, errNone
}

// putError is what the chapter says of a Put.
func (x *twin) putError(dir int, wire []byte) api.Errno {
	switch {
	case dir != 0 && dir != 1:
		return errArg
	case len(wire) > maxWire:
		return errLong
	case len(x.numbers(dir)) >= maxFly:
		return errFull
	}
	return ok
}

// put puts a frame, and in the list, too.
func (x *twin) put(dir int, wire []byte) {
	x.t.Helper()
	want := x.putError(dir, wire)
	if e := x.f.Put(dir, wire); e != want {
		x.t.Fatalf("life %d: Put(%d, %d bytes) = %d, not %d", x.life, dir, len(wire), e, want)
	}
	if want != ok {
		return
	}
	x.list[dir] = append(x.list[dir], &record{bytes.Clone(wire), bytes.Clone(wire), true})
	for i, r := range x.list[dir] {
		if behind := len(x.list[dir]) - 1 - i; x.life != 0 && behind >= x.life && r.flying {
			r.flying = false
			x.gone++
		}
	}
}

// puts puts so many frames, each with bytes of its own.
func (x *twin) puts(dir, n int) {
	x.t.Helper()
	for range n {
		x.put(dir, text(dir, len(x.list[dir])))
	}
}

// told fails the test if the frame isn't the list's with that number.
func (x *twin) told(what string, dir, i int, got api.Frame, e api.Errno) {
	x.t.Helper()
	n, want := x.find(dir, i)
	if e != want {
		x.t.Fatalf("life %d: %s(%d, %d) is %d, not %d, of %d", x.life, what, dir, i, e, want, x.numbers(dir))
	}
	if want != ok {
		none(x.t, what, got)
		return
	}
	r := x.list[dir][n-1]
	if got.Number != n || !bytes.Equal(got.Wire, r.wire) || !bytes.Equal(got.First, r.first) {
		x.t.Fatalf("life %d: %s(%d, %d) = %v, not %d, %x, %x", x.life, what, dir, i, got, n, r.wire, r.first)
	}
}

// at asks for a frame.
func (x *twin) at(dir, i int) api.Frame {
	x.t.Helper()
	got, e := x.f.At(dir, i)
	x.told("At", dir, i, got, e)
	return got
}

// take takes a frame, and in the list, too.
func (x *twin) take(dir, i int) api.Frame {
	x.t.Helper()
	got, e := x.f.Take(dir, i)
	x.told("Take", dir, i, got, e)
	if n, e := x.find(dir, i); e == ok {
		x.list[dir][n-1].flying = false
	}
	return got
}

// spoil spoils a frame, and in the list, too.
func (x *twin) spoil(dir, i int, l ...one) {
	x.t.Helper()
	n, want := x.find(dir, i)
	if e := x.f.Spoil(dir, i, l...); e != want {
		x.t.Fatalf("Spoil(%d, %d, %v) = %d, not %d", dir, i, l, e, want)
	}
	if want == ok {
		r := x.list[dir][n-1]
		r.wire = edit.Do(r.wire, l...)
	}
}

// counts fails the test if the flight doesn't count as the list does.
func (x *twin) counts() {
	x.t.Helper()
	for dir := range 2 {
		if n := x.f.Len(dir); n != len(x.numbers(dir)) {
			x.t.Fatalf("life %d: Len(%d) = %d, not %d", x.life, dir, n, len(x.numbers(dir)))
		}
		if n := x.f.Sent(dir); n != len(x.list[dir]) {
			x.t.Fatalf("life %d: Sent(%d) = %d, not %d", x.life, dir, n, len(x.list[dir]))
		}
	}
	if x.f.Gone() != x.gone {
		x.t.Fatalf("life %d: Gone() = %d, not %d", x.life, x.f.Gone(), x.gone)
	}
}

// holds fails the test if the flight isn't, as a whole, what the list is.
func (x *twin) holds() {
	x.t.Helper()
	x.counts()
	for dir := range 2 {
		all := x.numbers(dir)
		for i, n := range all {
			r := x.list[dir][n-1]
			got, e := x.f.At(dir, i)
			if e != ok || got.Number != n || !bytes.Equal(got.Wire, r.wire) || !bytes.Equal(got.First, r.first) {
				x.t.Fatalf("life %d: At(%d, %d) = %v, %d, not %d, %x, %x", x.life, dir, i, got, e, n, r.wire, r.first)
			}
		}
		x.at(dir, -1)
		x.at(dir, len(all))
	}
}

// there fails the test if these aren't the frames on their way, by their numbers.
func (x *twin) there(dir int, want ...int) {
	x.t.Helper()
	x.holds()
	if got := x.numbers(dir); !slices.Equal(got, want) {
		x.t.Fatalf("life %d: in the direction %d are %d, not %d", x.life, dir, got, want)
	}
}

// none fails the test if there is anything in the frame.
func none(t *testing.T, what string, x api.Frame) {
	t.Helper()
	if x.Number != 0 || len(x.Wire) != 0 || len(x.First) != 0 {
		t.Fatalf("%s tells, beside an error, %v", what, x)
	}
}

// drawn answers a function that tells numbers that look like noise, below n, the same ones in each run.
func drawn(begin int) func(n int) int {
	x := uint64(begin)
	return func(n int) int {
		x = x*6364136223846793005 + 1442695040888963407
		return int(x>>33) % n
	}
}

// noise is n bytes that look like noise.
func noise(begin, n int) []byte {
	next := drawn(begin)
	b := make([]byte, n)
	for i := range b {
		b[i] = byte(next(256))
	}
	return b
}

// text is a frame's bytes that no other frame of these tests has.
func text(dir, n int) []byte {
	return fmt.Appendf(nil, "%d in %d", n, dir)
}

// spare answers b with room behind it in which a guard stands, and a function that tells whether b and the guard are as they were.
func spare(b []byte) ([]byte, func() bool) {
	whole := slices.Concat([]byte{7}, b, noise(len(b), 600))
	was := bytes.Clone(whole)
	return whole[1 : 1+len(b)], func() bool { return bytes.Equal(whole, was) }
}

// overwrite puts other bytes in all of b's memory, up to its capacity.
func overwrite(b []byte) {
	b = b[:cap(b)]
	for i := range b {
		b[i] = ^b[i]
	}
}

// unmade are the flights that New did not make.
func unmade() []*flight.Flight {
	return []*flight.Flight{nil, new(flight.Flight), {}}
}

func TestExample(t *testing.T) { // P16.1, P16.2, P16.3
	f, e := flight.New(2)
	if e != api.OK {
		t.Fatal(e)
	}
	for i := range 3 {
		if e := f.Put(0, []byte{byte(i), 7}); e != api.OK {
			t.Fatal(i, e)
		}
	}
	if f.Len(0) != 2 || f.Len(1) != 0 || f.Gone() != 1 || f.Sent(0) != 3 || f.Sent(1) != 0 {
		t.Fatal(f.Len(0), f.Len(1), f.Gone(), f.Sent(0), f.Sent(1))
	}
	for i := range 2 {
		x, e := f.At(0, i)
		if e != api.OK || x.Number != i+2 || !bytes.Equal(x.Wire, []byte{byte(i + 1), 7}) || !bytes.Equal(x.First, x.Wire) {
			t.Fatal(i, x, e)
		}
	}
	if x, e := f.At(0, 2); e != api.ErrNone || x.Number != 0 || x.Wire != nil || x.First != nil {
		t.Fatal(x, e)
	}
}

func TestWrittenOut(t *testing.T) { // P16.2, P16.3, P16.4
	x := opened(t, 0)
	for i := range 4 {
		x.put(1, []byte{byte(i), 9})
	}
	x.there(1, 1, 2, 3, 4)
	x.there(0)
	x.spoil(1, 2, one{Kind: ins, At: 1, B: 5}, one{Kind: del, At: 0})
	if got := x.take(1, 2); got.Number != 3 || !bytes.Equal(got.Wire, []byte{5, 9}) || !bytes.Equal(got.First, []byte{2, 9}) {
		t.Fatal(got)
	}
	x.there(1, 1, 2, 4)
	if got := x.take(1, 2); got.Number != 4 || !bytes.Equal(got.Wire, []byte{3, 9}) {
		t.Fatal(got)
	}
	x.put(1, nil)
	x.there(1, 1, 2, 5)
	if x.f.Sent(1) != 5 || x.f.Sent(0) != 0 || x.f.Gone() != 0 {
		t.Fatal(x.f.Sent(1), x.f.Sent(0), x.f.Gone())
	}
}

func TestNewOfLives(t *testing.T) { // P16.1
	for _, life := range []int{0, 1, 2, 3, 255, 256, 257, 1000, maxLife - 1, maxLife} {
		x := opened(t, life)
		x.there(0)
		x.there(1)
		x.at(0, 0)
		x.at(1, 0)
	}
	for _, life := range slices.Concat(far, []int{maxLife + 1, maxLife + 2, -maxLife, -maxLife - 1}) {
		if life == maxLife {
			continue
		}
		if f, e := flight.New(life); f != nil || e != errArg {
			t.Fatalf("New(%d) = %v, %d", life, f, e)
		}
	}
}

// Which frames are there behind each Put, of short lives.
func TestShortLives(t *testing.T) { // P16.2, P16.5
	for life := range 20 {
		x := opened(t, life)
		for n := 1; n < 3*life+5; n++ {
			x.puts(0, 1)
			var want []int
			for k := 1; k <= n; k++ {
				if life == 0 || n-k < life {
					want = append(want, k)
				}
			}
			x.there(0, want...)
			if x.f.Gone() != n-len(want) {
				t.Fatal(life, n, x.f.Gone())
			}
		}
		x.there(1)
	}
}

// Without a life a frame stays, however many are put and taken behind it.
func TestNoLife(t *testing.T) { // P16.2
	x := opened(t, 0)
	x.puts(0, 1)
	for range 3 * maxLife {
		if e := x.f.Put(0, nil); e != ok {
			t.Fatal(e)
		}
		if y, e := x.f.Take(0, 1); e != ok || y.Number != x.f.Sent(0) {
			t.Fatal(y, e)
		}
	}
	y, e := x.f.At(0, 0)
	if e != ok || y.Number != 1 || x.f.Len(0) != 1 || x.f.Sent(0) != 3*maxLife+1 || x.f.Gone() != 0 {
		t.Fatal(y, e, x.f.Len(0), x.f.Sent(0), x.f.Gone())
	}
}

// The longest lives: of MaxLife a direction is full ahead of its first frame's being outlived, as nothing is gone yet.
func TestLongLives(t *testing.T) { // P16.2
	for _, life := range []int{maxLife - 2, maxLife - 1} {
		x := opened(t, life)
		x.puts(0, life)
		x.holds()
		if x.f.Gone() != 0 || x.f.Len(0) != life {
			t.Fatal(life, x.f.Gone(), x.f.Len(0))
		}
		x.puts(0, 10)
		x.holds()
		if x.f.Gone() != 10 || x.f.Len(0) != life || x.at(0, 0).Number != 11 {
			t.Fatal(life, x.f.Gone(), x.f.Len(0))
		}
	}
	x := opened(t, maxLife)
	x.puts(1, maxFly)
	x.puts(1, 3)
	x.holds()
	if x.f.Put(1, nil) != errFull || x.f.Gone() != 0 || x.f.Len(1) != maxFly || x.f.Sent(1) != maxFly {
		t.Fatal(x.f.Gone(), x.f.Len(1), x.f.Sent(1))
	}
	x.take(1, 7)
	x.puts(1, 1)
	x.holds()
	if x.f.Gone() != 1 || x.f.Len(1) != maxFly-1 || x.at(1, 0).Number != 2 || x.at(1, maxFly-2).Number != maxFly+1 {
		t.Fatal(x.f.Gone(), x.f.Len(1))
	}
	x.puts(1, 2) // room for one by the taken one, and each Put makes room for one more
	x.holds()
	if x.f.Gone() != 3 || x.f.Len(1) != maxFly-1 {
		t.Fatal(x.f.Gone(), x.f.Len(1))
	}
}

// What is gone in one direction hangs on that direction alone; Gone counts both.
func TestGoneInOneDirection(t *testing.T) { // P16.2
	for dir := range 2 {
		x := opened(t, 3)
		x.puts(1-dir, 2)
		x.puts(dir, 50)
		x.there(1-dir, 1, 2)
		x.there(dir, 48, 49, 50)
		if x.f.Gone() != 47 {
			t.Fatal(x.f.Gone())
		}
		x.puts(1-dir, 2)
		x.there(1-dir, 2, 3, 4)
		x.there(dir, 48, 49, 50)
		if x.f.Gone() != 48 || x.f.Sent(dir) != 50 || x.f.Sent(1-dir) != 4 {
			t.Fatal(x.f.Gone())
		}
	}
}

// A life is told by what was put, whether it was taken or not; what was taken isn't gone by its life.
func TestLifeAndTakenFrames(t *testing.T) { // P16.2
	x := opened(t, 4)
	x.puts(0, 4)
	x.take(0, 1)
	x.take(0, 1)
	x.there(0, 1, 4)
	x.puts(0, 1)
	x.there(0, 4, 5)
	x.puts(0, 2)
	x.there(0, 4, 5, 6, 7)
	if x.f.Gone() != 1 {
		t.Fatal(x.f.Gone())
	}
	for range 4 {
		x.take(0, 0)
	}
	x.puts(0, 4)
	x.there(0, 8, 9, 10, 11)
	x.take(0, 3)
	x.puts(0, 1)
	x.there(0, 9, 10, 12)
	x.puts(0, 3)
	x.there(0, 12, 13, 14, 15)
	if x.f.Gone() != 4 {
		t.Fatal(x.f.Gone())
	}
}

// Who takes each frame at once loses none by its life.
func TestTakenAtOnce(t *testing.T) { // P16.2, P16.3
	for _, life := range []int{0, 1, 2, maxLife} {
		x := opened(t, life)
		for i := range 30 {
			x.puts(i%2, 1)
			x.take(i%2, 0)
			x.there(i % 2)
		}
		if x.f.Gone() != 0 || x.f.Sent(0) != 15 || x.f.Sent(1) != 15 {
			t.Fatal(life, x.f.Gone(), x.f.Sent(0), x.f.Sent(1))
		}
	}
}

func TestPutInNoDirection(t *testing.T) { // P16.2
	for _, life := range []int{0, 1, 2} {
		x := opened(t, life)
		for _, dir := range noDirs {
			x.put(dir, nil)
			x.put(dir, []byte{1})
			x.put(dir, make([]byte, maxWire+1))
		}
		x.there(0)
		x.there(1)
		x.puts(0, 2)
		x.puts(1, 1)
		for _, dir := range noDirs {
			x.put(dir, []byte{1})
		}
		x.holds()
	}
}

// How many bytes there are counts, not for how many there is room.
func TestPutOfEachLength(t *testing.T) { // P16.2
	x := opened(t, 0)
	for n := range maxWire + 4 {
		x.put(n%2, noise(n, n))
		x.put(n%2, noise(n, 2000)[:n])
	}
	for _, n := range []int{1023, 1024, 4096, 65535, 65536, 65537, 65536 + maxWire, 1 << 20} {
		x.put(0, make([]byte, n))
	}
	x.holds()
	if x.f.Sent(0)+x.f.Sent(1) != 2*(maxWire+1) {
		t.Fatal(x.f.Sent(0), x.f.Sent(1))
	}
}

// No byte is a frame, too.
func TestPutOfNoByte(t *testing.T) { // P16.2
	for _, life := range []int{0, 2} {
		x := opened(t, life)
		for _, b := range [][]byte{nil, {}, noise(1, 9)[:0]} {
			x.put(0, b)
			x.put(1, b)
			x.holds()
		}
		if got := x.take(0, 1); got.Number == 0 || len(got.Wire) != 0 || len(got.First) != 0 {
			t.Fatal(got)
		}
		x.holds()
	}
}

// Which bytes there are doesn't matter, nor whether two frames have the same ones.
func TestPutOfTheSameBytes(t *testing.T) { // P16.2, P16.3
	x := opened(t, 0)
	for range 3 {
		for _, b := range [][]byte{{0}, {0x7e}, {0x7e, 0x7e}, {0x7d}, {0xff, 0}} {
			x.put(0, b)
			x.put(1, b)
		}
	}
	x.holds()
	x.take(0, 5)
	x.spoil(0, 0, one{B: 9})
	x.holds()
	x.take(1, 14)
	x.holds()
}

func TestFull(t *testing.T) { // P16.2
	for dir := range 2 {
		x := opened(t, 0)
		x.puts(dir, maxFly-1)
		x.holds()
		x.puts(dir, 1)
		x.holds()
		for range 3 {
			if e := x.f.Put(dir, []byte{1}); e != errFull {
				t.Fatal(e)
			}
		}
		x.holds()
		x.puts(1-dir, 2) // the other one isn't full
		x.holds()
		if got := x.take(dir, 2000); got.Number != 2001 {
			t.Fatal(got)
		}
		x.puts(dir, 2) // there is room for one
		x.holds()
		if got := x.at(dir, maxFly-1); got.Number != maxFly+1 || x.f.Sent(dir) != maxFly+1 {
			t.Fatal(got)
		}
		x.take(dir, 0)
		x.take(dir, maxFly-2)
		x.puts(dir, 3)
		x.holds()
	}
}

// What is refused is counted nowhere, and lets no frame go.
func TestRefusedPutsDoNotAge(t *testing.T) { // P16.2, rule 2
	x := opened(t, 2)
	x.puts(0, 2)
	x.puts(1, 2)
	for range 5 {
		x.put(0, make([]byte, maxWire+1))
		x.put(1, make([]byte, maxWire+1))
		x.put(2, nil)
		x.put(-1, nil)
	}
	x.there(0, 1, 2)
	x.there(1, 1, 2)
	if x.f.Gone() != 0 || x.f.Sent(0) != 2 || x.f.Sent(1) != 2 {
		t.Fatal(x.f.Gone(), x.f.Sent(0), x.f.Sent(1))
	}
	x.puts(0, 1)
	x.there(0, 2, 3)
}

// orders are all orders in which n frames may be taken, told by the places at which they stand by then.
func orders(n int) [][]int {
	all := [][]int{nil}
	for left := n; left > 0; left-- {
		var more [][]int
		for _, o := range all {
			for i := range left {
				more = append(more, append(slices.Clone(o), i))
			}
		}
		all = more
	}
	return all
}

func TestTakenInAnyOrder(t *testing.T) { // P16.3, P16.5
	for n := range 6 {
		for _, order := range orders(n) {
			x := opened(t, 0)
			x.puts(0, n)
			x.puts(1, n)
			seen := map[int]bool{}
			for k, i := range order {
				got := x.take(0, i)
				if seen[got.Number] || !bytes.Equal(got.First, text(0, got.Number-1)) {
					t.Fatal(order, got)
				}
				seen[got.Number] = true
				x.there(0, x.numbers(0)...)
				if x.f.Len(0) != n-1-k || x.f.Len(1) != n {
					t.Fatal(order, x.f.Len(0), x.f.Len(1))
				}
			}
			x.puts(0, 2)
			x.there(0, n+1, n+2)
		}
	}
}

func TestTakeFirstLastMiddle(t *testing.T) { // P16.3
	for dir := range 2 {
		x := opened(t, 0)
		x.puts(dir, 7)
		x.puts(1-dir, 3)
		if x.take(dir, 0).Number != 1 {
			t.Fatal("the first")
		}
		x.there(dir, 2, 3, 4, 5, 6, 7)
		if x.take(dir, 5).Number != 7 {
			t.Fatal("the last")
		}
		x.there(dir, 2, 3, 4, 5, 6)
		if x.take(dir, 2).Number != 4 {
			t.Fatal("the middle")
		}
		x.there(dir, 2, 3, 5, 6)
		x.there(1-dir, 1, 2, 3)
		x.puts(dir, 1)
		x.there(dir, 2, 3, 5, 6, 8)
	}
}

// A frame that was cut out of one list isn't to be seen in another one, wherever it was cut, and though frames were put behind it.
func TestTakeAndPutInTurn(t *testing.T) { // P16.3
	for _, pick := range []func(n int) int{
		func(n int) int { return 0 },
		func(n int) int { return n - 1 },
		func(n int) int { return n / 2 },
		func(n int) int { return min(1, n-1) },
		func(n int) int { return max(0, n-2) },
	} {
		for _, life := range []int{0, 5, 9} {
			x := opened(t, life)
			for range 40 {
				x.puts(0, 2)
				x.holds()
				x.take(0, pick(x.f.Len(0)))
				x.holds()
			}
			for x.f.Len(0) > 0 {
				x.take(0, pick(x.f.Len(0)))
				x.holds()
			}
		}
	}
}

// asks asks for a frame that there is none of, in each way.
func (x *twin) asks(dir, i int) {
	x.t.Helper()
	x.at(dir, i)
	x.take(dir, i)
	x.spoil(dir, i)
	x.spoil(dir, i, one{Kind: cut}, one{Kind: ins, B: 1})
}

func TestNoSuchFrame(t *testing.T) { // P16.3, P16.4, rule 2
	x := opened(t, 3)
	all := func() {
		t.Helper()
		for dir := range 2 {
			for _, i := range append(slices.Clone(far), x.f.Len(dir), x.f.Len(dir)+1) {
				x.asks(dir, i)
				if _, e := x.f.At(dir, i); e != errNone {
					t.Fatal(dir, i, e)
				}
			}
		}
		for _, dir := range noDirs {
			for _, i := range append(slices.Clone(far), 0, 1, 2) {
				x.asks(dir, i)
				if _, e := x.f.At(dir, i); e != errArg {
					t.Fatal(dir, i, e)
				}
			}
		}
		x.holds()
	}
	all()
	x.puts(1, 1)
	all()
	x.puts(0, 2)
	all()
	x.puts(1, 9)
	all()
	x.take(0, 0)
	x.take(0, 0)
	all()
}

func TestCountsOfNoDirection(t *testing.T) { // P16.2, P16.3, rule 1
	x := opened(t, 1)
	x.puts(0, 5)
	x.puts(1, 5)
	for _, dir := range noDirs {
		if x.f.Len(dir) != 0 || x.f.Sent(dir) != 0 {
			t.Fatal(dir, x.f.Len(dir), x.f.Sent(dir))
		}
	}
}

// spoils are edits that make a frame's bytes longer, shorter, empty, other ones, or nothing else.
var spoils = [][]one{
	nil,
	{},
	{{Kind: put, At: 0, B: 9}},
	{{Kind: put, At: 5, B: 9}},
	{{Kind: ins, At: 0, B: 1}},
	{{Kind: ins, At: 3, B: 1}, {Kind: ins, At: 3, B: 2}, {Kind: put, At: 4, B: 7}},
	{{Kind: del, At: 0}},
	{{Kind: del, At: 2}, {Kind: del, At: 2}, {Kind: del, At: 0}},
	{{Kind: cut, At: 2}},
	{{Kind: cut, At: 0}},
	{{Kind: cut, At: 0}, {Kind: ins, At: 0, B: 5}},
	{{Kind: put, At: -1, B: 1}, {Kind: put, At: 600, B: 1}, {Kind: 4, At: 0}, {Kind: -1, At: 0}, {Kind: cut, At: math.MaxInt}},
	{{Kind: put, At: 1, B: 3}, {Kind: ins, At: 2, B: 4}, {Kind: del, At: 0}, {Kind: cut, At: 3}, {Kind: 77}},
}

// Each of three frames is spoilt, in each direction; the others stay as they are.
func TestSpoil(t *testing.T) { // P16.4
	for _, l := range spoils {
		for dir := range 2 {
			for i := range 3 {
				x := opened(t, 0)
				x.puts(0, 3)
				x.puts(1, 3)
				x.spoil(dir, i, l...)
				x.holds()
				want := edit.Do(text(dir, i), l...)
				if got := x.take(dir, i); !bytes.Equal(got.Wire, want) || !bytes.Equal(got.First, text(dir, i)) {
					t.Fatalf("%v makes %v of %x", l, got, text(dir, i))
				}
				x.holds()
			}
		}
	}
}

// What is spoilt once more is what it had become, not what it was at first.
func TestSpoilOneBehindTheOther(t *testing.T) { // P16.4, P16.5
	x := opened(t, 9)
	x.puts(0, 3)
	want := text(0, 1)
	for range 3 {
		for _, l := range spoils {
			x.spoil(0, 1, l...)
			want = edit.Do(want, l...)
			if got := x.at(0, 1); !bytes.Equal(got.Wire, want) || !bytes.Equal(got.First, text(0, 1)) {
				t.Fatal(got)
			}
			x.holds()
		}
		for i := range 5 {
			x.spoil(0, 1, one{Kind: ins, B: byte(i)})
			want = edit.Do(want, one{Kind: ins, B: byte(i)})
		}
	}
	if got := x.take(0, 1); got.Number != 2 || !bytes.Equal(got.Wire, want) || !bytes.Equal(got.First, text(0, 1)) {
		t.Fatal(got)
	}
	x.there(0, 1, 3)
}

// The longest Wire becomes no longer, and the empty one no shorter.
func TestSpoilAtTheLimits(t *testing.T) { // P16.4
	x := opened(t, 0)
	x.put(0, noise(1, maxWire))
	x.put(0, noise(2, maxWire-1))
	x.put(0, nil)
	for range 3 {
		for i := range 3 {
			x.spoil(0, i, one{Kind: ins, At: 0, B: 5}, one{Kind: ins, At: 1, B: 6})
			x.holds()
		}
	}
	if n := len(x.at(0, 0).Wire); n != maxWire {
		t.Fatal(n)
	}
	if n := len(x.at(0, 1).Wire); n != maxWire {
		t.Fatal(n)
	}
	if n := len(x.at(0, 2).Wire); n != 6 {
		t.Fatal(n)
	}
	for range 2 {
		x.spoil(0, 2, one{Kind: cut})
		x.spoil(0, 2, one{Kind: del})
		x.holds()
	}
	for range maxWire + 5 {
		x.spoil(0, 0, one{Kind: del, At: 0})
	}
	x.holds()
	if got := x.take(0, 0); len(got.Wire) != 0 || len(got.First) != maxWire {
		t.Fatal(got)
	}
}

// What was taken or is gone isn't spoilt: its place is another one's.
func TestSpoilIsOfThePlaceByThen(t *testing.T) { // P16.4
	x := opened(t, 3)
	x.puts(0, 3)
	x.take(0, 0)
	x.spoil(0, 0, one{B: 200})
	if got := x.at(0, 0); got.Number != 2 || got.Wire[0] != 200 {
		t.Fatal(got)
	}
	x.puts(0, 2)
	x.there(0, 3, 4, 5)
	x.spoil(0, 0, one{B: 201})
	x.holds()
	x.spoil(0, 2, one{B: 202})
	x.puts(0, 1)
	x.there(0, 4, 5, 6)
	if got := x.take(0, 1); got.Number != 5 || got.Wire[0] != 202 {
		t.Fatal(got)
	}
}

// Frames that are spoilt mildly are taken as what they were at first, or as nothing.
func TestFramesOnTheirWay(t *testing.T) { // P16.4, P16.5
	table := crc.New()
	x := opened(t, 0)
	for n := range 40 {
		w, e := frame.Wrap(table, noise(n, n))
		if e != ok {
			t.Fatal(e)
		}
		x.put(0, w)
		x.spoil(0, n, one{At: 1, B: byte(n)})
	}
	for x.f.Len(0) > 0 {
		got := x.take(0, x.f.Len(0)/2)
		if edit.Mild(got.First, edit.Between(got.First, got.Wire)...) && edit.Forged(table, got.First, got.Wire) {
			t.Fatal(got)
		}
		if body, e := frame.Open(table, got.First); e != ok || !bytes.Equal(body, noise(got.Number-1, got.Number-1)) {
			t.Fatal(got)
		}
	}
}

func TestUnmade(t *testing.T) { // P16.1 to P16.4, rules 1 and 2
	dirs := append(slices.Clone(noDirs), 0, 1)
	for _, f := range unmade() {
		for range 2 {
			for _, dir := range dirs {
				for _, n := range []int{0, 1, maxWire, maxWire + 1} {
					if e := f.Put(dir, make([]byte, n)); e != errNil {
						t.Fatal(dir, n, e)
					}
				}
				for _, i := range append(slices.Clone(far), 0, 1) {
					x, e := f.At(dir, i)
					none(t, "At", x)
					y, d := f.Take(dir, i)
					none(t, "Take", y)
					if e != errNil || d != errNil || f.Spoil(dir, i) != errNil || f.Spoil(dir, i, one{Kind: 9}, one{}) != errNil {
						t.Fatal(dir, i, e, d)
					}
				}
				if f.Len(dir) != 0 || f.Sent(dir) != 0 || f.Gone() != 0 {
					t.Fatal(dir, f.Len(dir), f.Sent(dir), f.Gone())
				}
			}
		}
	}
}

// Of several errors the one that is named first is told: ErrArg, ErrLong, ErrFull; ErrArg, ErrNone.
func TestOrderOfErrors(t *testing.T) { // P16.2, P16.3, P16.4, rule 2
	x := opened(t, 0)
	x.puts(0, maxFly)
	for _, c := range []struct {
		dir, n int
		want   api.Errno
	}{
		{-1, maxWire + 1, errArg},
		{2, maxWire + 1, errArg},
		{2, 0, errArg},
		{0, maxWire + 1, errLong},
		{0, maxWire, errFull},
		{0, 0, errFull},
		{1, maxWire + 1, errLong},
	} {
		if e := x.f.Put(c.dir, make([]byte, c.n)); e != c.want {
			t.Fatal(c.dir, c.n, e)
		}
	}
	for _, c := range []struct {
		dir, i int
		want   api.Errno
	}{
		{-1, -1, errArg},
		{2, maxFly, errArg},
		{2, 0, errArg},
		{0, -1, errNone},
		{0, maxFly, errNone},
		{1, 0, errNone},
	} {
		got, e := x.f.At(c.dir, c.i)
		none(t, "At", got)
		taken, d := x.f.Take(c.dir, c.i)
		none(t, "Take", taken)
		if s := x.f.Spoil(c.dir, c.i, one{Kind: cut}); e != c.want || d != c.want || s != c.want {
			t.Fatal(c.dir, c.i, e, d, s)
		}
	}
	x.holds()
}

// someEdits are up to four edits, most of which fit n bytes.
func someEdits(next func(int) int, n int) []one {
	var l []one
	for range next(5) {
		l = append(l, one{Kind: next(5), At: next(n+3) - 1, B: byte(next(256))})
	}
	return l
}

// step does something to the flight, and to the list.
func (x *twin) step(next func(int) int) {
	x.t.Helper()
	dir := next(2)
	if next(20) == 0 {
		dir = next(5) - 2
	}
	i := next(x.f.Len(dir)+2) - 1
	switch next(8) {
	case 0, 1, 2:
		x.put(dir, noise(next(1000), next(30)))
	case 3:
		x.put(dir, noise(next(1000), maxWire-3+next(6)))
	case 4, 5:
		x.take(dir, i)
	case 6:
		x.spoil(dir, i, someEdits(next, 12)...)
	default:
		x.at(dir, i)
	}
}

func TestManySteps(t *testing.T) { // P16.2 to P16.5
	for seed := range 250 {
		next := drawn(seed)
		x := opened(t, []int{0, 1, 2, 3, 5, 8, 13, maxLife}[seed%8])
		for range 120 {
			x.step(next)
			x.holds()
		}
	}
}

// Each frame is taken once at most, as it was put, and with a life only while it's one of the last so many.
func TestEachFrameOnce(t *testing.T) { // P16.5
	for seed := range 60 {
		next := drawn(seed)
		life := []int{0, 1, 4, 20}[seed%4]
		f, e := flight.New(life)
		if e != ok {
			t.Fatal(e)
		}
		var taken [2]map[int]bool
		for dir := range taken {
			taken[dir] = map[int]bool{}
		}
		take := func(dir, i int) {
			x, e := f.Take(dir, i)
			if e != ok || taken[dir][x.Number] || x.Number < 1 || x.Number > f.Sent(dir) || !bytes.Equal(x.First, text(dir, x.Number-1)) {
				t.Fatal(dir, i, x, e)
			}
			if life != 0 && x.Number <= f.Sent(dir)-life {
				t.Fatal(life, f.Sent(dir), x)
			}
			taken[dir][x.Number] = true
		}
		for range 400 {
			dir := next(2)
			if e := f.Put(dir, text(dir, f.Sent(dir))); e != ok {
				t.Fatal(e)
			}
			for f.Len(dir) > 0 && next(2) == 0 {
				i := next(f.Len(dir))
				if e := f.Spoil(dir, i, someEdits(next, 9)...); e != ok {
					t.Fatal(e)
				}
				if next(3) > 0 {
					take(dir, i)
				}
			}
		}
		for dir := range taken {
			for f.Len(dir) > 0 {
				take(dir, f.Len(dir)-1)
			}
		}
		if n := len(taken[0]) + len(taken[1]) + f.Gone(); n != f.Sent(0)+f.Sent(1) || n != 400 {
			t.Fatal(n, f.Sent(0), f.Sent(1))
		}
		if life == 0 && f.Gone() != 0 {
			t.Fatal(f.Gone())
		}
	}
}

// The wire that was put may be written over, and isn't changed by the flight.
func TestWireIsNotKept(t *testing.T) { // P16.5, rule 3
	x := opened(t, 0)
	for _, n := range []int{0, 1, 2, 8, 32, 100, maxWire - 1, maxWire} {
		wire, untouched := spare(noise(n, n))
		i := x.f.Len(0)
		x.put(0, wire)
		x.put(0, wire)
		x.spoil(0, i, spoils[5]...)
		x.spoil(0, i, spoils[6]...)
		x.spoil(0, i, one{B: 77})
		x.at(0, i)
		if !untouched() {
			t.Fatalf("what was put (%d bytes) isn't what it was", n)
		}
		overwrite(wire)
		x.holds()
	}
	for x.f.Len(0) > 0 {
		x.take(0, x.f.Len(0)/3)
	}
}

// What was refused is neither changed nor kept.
func TestRefusedWireIsLeftAlone(t *testing.T) { // rules 2 and 3
	x := opened(t, 0)
	x.puts(0, maxFly)
	for _, n := range []int{1, maxWire, maxWire + 1, 1000} {
		for dir := -1; dir < 3; dir++ {
			wire, untouched := spare(noise(n, n))
			if dir != 1 || n > maxWire {
				x.put(dir, wire)
			}
			if !untouched() {
				t.Fatal(n, dir)
			}
			overwrite(wire)
		}
	}
	x.holds()
}

// The edits may be written over, and aren't changed by the flight.
func TestEditsAreNotKept(t *testing.T) { // P16.5, rule 3
	for _, l := range spoils {
		x := opened(t, 0)
		x.puts(0, 2)
		mine := slices.Clone(l)
		x.spoil(0, 1, mine...)
		x.spoil(0, 7, mine...)
		x.spoil(7, 1, mine...)
		if !slices.Equal(mine, l) {
			t.Fatal(mine)
		}
		for i := range mine {
			mine[i] = one{Kind: cut, At: 0, B: 9}
		}
		x.holds()
		x.spoil(0, 1, one{Kind: ins, At: 0, B: 3})
		x.holds()
	}
}

// some is a flight with frames that were spoilt, and such as weren't; and with empty ones.
func some(t *testing.T) *twin {
	t.Helper()
	x := opened(t, 0)
	for _, n := range []int{0, 1, 2, 8, 33, 100, maxWire} {
		for range 3 {
			x.put(1, noise(n, n))
		}
		x.spoil(1, x.f.Len(1)-2, one{Kind: put, B: 1})
		x.spoil(1, x.f.Len(1)-1, one{Kind: ins, B: 1}, one{Kind: cut, At: n / 2})
	}
	return x
}

// What At tells may be written over: no other answer and nothing in the flight is changed by that.
func TestAtTellsNewMemory(t *testing.T) { // P16.5, rule 3
	x := some(t)
	for i := range x.f.Len(1) {
		a, b := x.at(1, i), x.at(1, i)
		overwrite(a.Wire)
		x.told("At", 1, i, b, ok)
		if n, _ := x.find(1, i); !bytes.Equal(a.First, x.list[1][n-1].first) {
			t.Fatalf("the frame %d has a First and a Wire that share memory", n)
		}
		overwrite(a.First)
		x.told("At", 1, i, b, ok)
		x.holds()
	}
}

// What At told stays what it was, whatever becomes of the frame.
func TestWhatAtToldStays(t *testing.T) { // P16.5
	x := some(t)
	for x.f.Len(1) > 0 {
		i := x.f.Len(1) / 2
		a, b := x.at(1, i), x.at(1, i)
		b.Wire, b.First = bytes.Clone(b.Wire), bytes.Clone(b.First)
		x.spoil(1, i, one{B: 111}, one{Kind: del, At: 1}, one{Kind: ins, At: 0, B: 112})
		x.spoil(1, i, one{B: 113})
		x.take(1, i)
		x.puts(0, 1)
		if !bytes.Equal(a.Wire, b.Wire) || !bytes.Equal(a.First, b.First) {
			t.Fatal(a, b)
		}
	}
}

// What Take tells may be written over, and stays what it was.
func TestTakeTellsNewMemory(t *testing.T) { // P16.5, rule 3
	x := some(t)
	for x.f.Len(1) > 0 {
		i := x.f.Len(1) / 2
		n, _ := x.find(1, i)
		before := x.at(1, i)
		got := x.take(1, i)
		x.puts(0, 2)
		r := x.list[1][n-1]
		if !bytes.Equal(got.Wire, r.wire) || !bytes.Equal(got.First, r.first) {
			t.Fatal(got, r)
		}
		overwrite(got.Wire)
		if !bytes.Equal(got.First, r.first) {
			t.Fatalf("the frame %d has a First and a Wire that share memory", n)
		}
		overwrite(got.First)
		if !bytes.Equal(before.Wire, r.wire) || !bytes.Equal(before.First, r.first) {
			t.Fatal(before, r)
		}
		x.holds()
	}
}

// Two flights have nothing to do with one another.
func TestTwoFlights(t *testing.T) { // rule 4
	x, y := opened(t, 2), opened(t, 0)
	for i := range 20 {
		x.puts(i%2, 1)
		y.puts(i%2, 2)
		x.spoil(0, 0, one{B: byte(i)})
		y.take(1, y.f.Len(1)/2)
		x.holds()
		y.holds()
		if _, e := flight.New(-1); e != errArg {
			t.Fatal(e)
		}
		none(t, "At", opened(t, i).at(0, 0))
	}
}

// What is answered hangs on the calls so far alone.
func TestTheSameTwice(t *testing.T) { // rule 4
	run := func() []api.Frame {
		x := opened(t, 6)
		next := drawn(5)
		var all []api.Frame
		for range 300 {
			x.step(next)
			for dir := range 2 {
				for i := range x.f.Len(dir) {
					all = append(all, x.at(dir, i))
				}
			}
		}
		return all
	}
	first, second := run(), run()
	same := func(a, b api.Frame) bool {
		return a.Number == b.Number && bytes.Equal(a.Wire, b.Wire) && bytes.Equal(a.First, b.First)
	}
	if len(first) < 100 || !slices.EqualFunc(first, second, same) {
		t.Fatal(len(first), len(second))
	}
}

// inUse is how many bytes are kept.
func inUse() int {
	var m runtime.MemStats
	runtime.GC()
	runtime.GC()
	runtime.ReadMemStats(&m)
	return int(m.HeapAlloc)
}

// Of frames that are on their way no longer nothing is kept, wherever they were cut out.
func TestFramesAreNotKeptBehindTheirEnd(t *testing.T) { // P16.3
	const whole = 2 * maxFly * maxWire // what the bytes of both directions' frames are at least
	for _, pick := range []func(n int) int{
		func(n int) int { return 0 },
		func(n int) int { return n - 1 },
		func(n int) int { return n / 2 },
		func(n int) int { return n - 1 - (n+1)%2 }, // the last but one, and the last, in turn
	} {
		f, e := flight.New(0)
		before := inUse()
		for dir := range 2 {
			for range maxFly {
				e = max(e, f.Put(dir, make([]byte, maxWire)))
			}
		}
		full := inUse()
		for dir := range 2 {
			for f.Len(dir) > 0 {
				f.Take(dir, pick(f.Len(dir)))
			}
		}
		left := inUse()
		if e != ok || full-before < whole || left-before > whole/4 {
			t.Fatal(e, before, full, left)
		}
		runtime.KeepAlive(f)
	}
}
