package scram_test

import (
	"bytes"
	"kedge/scram"
	"math"
	"slices"
	"testing"
)

// The numbers that the document names, written out, so that the tests hold whatever api says.
const (
	maxIn    = 4096
	maxSteps = 8 * maxIn
	states   = 32768
)

// some are states, those at the edges among them.
var some = []int{0, 1, 2, 3, 77, 255, 256, 8191, 8192, 8193, 16383, 16384, 16385, 17217, 24575, 24576, 32766, 32767}

// outside are numbers that are no states.
var outside = []int{
	32768, 32769, 49152, 57344, 65535, 65536, 65537, 1 << 31, 1<<31 + 77, 1 << 32, 1<<32 + 1, 1<<32 - 1, 1<<62 + 16384, math.MaxInt, math.MaxInt - 1, math.MaxInt - 32767, math.MaxInt - 32768,
	-1, -2, -77, -8192, -16383, -16384, -16385, -32766, -32767, -32768, -32769, -65535, -65536, -1 << 31, -1<<32 + 1, -1 << 62, math.MinInt, math.MinInt + 1, math.MinInt + 16384, math.MinInt + 32767, math.MinInt + 32768,
}

// begins are all of these.
var begins = slices.Concat(some, outside)

// many are numbers of bytes above MaxIn, such as become small ones if they are cut short or multiplied among them.
var many = []int{maxIn + 1, maxIn + 2, 2 * maxIn, maxSteps, maxSteps + 1, 65536, 65537, 1 << 29, 1<<29 + 1, 1<<31 - 1, 1 << 31, 1 << 32, 1<<32 + 1, 1<<32 + 16, 1 << 60, 1 << 61, 1<<61 + 1, 1 << 62, math.MaxInt - 1, math.MaxInt}

// below are numbers below 0, such as become others if they are cut short or multiplied among them.
var below = []int{-1, -2, -8, -4095, -4096, -4097, -32767, -32768, -1 << 31, -1<<31 - 1, -1 << 32, 1 - 1<<32, 16 - 1<<32, -1 << 61, 1 - 1<<61, math.MinInt + 1, math.MinInt}

// inside is what is left of a number by 32768, from 0 on.
func inside(state int) int {
	left := state % states
	if left < 0 {
		left += states
	}
	return left
}

// register is a state as its fifteen bits, the highest first.
func register(state int) []int {
	left := inside(state)
	r := make([]int, 15)
	for i := range r {
		r[14-i] = left % 2
		left /= 2
	}
	return r
}

// number is the state whose bits these are.
func number(r []int) int {
	n := 0
	for _, bit := range r {
		n = 2*n + bit
	}
	return n
}

// row is the bits of n steps, and the state behind them, by moving the bits along one by one.
func row(state, n int) ([]int, int) {
	r := register(state)
	var bits []int
	for range n {
		bit := 0
		if r[0] != r[1] {
			bit = 1
		}
		bits = append(bits, bit)
		r = append(r[1:], bit)
	}
	return bits, number(r)
}

// stream is P9.2's n bytes, by the bits of a row.
func stream(state, n int) []byte {
	bits, _ := row(state, 8*n)
	b := make([]byte, n)
	for i := range b {
		b[i] = byte(number(bits[8*i : 8*i+8]))
	}
	return b
}

// xored is each byte of a xor that of b at its place.
func xored(a, b []byte) []byte {
	out := bytes.Clone(a)
	for i := range out {
		out[i] ^= b[i]
	}
	return out
}

// noise is n bytes that look like noise, the same ones in each run.
func noise(begin, n int) []byte {
	x := uint64(begin)
	b := make([]byte, n)
	for i := range b {
		x = x*6364136223846793005 + 1442695040888963407
		b[i] = byte(x >> 33)
	}
	return b
}

// texts are n bytes each: noise, bits that are all alike, and the same byte again and again.
func texts(n int) [][]byte {
	return [][]byte{noise(n+1, n), make([]byte, n), bytes.Repeat([]byte{0xff}, n), bytes.Repeat([]byte{0x7e}, n)}
}

// steps fails the test if a step from there doesn't make this bit, and this state.
func steps(t *testing.T, state, bit, next int) {
	t.Helper()
	if b, s := scram.Step(state); b != bit || s != next {
		t.Fatalf("Step(%d) = %d, %d, not %d, %d", state, b, s, bit, next)
	}
}

// leads fails the test if n steps from there don't lead to this state.
func leads(t *testing.T, state, n, want int) {
	t.Helper()
	if s := scram.State(state, n); s != want {
		t.Fatalf("State(%d, %d) = %d, not %d", state, n, s, want)
	}
}

// streams fails the test if the Stream of so many bytes isn't this one.
func streams(t *testing.T, state int, want []byte) {
	t.Helper()
	if b := scram.Stream(state, len(want)); !bytes.Equal(b, want) {
		t.Fatalf("Stream(%d, %d) = %x, not %x", state, len(want), b, want)
	}
}

// becomes fails the test if Do doesn't make this of b.
func becomes(t *testing.T, state int, b, want []byte) {
	t.Helper()
	if out := scram.Do(state, b); !bytes.Equal(out, want) {
		t.Fatalf("Do(%d, %x) = %x, not %x", state, b, out, want)
	}
}

// spare answers b with room behind it in which a guard stands, and a function that tells whether b and the guard are as they were.
func spare(b []byte) ([]byte, func() bool) {
	whole := slices.Concat([]byte{7}, b, []byte{8, 9, 10, 11, 12})
	was := bytes.Clone(whole)
	return whole[1 : 1+len(b)], func() bool { return bytes.Equal(whole, was) }
}

// overwrite puts other bytes in all of b's memory, up to its capacity.
func overwrite(b []byte) {
	b = b[:cap(b)]
	for i := range b {
		b[i] = ^b[i]
	}
}

func TestExamples(t *testing.T) { // P9.1
	steps(t, 16384, 1, 1)
	steps(t, 1, 0, 2)
}

func TestStepWrittenOut(t *testing.T) { // P9.1
	for _, k := range []struct{ state, bit, next int }{
		{0, 0, 0}, {2, 0, 4}, {3, 0, 6}, {4095, 0, 8190}, {4096, 0, 8192}, {8191, 0, 16382},
		{8192, 1, 16385}, {8193, 1, 16387}, {16383, 1, 32767}, {16385, 1, 3}, {24575, 1, 16383},
		{24576, 0, 16384}, {24577, 0, 16386}, {32766, 0, 32764}, {32767, 0, 32766},
	} {
		steps(t, k.state, k.bit, k.next)
	}
}

func TestStepOfAllStates(t *testing.T) { // P9.1
	for state := range states {
		bits, next := row(state, 1)
		steps(t, state, bits[0], next)
	}
}

func TestStepOfOtherNumbers(t *testing.T) { // P9.1
	for _, k := range []struct{ state, bit, next int }{
		{32768, 0, 0}, {32769, 0, 2}, {49152, 1, 1}, {65535, 0, 32766}, {65536, 0, 0}, {-1, 0, 32766}, {-16384, 1, 1}, {-32767, 0, 2}, {-32768, 0, 0}, {-24576, 1, 16385},
		{math.MaxInt, 0, 32766}, {math.MaxInt - 32767, 0, 0}, {math.MinInt, 0, 0}, {math.MinInt + 16384, 1, 1}, {math.MinInt + 1, 0, 2},
	} {
		steps(t, k.state, k.bit, k.next)
	}
	for _, state := range outside {
		bit, next := scram.Step(inside(state))
		steps(t, state, bit, next)
	}
	for state := -2 * states; state < 3*states; state++ {
		bit, next := scram.Step(inside(state))
		steps(t, state, bit, next)
	}
}

func TestStateWrittenOut(t *testing.T) { // P9.1
	for _, k := range []struct{ state, n, want int }{
		{1, 0, 1}, {1, 1, 2}, {1, 2, 4}, {1, 8, 256}, {1, 15, 3}, {1, 16, 6}, {1, 100, 21511}, {1, 32766, 16384}, {1, 32767, 1}, {1, 32768, 2},
		{16384, 1, 1}, {16384, 8, 128}, {16384, 15, 16385}, {16384, 100, 10755}, {32767, 1, 32766}, {32767, 15, 1}, {32767, 100, 19458},
		{17217, 0, 17217}, {17217, 1, 1667}, {17217, 8, 16779}, {17217, 16, 2949}, {17217, 100, 30706}, {17217, 32766, 8608}, {17217, 32767, 17217}, {17217, 32768, 1667},
	} {
		leads(t, k.state, k.n, k.want)
	}
}

func TestStateIsStepsInARow(t *testing.T) { // P9.1
	for _, begin := range begins {
		state := inside(begin)
		for n := range 300 {
			leads(t, begin, n, state)
			_, state = scram.Step(state)
		}
	}
	state := 17217
	for n := range maxSteps + 1 {
		if n%97 == 0 || n > maxSteps-20 {
			leads(t, 17217, n, state)
		}
		_, state = scram.Step(state)
	}
}

func TestStateOfNoSteps(t *testing.T) { // P9.1
	for _, begin := range begins {
		leads(t, begin, 0, inside(begin))
		for _, n := range below {
			leads(t, begin, n, inside(begin))
		}
	}
}

// There are as many steps as states but one that come around; so one step too many, or too few, shows.
func TestStateOfMostSteps(t *testing.T) { // P9.1
	for _, begin := range begins {
		_, want := scram.Step(begin)
		leads(t, begin, maxSteps-1, inside(begin))
		leads(t, begin, maxSteps, want)
		for _, n := range []int{maxSteps + 1, maxSteps + 2, 2*maxSteps - 2, 2 * maxSteps, 65535, 1<<31 - 1, 1 << 31, 1 << 32, 1<<32 + 7, 1 << 61, 1 << 62, math.MaxInt - 1, math.MaxInt} {
			leads(t, begin, n, want)
		}
	}
}

func TestStreamWrittenOut(t *testing.T) { // P9.2
	for _, k := range []struct {
		state int
		want  []byte
	}{
		{0, make([]byte, 16)},
		{1, []byte{0x00, 0x06, 0x00, 0x14, 0x00, 0x78, 0x01, 0x10, 0x06, 0x60, 0x15, 0x40, 0x7f, 0x81, 0x01, 0x06}},
		{77, []byte{0x01, 0xae, 0x05, 0xe4, 0x1c, 0x58, 0x49, 0xd1, 0xb4, 0xe5, 0xba, 0x5d, 0x9d, 0xcd, 0x4c, 0xaf}},
		{16384, []byte{0x80, 0x03, 0x00, 0x0a, 0x00, 0x3c, 0x00, 0x88, 0x03, 0x30, 0x0a, 0xa0, 0x3f, 0xc0, 0x80, 0x83}},
		{17217, []byte{0x8b, 0x85, 0x39, 0x1e, 0x96, 0x47, 0x75, 0x93, 0x3d, 0x6a, 0x8f, 0x7f, 0x23, 0x02, 0xca, 0x0e}},
		{32767, []byte{0x00, 0x02, 0x00, 0x0c, 0x00, 0x28, 0x00, 0xf0, 0x02, 0x20, 0x0c, 0xc0, 0x2a, 0x80, 0xff, 0x02}},
	} {
		for n := range len(k.want) + 1 {
			for _, state := range []int{k.state, k.state + states, k.state - states, k.state + 1<<40, k.state + math.MinInt} {
				streams(t, state, k.want[:n])
			}
		}
	}
	last := scram.Stream(17217, maxIn)[maxIn-8:]
	if !bytes.Equal(last, []byte{0xa9, 0x8f, 0xf5, 0x20, 0x3e, 0xc0, 0x86, 0x83}) {
		t.Fatalf("the last bytes: %x", last)
	}
}

// The bits of the Stream are those of as many calls of Step, of each byte the highest first.
func TestStreamIsStepsInARow(t *testing.T) { // P9.2
	for _, begin := range begins {
		b := scram.Stream(begin, maxIn)
		if len(b) != maxIn {
			t.Fatal(begin, len(b))
		}
		state := begin
		for i, x := range b {
			for _, weight := range []int{128, 64, 32, 16, 8, 4, 2, 1} {
				bit, next := scram.Step(state)
				if int(x)/weight%2 != bit {
					t.Fatalf("Stream(%d, %d)[%d] = %x: its bit of weight %d isn't %d", begin, maxIn, i, x, weight, bit)
				}
				state = next
			}
		}
	}
}

func TestStreamOfAllStates(t *testing.T) { // P9.2
	for state := range states {
		streams(t, state, stream(state, 3))
	}
}

// However many bytes are told, they are the first ones of one and the same row.
func TestStreamOfEachLength(t *testing.T) { // P9.2
	for _, begin := range []int{1, 17217, -5} {
		whole := stream(begin, maxIn)
		for n := range maxIn + 1 {
			streams(t, begin, whole[:n])
		}
	}
	for _, begin := range begins {
		for _, n := range []int{0, 1, 2, 7, 8, 9, 255, 256, 257, maxIn - 1, maxIn} {
			streams(t, begin, stream(begin, n))
		}
	}
}

// Behind some bytes the Stream goes on as from the state behind their steps.
func TestStreamGoesOn(t *testing.T) { // P9.1, P9.2
	for _, begin := range begins {
		whole := scram.Stream(begin, 600)
		for _, n := range []int{0, 1, 2, 100, 511, 512, 599, 600} {
			streams(t, scram.State(begin, 8*n), whole[n:])
		}
	}
}

func TestNoStream(t *testing.T) { // P9.2
	for _, begin := range begins {
		for _, n := range slices.Concat(below, many) {
			if b := scram.Stream(begin, n); len(b) != 0 {
				t.Fatalf("Stream(%d, %d) has %d bytes", begin, n, len(b))
			}
		}
		if b := scram.Stream(begin, 0); len(b) != 0 {
			t.Fatalf("Stream(%d, 0) = %x", begin, b)
		}
	}
}

func TestDoWrittenOut(t *testing.T) { // P9.2
	for _, state := range []int{17217, 17217 + states, 17217 - states, 17217 + math.MinInt} {
		becomes(t, state, []byte("kedge"), []byte{0xe0, 0xe0, 0x5d, 0x79, 0xf3})
		becomes(t, state, []byte{0xff}, []byte{0x74})
		becomes(t, state, []byte{0, 0, 0}, []byte{0x8b, 0x85, 0x39})
	}
	becomes(t, 0, []byte("kedge"), []byte("kedge"))
	becomes(t, states, []byte("kedge"), []byte("kedge"))
}

func TestDoIsXorOfStream(t *testing.T) { // P9.2
	for _, begin := range begins {
		for _, n := range []int{1, 2, 5, 64, 96, 512, maxIn - 1, maxIn} {
			for _, b := range texts(n) {
				becomes(t, begin, b, xored(b, scram.Stream(begin, n)))
				becomes(t, begin, b, xored(b, stream(begin, n)))
			}
		}
	}
}

func TestDoOfEachByte(t *testing.T) { // P9.2
	for _, begin := range begins {
		first := scram.Stream(begin, 2)
		for i := range 256 {
			becomes(t, begin, []byte{byte(i)}, []byte{byte(i) ^ first[0]})
			becomes(t, begin, []byte{5, byte(i)}, []byte{5 ^ first[0], byte(i) ^ first[1]})
		}
	}
}

func TestDoOfNoBytes(t *testing.T) { // P9.2
	for _, begin := range begins {
		for _, none := range [][]byte{nil, {}, noise(1, 9)[:0]} {
			becomes(t, begin, none, nil)
		}
	}
}

// Of more bytes than may come in not even the first ones are told.
func TestDoOfTooMany(t *testing.T) { // P9.2
	for _, n := range []int{maxIn + 1, maxIn + 2, maxIn + 8, 2 * maxIn, 2*maxIn + 1, maxSteps, maxSteps + 1, 65536, 65537, 1 << 20} {
		for _, begin := range begins {
			becomes(t, begin, noise(n, n), nil)
		}
	}
	for _, begin := range begins {
		becomes(t, begin, make([]byte, maxIn+1), nil)
		becomes(t, begin, make([]byte, maxIn), stream(begin, maxIn))
	}
}

func TestDoneTwice(t *testing.T) { // P9.3
	for _, begin := range begins {
		for _, n := range []int{0, 1, 2, 3, 64, 512, maxIn - 1, maxIn} {
			for _, b := range texts(n) {
				becomes(t, begin, scram.Do(begin, b), b)
				becomes(t, inside(begin), scram.Do(begin, b), b)
			}
		}
	}
	for state := range states {
		b := []byte{1, 2, 3, 4}
		done := scram.Do(state, b)
		if state != 0 && bytes.Equal(scram.Do(state, make([]byte, 4)), make([]byte, 4)) {
			t.Fatalf("from the state %d nothing is changed", state)
		}
		becomes(t, state, done, b)
	}
}

// Whether other bytes are xored ahead of it or behind it is all the same.
func TestXoredAheadAndBehind(t *testing.T) { // P9.3
	for _, begin := range begins {
		for _, n := range []int{0, 1, 2, 64, 512, maxIn} {
			for _, a := range texts(n) {
				for _, b := range texts(n) {
					becomes(t, begin, xored(a, b), xored(scram.Do(begin, a), b))
				}
			}
		}
	}
}

// What is another byte at one place is another one there behind it, by the same bits, and nowhere else.
func TestOneByteIsAnotherOne(t *testing.T) { // P9.3
	for _, n := range []int{1, 2, 9, 100} {
		for _, begin := range begins {
			b := noise(n, n)
			done := scram.Do(begin, b)
			for at := range n {
				for bit := range 8 {
					b[at] ^= 1 << bit
					done[at] ^= 1 << bit
					becomes(t, begin, b, done)
				}
			}
		}
	}
	b := noise(3, maxIn)
	done := scram.Do(17217, b)
	for _, at := range []int{0, 1, 2047, maxIn - 2, maxIn - 1} {
		b[at] ^= 0x5a
		done[at] ^= 0x5a
		becomes(t, 17217, b, done)
	}
}

func TestStateIsNeverZero(t *testing.T) { // P9.3
	for state := range states {
		_, next := scram.Step(state)
		if (state == 0) != (next == 0) || next < 0 || next >= states {
			t.Fatalf("Step(%d) leads to %d", state, next)
		}
		for _, n := range []int{-1, 0, 1, 2, 7, 14, 15, 16, 17, 100} {
			if behind := scram.State(state, n); (state == 0) != (behind == 0) || behind < 0 || behind >= states {
				t.Fatalf("State(%d, %d) = %d", state, n, behind)
			}
		}
	}
	for _, begin := range begins {
		for n := 0; n <= maxSteps; n += 331 {
			if behind := scram.State(begin, n); (inside(begin) == 0) != (behind == 0) {
				t.Fatalf("State(%d, %d) = %d", begin, n, behind)
			}
		}
	}
}

func TestZeroStaysZero(t *testing.T) { // P9.3
	for _, begin := range []int{0, 32768, 65536, 1 << 32, -32768, -65536, math.MinInt, math.MaxInt - 32767} {
		steps(t, begin, 0, 0)
		for _, n := range []int{math.MinInt, -1, 0, 1, 15, maxSteps, maxSteps + 1, math.MaxInt} {
			leads(t, begin, n, 0)
		}
		streams(t, begin, make([]byte, maxIn))
		b := noise(6, maxIn)
		becomes(t, begin, b, b)
	}
}

// From any other state all of these come by turns, before the first one comes again.
func TestAllStatesComeByTurns(t *testing.T) { // P9.1, P9.3
	state, seen := 1, make([]bool, states)
	for range states - 1 {
		if seen[state] {
			t.Fatalf("%d comes too early", state)
		}
		seen[state] = true
		_, state = scram.Step(state)
	}
	if state != 1 || seen[0] {
		t.Fatal(state, seen[0])
	}
}

func TestHandedInStays(t *testing.T) { // rule 3
	for _, begin := range begins {
		for _, n := range []int{0, 1, 2, 64, maxIn, maxIn + 1} {
			b, kept := spare(noise(n, n))
			scram.Do(begin, b)
			if !kept() {
				t.Fatal(begin, n)
			}
			overwrite(scram.Do(begin, b))
			if !kept() {
				t.Fatalf("what Do of %d bytes from the state %d answers shares memory with them", n, begin)
			}
		}
	}
}

func TestAnsweredIsNew(t *testing.T) { // rule 3
	for _, begin := range begins {
		for _, n := range []int{0, 1, 2, 64, maxIn} {
			b := noise(n, n)
			want := xored(b, stream(begin, n))
			got := scram.Do(begin, b)
			overwrite(scram.Do(begin, b))
			overwrite(b)
			if !bytes.Equal(got, want) {
				t.Fatalf("what Do of %d bytes from the state %d answers became another text", n, begin)
			}
			row := scram.Stream(begin, n)
			overwrite(scram.Stream(begin, n))
			if !bytes.Equal(row, stream(begin, n)) {
				t.Fatalf("two answers of Stream(%d, %d) share memory", begin, n)
			}
			streams(t, begin, stream(begin, n))
		}
	}
}

// Nothing of one call is kept for the next one.
func TestSameCallsSameAnswers(t *testing.T) { // rules 3 and 4
	b := []byte("kedge")
	for range 3 {
		steps(t, 16384, 1, 1)
		leads(t, 17217, 100, 30706)
		streams(t, 17217, []byte{0x8b, 0x85, 0x39})
		becomes(t, 17217, b, []byte{0xe0, 0xe0, 0x5d, 0x79, 0xf3})
		becomes(t, 1, b, []byte{'k', 'e' ^ 6, 'd', 'g' ^ 0x14, 'e'})
		b[0] = 0
		becomes(t, 17217, b, []byte{0x8b, 0xe0, 0x5d, 0x79, 0xf3})
		b[0] = 'k'
		becomes(t, 0, b, b)
		becomes(t, 5, make([]byte, maxIn+1), nil)
		steps(t, 1, 0, 2)
	}
}
