package slide_test

import (
	"bytes"
	"encoding/binary"
	"kedge/api"
	"kedge/crc"
	"kedge/frame"
	"kedge/slide"
	"math"
	"slices"
	"testing"
)

// The numbers that the document names, written out, so that the tests hold whatever api says.
const (
	maxData   = 64
	maxMod    = 65536
	errArg    = api.Errno(1)
	errPacket = api.Errno(130)
)

// mods are what numbers may be modulo.
var mods = []int{1, 2, 3, 127, 128, 255, 256, 257, 258, 300, 512, 4096, 32767, 32768, 32769, 65279, 65280, 65281, maxMod - 1, maxMod}

// wrongMods are what they may not be, such as would do if they were cut short or turned about among them.
var wrongMods = []int{
	0, -1, -2, -255, -256, -maxMod, -maxMod - 1, -1 << 31, -1<<31 + 1, -1 << 32, 1 - 1<<32, 300 - 1<<32, math.MinInt, math.MinInt + 1, math.MinInt + 300,
	maxMod + 1, maxMod + 2, 2 * maxMod, 1 << 24, math.MaxInt32, 1 << 31, 1 << 32, 1<<32 + 1, 1<<32 + 300, 1<<32 + maxMod, 1 << 62, math.MaxInt - 1, math.MaxInt,
}

// seqs are numbers of packets, at the edges of each m and far from them, such as become small if they are cut short among them.
var seqs = []int{
	0, 1, 2, 3, 126, 127, 128, 254, 255, 256, 257, 258, 259, 299, 300, 301, 511, 512, 513, 4095, 4096, 32766, 32767, 32768, 32769, 65278, 65279, 65280, 65281, 65534, 65535, 65536, 65537, 65792,
	-1, -2, -255, -256, -257, -300, -32768, -65535, -65536, -65537, 1 << 24, 1<<24 + 1, math.MaxInt32, 1 << 31, 1 << 32, 1<<32 + 1, 1<<32 + 258, 1 << 62, math.MaxInt - 1, math.MaxInt,
	-1 << 31, -1 << 32, 1 - 1<<32, 258 - 1<<32, math.MinInt, math.MinInt + 1, math.MinInt + 258,
}

// masks are Bits of many sizes.
var masks = []uint64{0, 1, 2, 3, 255, 256, 257, 65535, 65536, 1<<31 - 1, 1 << 31, 1<<32 - 1, 1 << 32, 1<<32 + 1, 1 << 56, 1<<63 - 1, 1 << 63, 1<<63 + 1, 0x0102030405060708, 0x7e7d7e7d7e7d7e7d, 0xfedcba9876543210, math.MaxUint64 - 1, math.MaxUint64}

// lengths are numbers of bytes, those at the edges among them.
var lengths = []int{0, 1, 2, 3, 7, 8, 9, 10, 11, 12, 31, 32, 33, 62, 63, 64, 65, 66, 67, 95, 96, 97, 127, 128, 129, 255, 256, 257, 300, 320, 512, 513, 4096, 65535, 65536, 65537, 65600}

// noise is n bytes that look like noise, the same ones in each run.
func noise(begin, n int) []byte {
	x := uint64(begin)
	b := make([]byte, n)
	for i := range b {
		x = x*6364136223846793005 + 1442695040888963407
		b[i] = byte(x >> 33)
	}
	return b
}

// texts are n bytes each: noise, bits that are all alike, bytes that look like a packet's beginning, and such as are escaped.
func texts(n int) [][]byte {
	heads := make([]byte, n)
	for i := range heads {
		heads[i] = byte(i % 3)
	}
	return [][]byte{noise(n+1, n), make([]byte, n), bytes.Repeat([]byte{0xff}, n), heads, bytes.Repeat([]byte{0x7e}, n), bytes.Repeat([]byte{0x7d, 0x7e}, n)[:n]}
}

// acks is an Ack of these.
func acks(seq int, bits uint64) api.Slide {
	return api.Slide{Ack: true, Seq: seq, Bits: bits}
}

// tells is another packet, of these.
func tells(seq int, b []byte) api.Slide {
	return api.Slide{Seq: seq, Data: b}
}

// put is what P14.1 makes of a packet; the second one tells whether the packet is right.
func put(s api.Slide, m int) ([]byte, bool) {
	if s.Seq < 0 || s.Seq > m-1 {
		return nil, false
	}
	seq := binary.BigEndian.AppendUint16(nil, uint16(s.Seq))
	switch {
	case s.Ack && len(s.Data) == 0:
		return binary.BigEndian.AppendUint64(slices.Concat([]byte{1}, seq), s.Bits), true
	case !s.Ack && s.Bits == 0 && len(s.Data) <= maxData:
		return slices.Concat([]byte{0}, seq, s.Data), true
	}
	return nil, false
}

// get is the right packet of which put, with that m, makes b, and whether there is one: the packet is guessed from b, and put tells whether it's the one.
func get(b []byte, m int) (api.Slide, bool) {
	if len(b) < 3 {
		return api.Slide{}, false
	}
	guesses := []api.Slide{tells(int(binary.BigEndian.Uint16(b[1:])), b[3:])}
	if len(b) >= 11 {
		guesses = append(guesses, acks(int(binary.BigEndian.Uint16(b[1:])), binary.BigEndian.Uint64(b[3:])))
	}
	for _, s := range guesses {
		if made, ok := put(s, m); ok && bytes.Equal(made, b) {
			return s, true
		}
	}
	return api.Slide{}, false
}

// same is whether two packets are the same, told field by field.
func same(a, b api.Slide) bool {
	return a.Ack == b.Ack && a.Seq == b.Seq && a.Bits == b.Bits && string(a.Data) == string(b.Data)
}

// rightOf are right packets with numbers modulo m: Acks of many Bits, and others with many messages.
func rightOf(m int) []api.Slide {
	var all []api.Slide
	for _, seq := range seqs {
		if seq < 0 || seq >= m {
			continue
		}
		for _, bits := range masks {
			all = append(all, acks(seq, bits))
		}
		for _, n := range []int{0, 1, 2, 7, 8, 9, 31, maxData - 1, maxData} {
			for _, b := range texts(n) {
				all = append(all, tells(seq, b))
			}
		}
	}
	return all
}

// puts fails the test if Put doesn't make these bytes of a packet.
func puts(t *testing.T, s api.Slide, m int, want []byte) {
	t.Helper()
	if b, err := slide.Put(s, m); !bytes.Equal(b, want) || err != api.OK {
		t.Fatalf("Put(%v, %d) = %x, %d, not %x", s, m, b, err, want)
	}
}

// putsNone fails the test if Put doesn't answer this error alone.
func putsNone(t *testing.T, s api.Slide, m int, want api.Errno) {
	t.Helper()
	if b, err := slide.Put(s, m); len(b) != 0 || err != want {
		t.Fatalf("Put of %t, %d, %d and %d bytes with m %d = %x, %d, not %d", s.Ack, s.Seq, s.Bits, len(s.Data), m, b, err, want)
	}
}

// putsAsSaid fails the test if Put doesn't answer what P14.1 says; m is one that may be.
func putsAsSaid(t *testing.T, s api.Slide, m int) {
	t.Helper()
	if want, ok := put(s, m); ok {
		puts(t, s, m, want)
	} else {
		putsNone(t, s, m, errPacket)
	}
}

// gets fails the test if Get doesn't find this packet.
func gets(t *testing.T, b []byte, m int, want api.Slide) {
	t.Helper()
	if s, err := slide.Get(b, m); !same(s, want) || err != api.OK {
		t.Fatalf("Get(%x, %d) = %v, %d, not %v", b, m, s, err, want)
	}
}

// getsNone fails the test if Get doesn't answer this error alone.
func getsNone(t *testing.T, b []byte, m int, want api.Errno) {
	t.Helper()
	if s, err := slide.Get(b, m); s.Ack || s.Seq != 0 || s.Bits != 0 || len(s.Data) != 0 || err != want {
		t.Fatalf("Get of %d bytes with m %d = %v, %d, not %d", len(b), m, s, err, want)
	}
}

// getsAsSaid fails the test if Get doesn't answer what P14.2 says; m is one that may be.
func getsAsSaid(t *testing.T, b []byte, m int) {
	t.Helper()
	if want, ok := get(b, m); ok {
		gets(t, b, m, want)
	} else {
		getsNone(t, b, m, errPacket)
	}
}

// holds fails the test if Same doesn't tell this of two packets, whichever stands first.
func holds(t *testing.T, a, b api.Slide, want bool) {
	t.Helper()
	if slide.Same(a, b) != want || slide.Same(b, a) != want {
		t.Fatalf("Same(%v, %v) isn't %t", a, b, want)
	}
}

// spare answers b with room behind it in which a guard stands, and a function that tells whether b and the guard are as they were.
func spare(b []byte) ([]byte, func() bool) {
	whole := slices.Concat([]byte{7}, b, []byte{8, 9, 10, 11, 12, 13, 14, 15, 16, 17, 18, 19})
	was := bytes.Clone(whole)
	return whole[1 : 1+len(b)], func() bool { return bytes.Equal(whole, was) }
}

// overwrite puts other bytes in all of b's memory, up to its capacity.
func overwrite(b []byte) {
	b = b[:cap(b)]
	for i := range b {
		b[i] = ^b[i]
	}
}

func TestExample(t *testing.T) { // P14.1, P14.2
	s := tells(258, []byte("a"))
	puts(t, s, 300, []byte{0, 1, 2, 97})
	putsNone(t, s, 258, errPacket)
	gets(t, []byte{0, 1, 2, 97}, 300, s)
	getsNone(t, []byte{0, 1, 2, 97}, 258, errPacket)
}

// Packets written out, with the least m that they are right with, and the one below it.
func TestPacketsWrittenOut(t *testing.T) { // P14.1, P14.2
	for _, c := range []struct {
		s    api.Slide
		want []byte
	}{
		{api.Slide{}, []byte{0, 0, 0}},
		{api.Slide{Ack: true}, []byte{1, 0, 0, 0, 0, 0, 0, 0, 0, 0, 0}},
		{acks(1, 1), []byte{1, 0, 1, 0, 0, 0, 0, 0, 0, 0, 1}},
		{acks(255, 1<<63), []byte{1, 0, 255, 128, 0, 0, 0, 0, 0, 0, 0}},
		{acks(256, math.MaxUint64), []byte{1, 1, 0, 255, 255, 255, 255, 255, 255, 255, 255}},
		{acks(65535, 0x0102030405060708), []byte{1, 255, 255, 1, 2, 3, 4, 5, 6, 7, 8}},
		{tells(1, []byte("kedge")), []byte{0, 0, 1, 'k', 'e', 'd', 'g', 'e'}},
		{tells(299, []byte{0}), []byte{0, 1, 43, 0}},
		{tells(65535, nil), []byte{0, 255, 255}},
		{tells(772, []byte{1, 2, 3, 4, 5, 6, 7, 8}), []byte{0, 3, 4, 1, 2, 3, 4, 5, 6, 7, 8}},
		{tells(32768, make([]byte, maxData)), append([]byte{0, 128, 0}, make([]byte, maxData)...)},
	} {
		for _, m := range []int{c.s.Seq + 1, maxMod} {
			puts(t, c.s, m, c.want)
			gets(t, c.want, m, c.s)
		}
		below := errPacket
		if c.s.Seq == 0 {
			below = errArg
		}
		putsNone(t, c.s, c.s.Seq, below)
		getsNone(t, c.want, c.s.Seq, below)
	}
}

func TestPutOfRightPackets(t *testing.T) { // P14.1
	for _, m := range mods {
		for _, s := range rightOf(m) {
			want, ok := put(s, m)
			if !ok {
				t.Fatal("the tests' own packets", s, m)
			}
			puts(t, s, m, want)
		}
	}
	for n := range maxData + 1 {
		for _, b := range texts(n) {
			puts(t, tells(5, b), 6, slices.Concat([]byte{0, 0, 5}, b))
		}
	}
	for x := range 256 {
		puts(t, tells(x, []byte{byte(x)}), 256, []byte{0, 0, byte(x), byte(x)})
	}
}

// Each number, with the m that is one above it, and with the m that it is.
func TestPutOfEachSeq(t *testing.T) { // P14.1
	for seq := range maxMod {
		high, low := byte(seq/256), byte(seq%256)
		puts(t, tells(seq, []byte{9}), seq+1, []byte{0, high, low, 9})
		puts(t, acks(seq, 5), seq+1, []byte{1, high, low, 0, 0, 0, 0, 0, 0, 0, 5})
		if seq > 0 {
			putsNone(t, tells(seq, []byte{9}), seq, errPacket)
			putsNone(t, acks(seq, 5), seq, errPacket)
		}
	}
}

// Each bit of Bits has its place.
func TestPutOfEachBit(t *testing.T) { // P14.1
	for i := range 64 {
		want := make([]byte, 11)
		want[0], want[2], want[10-i/8] = 1, 7, 1<<(i%8)
		puts(t, acks(7, 1<<i), 8, want)
		gets(t, want, 8, acks(7, 1<<i))
		putsNone(t, api.Slide{Seq: 7, Bits: 1 << i}, 8, errPacket)
	}
}

// Numbers, Bits and lengths at their edges and beyond, wrong in one way, in two, and in all.
func TestPutOfAnyPacket(t *testing.T) { // P14.1
	for _, n := range lengths {
		b := noise(n, n)
		for _, m := range mods {
			for _, seq := range seqs {
				for _, bits := range []uint64{0, 1, 256, 1 << 32, 1 << 63, math.MaxUint64} {
					putsAsSaid(t, api.Slide{Ack: true, Seq: seq, Bits: bits, Data: b}, m)
					putsAsSaid(t, api.Slide{Seq: seq, Bits: bits, Data: b}, m)
				}
			}
		}
	}
	for m := 1; m < 300; m++ {
		for seq := -300; seq < 600; seq++ {
			putsAsSaid(t, acks(seq, 3), m)
			putsAsSaid(t, tells(seq, []byte("a")), m)
		}
	}
}

func TestPutOfWrongPackets(t *testing.T) { // P14.1
	long := noise(1, maxData+1)
	for _, m := range mods {
		for _, seq := range []int{-1, m, m + 1, -m, math.MinInt, math.MaxInt} {
			for _, b := range [][]byte{nil, {}, {0}, []byte("a"), long} {
				for _, bits := range []uint64{0, 1, 1 << 63} {
					putsNone(t, api.Slide{Ack: true, Seq: seq, Bits: bits, Data: b}, m, errPacket)
					putsNone(t, api.Slide{Seq: seq, Bits: bits, Data: b}, m, errPacket)
				}
			}
		}
		for _, seq := range []int{0, m - 1} {
			for _, bits := range masks {
				putsNone(t, api.Slide{Ack: true, Seq: seq, Bits: bits, Data: []byte{0}}, m, errPacket)
				putsNone(t, api.Slide{Ack: true, Seq: seq, Bits: bits, Data: long}, m, errPacket)
				putsNone(t, api.Slide{Seq: seq, Bits: bits, Data: long}, m, errPacket)
				if bits > 0 {
					putsNone(t, api.Slide{Seq: seq, Bits: bits}, m, errPacket)
					putsNone(t, api.Slide{Seq: seq, Bits: bits, Data: []byte("a")}, m, errPacket)
				}
			}
			puts(t, api.Slide{Ack: true, Seq: seq, Bits: 1, Data: []byte{}}, m, []byte{1, byte(seq >> 8), byte(seq), 0, 0, 0, 0, 0, 0, 0, 1})
			puts(t, api.Slide{Seq: seq, Data: []byte{}}, m, []byte{0, byte(seq >> 8), byte(seq)})
		}
	}
}

// An m that may not be is told ahead of all else, of right packets as of wrong ones.
func TestPutWithWrongMods(t *testing.T) { // P14.1
	for _, m := range wrongMods {
		for _, seq := range append([]int{m - 1, m}, seqs...) {
			for _, n := range []int{0, 1, maxData, maxData + 1} {
				for _, bits := range []uint64{0, 1, 1 << 63} {
					putsNone(t, api.Slide{Ack: true, Seq: seq, Bits: bits, Data: noise(n, n)}, m, errArg)
					putsNone(t, api.Slide{Seq: seq, Bits: bits, Data: noise(n, n)}, m, errArg)
				}
			}
		}
	}
	for m := -1000; m < 1; m++ {
		putsNone(t, api.Slide{}, m, errArg)
		putsNone(t, api.Slide{}, maxMod+1-m, errArg)
	}
}

// How many bytes there are counts, not for how many there is room.
func TestPutOfDataWithRoom(t *testing.T) { // P14.1
	roomy := make([]byte, maxData, 4096)
	puts(t, tells(1, roomy), 2, append([]byte{0, 0, 1}, make([]byte, maxData)...))
	puts(t, api.Slide{Ack: true, Data: roomy[:0]}, 2, make11(1))
	putsNone(t, tells(1, roomy[:maxData+1]), 2, errPacket)
}

// make11 is eleven bytes, of which all but the first are 0.
func make11(first byte) []byte {
	return append([]byte{first}, make([]byte, 10)...)
}

func TestGetTooFewBytes(t *testing.T) { // P14.2
	for _, m := range mods {
		for _, b := range [][]byte{nil, {}, noise(1, 9)[:0]} {
			getsNone(t, b, m, errPacket)
		}
		for x := range 256 {
			getsNone(t, []byte{byte(x)}, m, errPacket)
			getsNone(t, []byte{byte(x), 0}, m, errPacket)
			getsNone(t, []byte{0, byte(x)}, m, errPacket)
			getsNone(t, []byte{1, byte(x)}, m, errPacket)
			getsNone(t, []byte{byte(x), 0, 0, 0}[:2], m, errPacket)
		}
	}
}

func TestGetThreeBytes(t *testing.T) { // P14.2
	for _, m := range mods {
		for x := range 256 {
			for _, seq := range seqs {
				getsAsSaid(t, []byte{byte(x), byte(seq >> 8), byte(seq)}, m)
			}
		}
		gets(t, []byte{0, byte((m - 1) >> 8), byte(m - 1)}, m, tells(m-1, nil))
		getsNone(t, []byte{1, byte((m - 1) >> 8), byte(m - 1)}, m, errPacket)
		if m < maxMod {
			getsNone(t, []byte{0, byte(m >> 8), byte(m)}, m, errPacket)
		}
	}
}

// First bytes of all kinds, ahead of what would be an Ack's, or another packet's.
func TestGetFirstByte(t *testing.T) { // P14.2
	for x := range 256 {
		for _, n := range lengths {
			b := append([]byte{byte(x), 0, 3}, noise(n, n)...)
			getsAsSaid(t, b, 4)
			getsAsSaid(t, b, 3)
			getsAsSaid(t, b, maxMod)
			if x > 1 {
				getsNone(t, b, maxMod, errPacket)
			}
		}
	}
}

func TestGetOfAcks(t *testing.T) { // P14.2
	for n := range 40 {
		b := append([]byte{1, 0, 5}, noise(n, n)...)
		getsAsSaid(t, b, 6)
		getsNone(t, b, 5, errPacket)
		if _, err := slide.Get(b, 6); (err == api.OK) != (n == 8) {
			t.Fatal(n, err)
		}
	}
	for _, m := range mods {
		for _, seq := range seqs {
			for _, bits := range masks {
				b := binary.BigEndian.AppendUint64([]byte{1, byte(seq >> 8), byte(seq)}, bits)
				getsAsSaid(t, b, m)
				getsNone(t, b[:10], m, errPacket)
				getsNone(t, append(b, 0), m, errPacket)
			}
		}
	}
}

func TestGetOfOthers(t *testing.T) { // P14.2
	for _, m := range mods {
		for _, seq := range seqs {
			for _, n := range lengths[:24] {
				getsAsSaid(t, append([]byte{0, byte(seq >> 8), byte(seq)}, noise(n, n)...), m)
			}
		}
	}
	for n := range 2 * maxData {
		for _, text := range texts(n) {
			b := append([]byte{0, 0, 1}, text...)
			getsAsSaid(t, b, 2)
			getsNone(t, b, 1, errPacket)
			if _, err := slide.Get(b, 2); (err == api.OK) != (n <= maxData) {
				t.Fatal(n, err)
			}
		}
	}
	for _, n := range []int{maxData + 1, 1 << 20} {
		for x := range 3 {
			getsNone(t, append([]byte{byte(x), 0, 0}, noise(n, n)...), 1, errPacket)
		}
	}
}

// Each number, with the m that is one above it, and with the m that it is.
func TestGetOfEachSeq(t *testing.T) { // P14.2
	for seq := range maxMod {
		high, low := byte(seq/256), byte(seq%256)
		told, ack := []byte{0, high, low, 9}, []byte{1, high, low, 0, 0, 0, 0, 0, 0, 0, 5}
		gets(t, told, seq+1, tells(seq, []byte{9}))
		gets(t, ack, seq+1, acks(seq, 5))
		if seq > 0 {
			getsNone(t, told, seq, errPacket)
			getsNone(t, ack, seq, errPacket)
		}
	}
}

// An m that may not be is told ahead of all else, of a packet's bytes as of others.
func TestGetWithWrongMods(t *testing.T) { // P14.2
	for _, m := range wrongMods {
		for _, b := range [][]byte{nil, {}, {0}, {0, 0}, {0, 0, 0}, {0, 0, 1, 97}, {2, 0, 0}, {0, 255, 255}, make11(1), make11(1)[:10], make11(9), make([]byte, 3+maxData), make([]byte, 4+maxData), noise(1, 1000)} {
			getsNone(t, b, m, errArg)
		}
	}
}

// Bytes that nobody made, of all short lengths.
func TestGetOfNoise(t *testing.T) { // P14.2
	for n := range 100 {
		for i := range 200 {
			b := noise(1000*n+i, n)
			for _, m := range []int{1, 2, 256, 257, 300, maxMod} {
				getsAsSaid(t, b, m)
				if n > 0 {
					b[0] &= 1
					getsAsSaid(t, b, m)
				}
			}
		}
	}
}

func TestSameOfRightPackets(t *testing.T) { // P14.2
	all := rightOf(300)
	for i := 0; i < len(all); i += 7 {
		for j := 0; j < len(all); j += 3 {
			holds(t, all[i], all[j], same(all[i], all[j]))
		}
	}
	for _, s := range all {
		s2 := s
		s2.Data = bytes.Clone(s.Data)
		holds(t, s, s, true)
		holds(t, s, s2, true)
	}
}

// Packets that are not right are the same or not, too.
func TestSameOfAnyPackets(t *testing.T) { // P14.2
	for _, b := range [][]byte{nil, []byte("a"), noise(2, maxData), noise(3, maxData+1), noise(4, 1000)} {
		for _, seq := range seqs {
			for _, another := range seqs {
				holds(t, api.Slide{Ack: true, Seq: seq, Bits: 9, Data: b}, api.Slide{Ack: true, Seq: another, Bits: 9, Data: bytes.Clone(b)}, seq == another)
				holds(t, tells(seq, b), tells(another, bytes.Clone(b)), seq == another)
			}
			for _, bits := range masks {
				holds(t, api.Slide{Seq: seq, Bits: bits, Data: b}, api.Slide{Ack: true, Seq: seq, Bits: bits, Data: bytes.Clone(b)}, false)
				holds(t, api.Slide{Seq: seq, Bits: bits, Data: b}, api.Slide{Seq: seq, Bits: bits, Data: bytes.Clone(b)}, true)
			}
		}
		for _, bits := range masks {
			for _, another := range masks {
				holds(t, api.Slide{Ack: true, Bits: bits, Data: b}, api.Slide{Ack: true, Bits: another, Data: bytes.Clone(b)}, bits == another)
				holds(t, api.Slide{Seq: -1, Bits: bits, Data: b}, api.Slide{Seq: -1, Bits: another, Data: bytes.Clone(b)}, bits == another)
			}
		}
	}
	holds(t, api.Slide{Seq: 1, Bits: 2}, api.Slide{Seq: 2, Bits: 1}, false)
}

func TestSameByteByByte(t *testing.T) { // P14.2
	for _, n := range []int{1, 2, 3, 8, maxData - 1, maxData, maxData + 1, 300} {
		s := tells(1, noise(n, n))
		for i := range n {
			for _, mask := range []byte{1, 0x20, 0x80, 0xff} {
				q := tells(1, bytes.Clone(s.Data))
				q.Data[i] ^= mask
				holds(t, s, q, false)
			}
			holds(t, s, tells(1, s.Data[:i]), false)
			holds(t, s, tells(1, s.Data[i+1:]), false)
		}
		holds(t, s, tells(1, append(bytes.Clone(s.Data), 0)), false)
		holds(t, tells(0, make([]byte, n)), tells(0, make([]byte, n+1)), false)
		holds(t, tells(0, make([]byte, n)), tells(0, nil), false)
	}
	holds(t, tells(1, []byte("ab")), tells(1, []byte("ba")), false)
}

func TestSameOfNoData(t *testing.T) { // P14.2
	for _, seq := range seqs {
		for _, bits := range masks {
			for _, is := range []bool{false, true} {
				s := api.Slide{Ack: is, Seq: seq, Bits: bits}
				for _, b := range [][]byte{nil, {}, noise(1, 9)[:0]} {
					q := s
					q.Data = b
					holds(t, s, q, true)
					q.Data = []byte{0}
					holds(t, s, q, false)
				}
			}
		}
	}
}

func TestThereAndBack(t *testing.T) { // P14.3
	for _, m := range mods {
		for _, s := range rightOf(m) {
			b, err := slide.Put(s, m)
			if err != api.OK {
				t.Fatal(s, m, err)
			}
			q, err := slide.Get(b, m)
			if err != api.OK || !same(s, q) || !slide.Same(s, q) {
				t.Fatalf("%v came back as %v, %d", s, q, err)
			}
		}
	}
}

func TestBackAndThere(t *testing.T) { // P14.3
	taken := 0
	back := func(b []byte, m int) {
		if s, err := slide.Get(b, m); err == api.OK {
			puts(t, s, m, b)
			taken++
		}
	}
	for _, m := range mods {
		for x := range 256 {
			for n := range 80 {
				back(append([]byte{byte(x), 0, byte(n)}, noise(n, n)...), m)
				back(noise(x, n), m)
			}
		}
	}
	if taken < 1000 {
		t.Fatal(taken)
	}
}

// The frame of a packet goes there and back, too, and no packet is too long for one.
func TestInFrames(t *testing.T) { // P14.3
	table := crc.New()
	for _, s := range rightOf(300) {
		b, err := slide.Put(s, 300)
		if err != api.OK {
			t.Fatal(s, err)
		}
		w, err := frame.Wrap(table, b)
		if err != api.OK {
			t.Fatal(s, err)
		}
		body, err := frame.Open(table, w)
		if err != api.OK {
			t.Fatal(s, err)
		}
		gets(t, body, 300, s)
	}
}

func TestPutLeavesDataAlone(t *testing.T) { // P14.1, rule 3
	for n := range maxData + 2 {
		for _, is := range []bool{false, true} {
			b, untouched := spare(noise(n, n))
			s := api.Slide{Ack: is, Seq: n, Data: b}
			want, _ := put(s, 300)
			out, _ := slide.Put(s, 300)
			again, _ := slide.Put(s, 300)
			overwrite(again)
			if !untouched() || !bytes.Equal(out, want) {
				t.Fatalf("what Put made of %d bytes shares memory with what it was given or with another answer", n)
			}
			overwrite(b)
			if !bytes.Equal(out, want) {
				t.Fatalf("what Put made of %d bytes hangs on them still", n)
			}
		}
	}
}

func TestGetLeavesBytesAlone(t *testing.T) { // P14.2, rule 3
	for n := range maxData + 2 {
		for x := range 3 {
			b, untouched := spare(append([]byte{byte(x), 1, 2}, noise(n, n)...))
			was := bytes.Clone(b)
			want, _ := get(was, 300)
			out, _ := slide.Get(b, 300)
			again, _ := slide.Get(b, 300)
			overwrite(again.Data)
			if !untouched() || !same(out, want) {
				t.Fatalf("what Get found in %x shares memory with it or with another answer", was)
			}
			overwrite(b)
			if !same(out, want) {
				t.Fatalf("what Get found in %x hangs on it still", was)
			}
		}
	}
}

func TestSameLeavesDataAlone(t *testing.T) { // P14.2, rule 3
	for n := range maxData + 2 {
		a, first := spare(noise(n, n))
		b, second := spare(noise(n, n))
		holds(t, tells(1, a), tells(1, b), true)
		if !first() || !second() {
			t.Fatal(n)
		}
	}
}

// What is answered hangs on what is handed in alone, not on what was asked ahead of it.
func TestNothingIsKept(t *testing.T) { // rule 4
	all := rightOf(300)
	check := func(i int) {
		s := all[i]
		putsNone(t, s, 0, errArg)
		putsNone(t, tells(-1, s.Data), 300, errPacket)
		putsAsSaid(t, s, 300)
		b, _ := put(s, 300)
		getsNone(t, b, maxMod+1, errArg)
		getsNone(t, append([]byte{3}, b...), 300, errPacket)
		getsAsSaid(t, b, 300)
		holds(t, s, all[len(all)-1-i], same(s, all[len(all)-1-i]))
	}
	for i := range all {
		check(i)
	}
	for i := range all {
		check(len(all) - 1 - i)
	}
}
