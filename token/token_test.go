package token_test

import (
	"bytes"
	"encoding/binary"
	"kedge/api"
	"kedge/crc"
	"kedge/frame"
	"kedge/token"
	"math"
	"slices"
	"testing"
)

// The numbers that the document names, written out, so that the tests hold whatever api says.
const (
	req       = 0
	chal      = 1
	data      = 2
	ack       = 3
	maxData   = 64
	errPacket = api.Errno(130)
)

// kinds are those that there are.
var kinds = []int{req, chal, data, ack}

// wrongKinds are others, such as would do if they were cut short or turned about among them.
var wrongKinds = []int{
	-1, -2, -3, -4, -128, -253, -254, -255, -256, -257, -65535, -65536, -1 << 31, -1<<31 + 1, -1<<31 + 2, -1 << 32, 1 - 1<<32, 2 - 1<<32, math.MinInt, math.MinInt + 1, math.MinInt + 2, math.MinInt + 3,
	4, 5, 6, 7, 8, 16, 48, 49, 127, 128, 253, 254, 255, 256, 257, 258, 259, 260, 65536, 65537, math.MaxInt32, 1 << 31, 1<<31 + 1, 1 << 32, 1<<32 + 1, 1<<32 + 2, 1<<32 + 3, 1 << 62, math.MaxInt - 1, math.MaxInt,
}

// values are numbers of many sizes, each of its own bytes.
var values = []uint64{0, 1, 2, 3, 127, 128, 255, 256, 257, 65535, 65536, 1<<31 - 1, 1 << 31, 1<<32 - 1, 1 << 32, 1<<32 + 1, 1 << 56, 1<<63 - 1, 1 << 63, 1<<63 + 1, 0x0102030405060708, 0x7e7d7e7d7e7d7e7d, 0xfedcba9876543210, math.MaxUint64 - 1, math.MaxUint64}

// edges are the values that the chapter's numbers have at their edges.
var edges = []uint64{0, 1, 1 << 63, math.MaxUint64}

// lengths are numbers of bytes, those at the edges among them.
var lengths = []int{0, 1, 2, 3, 7, 8, 9, 10, 15, 16, 17, 23, 24, 25, 31, 32, 33, 62, 63, 64, 65, 66, 67, 71, 72, 73, 79, 80, 81, 87, 88, 89, 95, 96, 97, 127, 128, 129, 255, 256, 257, 300, 320, 512, 513, 4096, 65535, 65536, 65537, 65600}

// noise is n bytes that look like noise, the same ones in each run.
func noise(begin, n int) []byte {
	x := uint64(begin)
	b := make([]byte, n)
	for i := range b {
		x = x*6364136223846793005 + 1442695040888963407
		b[i] = byte(x >> 33)
	}
	return b
}

// texts are n bytes each: noise, bits that are all alike, bytes that look like a packet's beginning, and such as are escaped.
func texts(n int) [][]byte {
	heads := make([]byte, n)
	for i := range heads {
		heads[i] = byte(i % 5)
	}
	return [][]byte{noise(n+1, n), make([]byte, n), bytes.Repeat([]byte{0xff}, n), heads, bytes.Repeat([]byte{0x7e}, n), bytes.Repeat([]byte{0x7d, 0x7e}, n)[:n]}
}

// eight are a number's bytes.
func eight(n uint64) []byte {
	return binary.BigEndian.AppendUint64(nil, n)
}

// reqs, chals, datas and acks are packets of each Kind, of what it has.
func reqs(t uint64) api.Token        { return api.Token{T: t} }
func chals(t, c, r uint64) api.Token { return api.Token{Kind: chal, T: t, C: c, R: r} }
func acks(t, r uint64) api.Token     { return api.Token{Kind: ack, T: t, R: r} }
func datas(t, c uint64, b []byte) api.Token {
	return api.Token{Kind: data, T: t, C: c, Data: b}
}

// put is what P15.1 makes of a packet; the second one tells whether the packet is right.
func put(p api.Token) ([]byte, bool) {
	t, c, r := eight(p.T), eight(p.C), eight(p.R)
	switch {
	case p.Kind == req && p.C == 0 && p.R == 0 && len(p.Data) == 0:
		return slices.Concat([]byte{0}, t), true
	case p.Kind == chal && len(p.Data) == 0:
		return slices.Concat([]byte{1}, t, c, r), true
	case p.Kind == data && p.R == 0 && len(p.Data) <= maxData:
		return slices.Concat([]byte{2}, t, c, p.Data), true
	case p.Kind == ack && p.C == 0 && len(p.Data) == 0:
		return slices.Concat([]byte{3}, t, r), true
	}
	return nil, false
}

// get is the right packet of which put makes b, and whether there is one: the packet is guessed from b, and put tells whether it's the one.
func get(b []byte) (api.Token, bool) {
	number := func(i int) uint64 {
		if len(b) < 9+8*i {
			return 0
		}
		return binary.BigEndian.Uint64(b[1+8*i:])
	}
	guesses := []api.Token{reqs(number(0)), chals(number(0), number(1), number(2)), acks(number(0), number(1))}
	if len(b) >= 17 {
		guesses = append(guesses, datas(number(0), number(1), b[17:]))
	}
	for _, p := range guesses {
		if made, ok := put(p); ok && bytes.Equal(made, b) {
			return p, true
		}
	}
	return api.Token{}, false
}

// same is whether two packets are the same, told field by field.
func same(a, b api.Token) bool {
	return a.Kind == b.Kind && a.T == b.T && a.C == b.C && a.R == b.R && string(a.Data) == string(b.Data)
}

// rightOnes are right packets of each Kind, with numbers of many sizes, alike and unlike one another, and with many messages.
func rightOnes() []api.Token {
	var all []api.Token
	for i, t := range values {
		all = append(all, reqs(t))
		for j, c := range values {
			all = append(all, acks(t, c), datas(t, c, noise(i*len(values)+j, (i*len(values)+j)%(maxData+1))))
			for _, r := range values {
				all = append(all, chals(t, c, r))
			}
		}
	}
	for n := range maxData + 1 {
		for _, b := range texts(n) {
			all = append(all, datas(0, 0, b), datas(5, 6, b), datas(1<<63, math.MaxUint64, b))
		}
	}
	return all
}

// puts fails the test if Put doesn't make these bytes of a packet.
func puts(t *testing.T, p api.Token, want []byte) {
	t.Helper()
	if b, err := token.Put(p); !bytes.Equal(b, want) || err != api.OK {
		t.Fatalf("Put(%v) = %x, %d, not %x", p, b, err, want)
	}
}

// putsNone fails the test if Put doesn't answer ErrPacket alone.
func putsNone(t *testing.T, p api.Token) {
	t.Helper()
	if b, err := token.Put(p); len(b) != 0 || err != errPacket {
		t.Fatalf("Put of %d, %d, %d, %d and %d bytes = %x, %d", p.Kind, p.T, p.C, p.R, len(p.Data), b, err)
	}
}

// putsAsSaid fails the test if Put doesn't answer what P15.1 says.
func putsAsSaid(t *testing.T, p api.Token) {
	t.Helper()
	if want, ok := put(p); ok {
		puts(t, p, want)
	} else {
		putsNone(t, p)
	}
}

// gets fails the test if Get doesn't find this packet.
func gets(t *testing.T, b []byte, want api.Token) {
	t.Helper()
	if p, err := token.Get(b); !same(p, want) || err != api.OK {
		t.Fatalf("Get(%x) = %v, %d, not %v", b, p, err, want)
	}
}

// getsNone fails the test if Get doesn't answer ErrPacket alone.
func getsNone(t *testing.T, b []byte) {
	t.Helper()
	if p, err := token.Get(b); p.Kind != 0 || p.T != 0 || p.C != 0 || p.R != 0 || len(p.Data) != 0 || err != errPacket {
		t.Fatalf("Get of %d bytes = %v, %d", len(b), p, err)
	}
}

// getsAsSaid fails the test if Get doesn't answer what P15.2 says.
func getsAsSaid(t *testing.T, b []byte) {
	t.Helper()
	if want, ok := get(b); ok {
		gets(t, b, want)
	} else {
		getsNone(t, b)
	}
}

// holds fails the test if Same doesn't tell this of two packets, whichever stands first.
func holds(t *testing.T, a, b api.Token, want bool) {
	t.Helper()
	if token.Same(a, b) != want || token.Same(b, a) != want {
		t.Fatalf("Same(%v, %v) isn't %t", a, b, want)
	}
}

// spare answers b with room behind it in which a guard stands, and a function that tells whether b and the guard are as they were.
func spare(b []byte) ([]byte, func() bool) {
	whole := slices.Concat([]byte{7}, b, []byte{8, 9, 10, 11, 12, 13, 14, 15, 16, 17, 18, 19, 20, 21, 22, 23, 24, 25, 26, 27, 28, 29, 30, 31, 32, 33})
	was := bytes.Clone(whole)
	return whole[1 : 1+len(b)], func() bool { return bytes.Equal(whole, was) }
}

// overwrite puts other bytes in all of b's memory, up to its capacity.
func overwrite(b []byte) {
	b = b[:cap(b)]
	for i := range b {
		b[i] = ^b[i]
	}
}

func TestExample(t *testing.T) { // P15.1, P15.2
	puts(t, reqs(1), []byte{0, 0, 0, 0, 0, 0, 0, 0, 1})
	gets(t, []byte{0, 0, 0, 0, 0, 0, 0, 0, 1}, reqs(1))
}

func TestPacketsWrittenOut(t *testing.T) { // P15.1, P15.2
	for _, c := range []struct {
		p    api.Token
		want []byte
	}{
		{api.Token{}, make([]byte, 9)},
		{reqs(0x0102030405060708), []byte{0, 1, 2, 3, 4, 5, 6, 7, 8}},
		{reqs(math.MaxUint64), []byte{0, 255, 255, 255, 255, 255, 255, 255, 255}},
		{api.Token{Kind: 1}, append([]byte{1}, make([]byte, 24)...)},
		{chals(1, 2, 3), []byte{1, 0, 0, 0, 0, 0, 0, 0, 1, 0, 0, 0, 0, 0, 0, 0, 2, 0, 0, 0, 0, 0, 0, 0, 3}},
		{chals(0x0102030405060708, 0x1112131415161718, 0x2122232425262728), []byte{1, 1, 2, 3, 4, 5, 6, 7, 8, 17, 18, 19, 20, 21, 22, 23, 24, 33, 34, 35, 36, 37, 38, 39, 40}},
		{chals(0, 0, 1<<63), append(make16(1), 128, 0, 0, 0, 0, 0, 0, 0)},
		{api.Token{Kind: 2}, make16(2)},
		{datas(1, 2, []byte("a")), []byte{2, 0, 0, 0, 0, 0, 0, 0, 1, 0, 0, 0, 0, 0, 0, 0, 2, 97}},
		{datas(1<<63, 256, []byte("kedge")), []byte{2, 128, 0, 0, 0, 0, 0, 0, 0, 0, 0, 0, 0, 0, 0, 1, 0, 'k', 'e', 'd', 'g', 'e'}},
		{datas(0, 0, make([]byte, maxData)), append(make16(2), make([]byte, maxData)...)},
		{datas(0, 0, []byte{1, 2, 3, 4, 5, 6, 7, 8}), append(make16(2), 1, 2, 3, 4, 5, 6, 7, 8)},
		{api.Token{Kind: 3}, make16(3)},
		{acks(1, 3), []byte{3, 0, 0, 0, 0, 0, 0, 0, 1, 0, 0, 0, 0, 0, 0, 0, 3}},
		{acks(math.MaxUint64, 1<<32), []byte{3, 255, 255, 255, 255, 255, 255, 255, 255, 0, 0, 0, 1, 0, 0, 0, 0}},
	} {
		puts(t, c.p, c.want)
		gets(t, c.want, c.p)
	}
}

// make16 is a Kind and sixteen bytes, each 0.
func make16(kind byte) []byte {
	return append([]byte{kind}, make([]byte, 16)...)
}

func TestPutOfRightPackets(t *testing.T) { // P15.1
	for _, p := range rightOnes() {
		want, ok := put(p)
		if !ok {
			t.Fatal("the tests' own packets", p)
		}
		puts(t, p, want)
	}
	for x := range 256 {
		puts(t, datas(1, uint64(x), []byte{byte(x)}), []byte{2, 0, 0, 0, 0, 0, 0, 0, 1, 0, 0, 0, 0, 0, 0, 0, byte(x), byte(x)})
	}
}

// Each bit of each number has its place, and a number that a Kind doesn't have may have none of them.
func TestPutOfEachBit(t *testing.T) { // P15.1
	for i := range 64 {
		n := uint64(1) << i
		bit, no := make([]byte, 8), make([]byte, 8)
		bit[7-i/8] = 1 << (i % 8)
		for _, c := range []struct {
			p    api.Token
			want [][]byte
		}{
			{api.Token{Kind: req, T: n}, [][]byte{{0}, bit}},
			{api.Token{Kind: req, C: n}, nil},
			{api.Token{Kind: req, R: n}, nil},
			{api.Token{Kind: chal, T: n}, [][]byte{{1}, bit, no, no}},
			{api.Token{Kind: chal, C: n}, [][]byte{{1}, no, bit, no}},
			{api.Token{Kind: chal, R: n}, [][]byte{{1}, no, no, bit}},
			{api.Token{Kind: data, T: n}, [][]byte{{2}, bit, no}},
			{api.Token{Kind: data, C: n}, [][]byte{{2}, no, bit}},
			{api.Token{Kind: data, R: n}, nil},
			{api.Token{Kind: ack, T: n}, [][]byte{{3}, bit, no}},
			{api.Token{Kind: ack, C: n}, nil},
			{api.Token{Kind: ack, R: n}, [][]byte{{3}, no, bit}},
		} {
			if c.want == nil {
				putsNone(t, c.p)
				continue
			}
			puts(t, c.p, slices.Concat(c.want...))
			gets(t, slices.Concat(c.want...), c.p)
		}
	}
}

// Kinds, numbers and lengths at their edges and beyond, wrong in one way, in several, and in all.
func TestPutOfAnyPacket(t *testing.T) { // P15.1
	for _, n := range lengths {
		b := noise(n, n)
		for _, kind := range slices.Concat(kinds, wrongKinds) {
			for _, x := range edges {
				for _, y := range edges {
					for _, z := range edges {
						putsAsSaid(t, api.Token{Kind: kind, T: x, C: y, R: z, Data: b})
					}
				}
			}
		}
	}
	for kind := -300; kind < 600; kind++ {
		for _, b := range [][]byte{nil, []byte("a")} {
			putsAsSaid(t, api.Token{Kind: kind, Data: b})
			putsAsSaid(t, api.Token{Kind: kind, T: 1, C: 2, Data: b})
			putsAsSaid(t, api.Token{Kind: kind, T: 1, R: 2, Data: b})
			putsAsSaid(t, api.Token{Kind: kind, T: 1, C: 2, R: 3, Data: b})
		}
	}
}

func TestPutOfNumbersThatAKindLacks(t *testing.T) { // P15.1
	for _, n := range values[1:] {
		for _, x := range edges {
			for _, b := range [][]byte{nil, {}, {0}, noise(1, maxData), noise(1, maxData+1)} {
				putsNone(t, api.Token{Kind: req, T: x, C: n, Data: b})
				putsNone(t, api.Token{Kind: req, T: x, R: n, Data: b})
				putsNone(t, api.Token{Kind: req, T: x, C: n, R: n, Data: b})
				putsNone(t, api.Token{Kind: data, T: x, C: x, R: n, Data: b})
				putsNone(t, api.Token{Kind: ack, T: x, C: n, R: x, Data: b})
			}
		}
	}
}

func TestPutOfDataThatAKindLacks(t *testing.T) { // P15.1
	for _, n := range lengths[1:] {
		for _, b := range [][]byte{noise(n, n), make([]byte, n)} {
			for _, x := range edges {
				putsNone(t, api.Token{Kind: req, T: x, Data: b})
				putsNone(t, api.Token{Kind: chal, T: x, C: x, R: x, Data: b})
				putsNone(t, api.Token{Kind: ack, T: x, R: x, Data: b})
				if n > maxData {
					putsNone(t, datas(x, x, b))
				}
			}
		}
	}
	for _, b := range [][]byte{nil, {}, noise(1, 9)[:0]} {
		puts(t, api.Token{Kind: req, T: 5, Data: b}, []byte{0, 0, 0, 0, 0, 0, 0, 0, 5})
		puts(t, api.Token{Kind: chal, Data: b}, append([]byte{1}, make([]byte, 24)...))
		puts(t, api.Token{Kind: data, Data: b}, make16(2))
		puts(t, api.Token{Kind: ack, Data: b}, make16(3))
	}
}

func TestPutOfWrongKinds(t *testing.T) { // P15.1
	for _, kind := range wrongKinds {
		for _, x := range values {
			for _, b := range [][]byte{nil, {}, {0}, []byte("a"), noise(1, maxData), noise(1, maxData+1)} {
				putsNone(t, api.Token{Kind: kind, T: x, Data: b})
				putsNone(t, api.Token{Kind: kind, C: x, Data: b})
				putsNone(t, api.Token{Kind: kind, R: x, Data: b})
				putsNone(t, api.Token{Kind: kind, T: x, C: x, R: x, Data: b})
			}
		}
	}
}

// How many bytes there are counts, not for how many there is room.
func TestPutOfDataWithRoom(t *testing.T) { // P15.1
	roomy := make([]byte, maxData, 4096)
	puts(t, datas(0, 0, roomy), append(make16(2), make([]byte, maxData)...))
	puts(t, api.Token{Kind: ack, Data: roomy[:0]}, make16(3))
	puts(t, api.Token{Kind: req, Data: roomy[:0]}, make([]byte, 9))
	putsNone(t, datas(0, 0, roomy[:maxData+1]))
}

func TestGetTooFewBytes(t *testing.T) { // P15.2
	for _, b := range [][]byte{nil, {}, noise(1, 9)[:0]} {
		getsNone(t, b)
	}
	for x := range 256 {
		for n := 1; n < 9; n++ {
			getsNone(t, append([]byte{byte(x)}, noise(n, n-1)...))
			getsNone(t, append([]byte{byte(x)}, noise(n, 99)...)[:n])
			getsNone(t, append([]byte{byte(x)}, make([]byte, n-1)...))
		}
	}
}

// First bytes of all kinds, ahead of what would be each Kind's.
func TestGetFirstByte(t *testing.T) { // P15.2
	for x := range 256 {
		for _, n := range lengths {
			for _, rest := range [][]byte{noise(n, n), make([]byte, n)} {
				b := append([]byte{byte(x)}, rest...)
				getsAsSaid(t, b)
				if x > ack {
					getsNone(t, b)
				}
			}
		}
	}
}

// How many bytes behind its Kind a packet has.
func TestGetOfEachLength(t *testing.T) { // P15.2
	for _, kind := range kinds {
		least := []int{8, 24, 16, 16}[kind]
		most := []int{8, 24, 16 + maxData, 16}[kind]
		for n := range 300 {
			for _, rest := range texts(n) {
				b := append([]byte{byte(kind)}, rest...)
				getsAsSaid(t, b)
				if p, err := token.Get(b); (err == api.OK) != (n >= least && n <= most) {
					t.Fatal(p, n, err)
				}
			}
		}
		getsNone(t, append([]byte{byte(kind)}, make([]byte, 1<<20)...))
	}
}

func TestGetOfEachKind(t *testing.T) { // P15.2
	for _, x := range values {
		r := append([]byte{0}, eight(x)...)
		gets(t, r, reqs(x))
		getsNone(t, r[:8])
		getsNone(t, append(r, 0))
		for _, y := range values {
			a := slices.Concat([]byte{3}, eight(x), eight(y))
			gets(t, a, acks(x, y))
			getsNone(t, a[:16])
			getsNone(t, append(a, 0))
			d := slices.Concat([]byte{2}, eight(x), eight(y))
			gets(t, d, datas(x, y, nil))
			getsNone(t, d[:16])
			for _, n := range []int{1, 7, 8, 9, maxData - 1, maxData} {
				for _, b := range texts(n) {
					gets(t, slices.Concat(d, b), datas(x, y, b))
				}
			}
			getsNone(t, append(d, noise(1, maxData+1)...))
			for _, z := range values {
				c := slices.Concat([]byte{1}, eight(x), eight(y), eight(z))
				gets(t, c, chals(x, y, z))
				getsNone(t, c[:24])
				getsNone(t, append(c, 0))
			}
		}
	}
}

// How many bytes there are counts, not for how many there is room.
func TestGetOfBytesWithRoom(t *testing.T) { // P15.2
	for _, kind := range kinds {
		whole := append([]byte{byte(kind)}, noise(kind, 200)...)
		for n := range len(whole) {
			getsAsSaid(t, whole[:n])
			getsAsSaid(t, bytes.Clone(whole[:n]))
		}
	}
}

// Bytes that nobody made, of all short lengths.
func TestGetOfNoise(t *testing.T) { // P15.2
	for n := range 100 {
		for i := range 400 {
			b := noise(1000*n+i, n)
			getsAsSaid(t, b)
			if n > 0 {
				b[0] &= 3
				getsAsSaid(t, b)
			}
		}
	}
}

func TestSameOfRightPackets(t *testing.T) { // P15.2
	all := rightOnes()
	for i := 0; i < len(all); i += 23 {
		for j := 0; j < len(all); j += 11 {
			holds(t, all[i], all[j], same(all[i], all[j]))
		}
	}
	for _, p := range all {
		q := p
		q.Data = bytes.Clone(p.Data)
		holds(t, p, p, true)
		holds(t, p, q, true)
	}
}

// Packets that differ in one field alone, whether they are right or not.
func TestSameFieldByField(t *testing.T) { // P15.2
	for _, b := range [][]byte{nil, []byte("a"), noise(2, maxData), noise(3, maxData+1), noise(4, 1000)} {
		for _, kind := range slices.Concat(kinds, wrongKinds) {
			p := api.Token{Kind: kind, T: 7, C: 8, R: 9, Data: b}
			for _, another := range slices.Concat(kinds, wrongKinds) {
				holds(t, p, api.Token{Kind: another, T: 7, C: 8, R: 9, Data: bytes.Clone(b)}, kind == another)
			}
		}
		for _, kind := range []int{-1, req, chal, data, ack, 4} {
			for _, x := range values {
				p := api.Token{Kind: kind, T: x, C: x, R: x, Data: b}
				for _, y := range values {
					holds(t, p, api.Token{Kind: kind, T: y, C: x, R: x, Data: bytes.Clone(b)}, x == y)
					holds(t, p, api.Token{Kind: kind, T: x, C: y, R: x, Data: bytes.Clone(b)}, x == y)
					holds(t, p, api.Token{Kind: kind, T: x, C: x, R: y, Data: bytes.Clone(b)}, x == y)
				}
			}
		}
	}
}

// Numbers that have changed places are others.
func TestSameOfNumbersTurnedAbout(t *testing.T) { // P15.2
	for _, kind := range []int{-1, req, chal, data, ack, 4} {
		p := api.Token{Kind: kind, T: 1, C: 2, R: 3}
		for _, q := range []api.Token{{T: 1, C: 3, R: 2}, {T: 2, C: 1, R: 3}, {T: 2, C: 3, R: 1}, {T: 3, C: 1, R: 2}, {T: 3, C: 2, R: 1}} {
			q.Kind = kind
			holds(t, p, q, false)
		}
	}
	holds(t, api.Token{Kind: 1, T: 2}, api.Token{Kind: 2, T: 1}, false)
}

func TestSameByteByByte(t *testing.T) { // P15.2
	for _, n := range []int{1, 2, 3, 8, maxData - 1, maxData, maxData + 1, 300} {
		p := datas(1, 2, noise(n, n))
		for i := range n {
			for _, mask := range []byte{1, 0x20, 0x80, 0xff} {
				q := datas(1, 2, bytes.Clone(p.Data))
				q.Data[i] ^= mask
				holds(t, p, q, false)
			}
			holds(t, p, datas(1, 2, p.Data[:i]), false)
			holds(t, p, datas(1, 2, p.Data[i+1:]), false)
		}
		holds(t, p, datas(1, 2, append(bytes.Clone(p.Data), 0)), false)
		holds(t, datas(0, 0, make([]byte, n)), datas(0, 0, make([]byte, n+1)), false)
		holds(t, datas(0, 0, make([]byte, n)), datas(0, 0, nil), false)
	}
	holds(t, datas(1, 2, []byte("ab")), datas(1, 2, []byte("ba")), false)
}

func TestSameOfNoData(t *testing.T) { // P15.2
	for _, kind := range slices.Concat(kinds, wrongKinds) {
		for _, x := range values {
			p := api.Token{Kind: kind, T: x, C: x, R: x}
			for _, b := range [][]byte{nil, {}, noise(1, 9)[:0]} {
				q := p
				q.Data = b
				holds(t, p, q, true)
				q.Data = []byte{0}
				holds(t, p, q, false)
			}
		}
	}
}

func TestThereAndBack(t *testing.T) { // P15.3
	for _, p := range rightOnes() {
		b, err := token.Put(p)
		if err != api.OK {
			t.Fatal(p, err)
		}
		q, err := token.Get(b)
		if err != api.OK || !same(p, q) || !token.Same(p, q) {
			t.Fatalf("%v came back as %v, %d", p, q, err)
		}
	}
}

func TestBackAndThere(t *testing.T) { // P15.3
	taken := map[byte]int{}
	back := func(b []byte) {
		if p, err := token.Get(b); err == api.OK {
			puts(t, p, b)
			taken[b[0]]++
		}
	}
	for x := range 256 {
		for n := range 100 {
			for i := range 10 {
				back(append([]byte{byte(x)}, noise(10*n+i, n)...))
			}
			back(append([]byte{byte(x)}, make([]byte, n)...))
			back(noise(x, n))
		}
	}
	if len(taken) != 4 || taken[0] < 10 || taken[1] < 10 || taken[2] < 600 || taken[3] < 10 {
		t.Fatal(taken)
	}
}

// The frame of a packet goes there and back, too, and no packet is too long for one.
func TestInFrames(t *testing.T) { // P15.3
	table := crc.New()
	for i, p := range rightOnes() {
		if i%7 > 0 && p.Kind == chal {
			continue
		}
		b, err := token.Put(p)
		if err != api.OK {
			t.Fatal(p, err)
		}
		w, err := frame.Wrap(table, b)
		if err != api.OK {
			t.Fatal(p, err)
		}
		body, err := frame.Open(table, w)
		if err != api.OK {
			t.Fatal(p, err)
		}
		gets(t, body, p)
	}
}

func TestPutLeavesDataAlone(t *testing.T) { // P15.1, rule 3
	for n := range maxData + 2 {
		for _, kind := range slices.Concat(kinds, []int{-1, 4}) {
			b, untouched := spare(noise(n, n))
			p := api.Token{Kind: kind, T: 1, Data: b}
			want, _ := put(p)
			out, _ := token.Put(p)
			again, _ := token.Put(p)
			overwrite(again)
			if !untouched() || !bytes.Equal(out, want) {
				t.Fatalf("what Put made of %d bytes shares memory with what it was given or with another answer", n)
			}
			overwrite(b)
			if !bytes.Equal(out, want) {
				t.Fatalf("what Put made of %d bytes hangs on them still", n)
			}
		}
	}
}

func TestGetLeavesBytesAlone(t *testing.T) { // P15.2, rule 3
	for n := range 17 + maxData + 2 {
		for x := range 5 {
			b, untouched := spare(append([]byte{byte(x)}, noise(n, n)...))
			was := bytes.Clone(b)
			want, _ := get(was)
			out, _ := token.Get(b)
			again, _ := token.Get(b)
			overwrite(again.Data)
			if !untouched() || !same(out, want) {
				t.Fatalf("what Get found in %x shares memory with it or with another answer", was)
			}
			overwrite(b)
			if !same(out, want) {
				t.Fatalf("what Get found in %x hangs on it still", was)
			}
		}
	}
}

func TestSameLeavesDataAlone(t *testing.T) { // P15.2, rule 3
	for n := range maxData + 2 {
		a, first := spare(noise(n, n))
		b, second := spare(noise(n, n))
		holds(t, datas(1, 2, a), datas(1, 2, b), true)
		if !first() || !second() {
			t.Fatal(n)
		}
	}
}

// What is answered hangs on what is handed in alone, not on what was asked ahead of it.
func TestNothingIsKept(t *testing.T) { // rule 4
	all := rightOnes()
	check := func(i int) {
		p := all[i]
		putsNone(t, api.Token{Kind: -1, T: p.T, Data: p.Data})
		putsNone(t, api.Token{Kind: req, T: p.T, C: 1})
		putsAsSaid(t, p)
		b, _ := put(p)
		getsNone(t, append([]byte{4}, b...))
		getsNone(t, b[:8])
		getsAsSaid(t, b)
		holds(t, p, all[len(all)-1-i], same(p, all[len(all)-1-i]))
	}
	for i := range all {
		check(i)
	}
	for i := range all {
		check(len(all) - 1 - i)
	}
}
