package probe_test

import (
	"bytes"
	"kedge/api"
	"kedge/crc"
	"kedge/frame"
	"kedge/probe"
	"math"
	"slices"
	"testing"
)

// The numbers that the document names, written out, so that the tests hold whatever api says.
const (
	ask       = 0
	try       = 1
	idle      = 2
	data      = 3
	ack       = 4
	maxData   = 64
	errPacket = api.Errno(130)
)

// headers are the seven headers, each with what it tells.
var headers = []struct {
	kind, label int
	head        byte
}{
	{ask, 0, 0}, {try, 0, 1}, {idle, 0, 2}, {data, 0, 4}, {data, 1, 5}, {ack, 0, 6}, {ack, 1, 7},
}

// kinds are the five, and numbers that are none, such as become one if they are cut short among them.
var kinds = []int{
	ask, try, idle, data, ack,
	-1, -2, -3, -4, -5, -253, -252, -256, -65533, -1 << 31, 3 - 1<<32, 4 - 1<<32, -1 << 32, math.MinInt, math.MinInt + 1, math.MinInt + 3, math.MinInt + 4,
	5, 6, 7, 8, 9, 127, 128, 255, 256, 257, 259, 260, 65535, 65536, 65539, 65540, math.MaxInt32, 1 << 31, 1 << 32, 1<<32 + 1, 1<<32 + 3, 1<<32 + 4, 1 << 62, math.MaxInt - 1, math.MaxInt,
}

// labels are 0 and 1, and numbers that are never one, such as become one if they are cut short or added to among them.
var labels = []int{
	0, 1,
	-1, -2, -3, -4, -5, -6, -7, -255, -256, -65535, -65536, -1 << 31, -1 << 32, 1 - 1<<32, math.MinInt, math.MinInt + 1, math.MinInt + 2,
	2, 3, 4, 5, 6, 7, 8, 127, 128, 252, 253, 254, 255, 256, 257, 65535, 65536, 65537, math.MaxInt32, 1 << 31, 1 << 32, 1<<32 + 1, 1 << 62, math.MaxInt - 4, math.MaxInt - 1, math.MaxInt,
}

// lengths are numbers of bytes, those at the edges among them.
var lengths = []int{0, 1, 2, 3, 31, 32, 33, 62, 63, 64, 65, 66, 67, 95, 96, 97, 127, 128, 129, 254, 255, 256, 257, 300, 320, 511, 512, 513, 4096, 65535, 65536, 65537, 65600}

// noise is n bytes that look like noise, the same ones in each run.
func noise(begin, n int) []byte {
	x := uint64(begin)
	b := make([]byte, n)
	for i := range b {
		x = x*6364136223846793005 + 1442695040888963407
		b[i] = byte(x >> 33)
	}
	return b
}

// texts are n bytes each: noise, bits that are all alike, bytes that look like headers, and such as are escaped.
func texts(n int) [][]byte {
	heads := make([]byte, n)
	for i := range heads {
		heads[i] = byte(i % 9)
	}
	return [][]byte{noise(n+1, n), make([]byte, n), bytes.Repeat([]byte{0xff}, n), heads, bytes.Repeat([]byte{0x7e}, n), bytes.Repeat([]byte{0x7d, 0x7e}, n)[:n]}
}

// packet is a packet of these.
func packet(kind, label int, b []byte) api.Probe {
	return api.Probe{Kind: kind, Label: label, Data: b}
}

// put is what P13.1 makes of a packet, held against the seven headers; the second one tells whether the packet is right.
func put(p api.Probe) ([]byte, bool) {
	for _, h := range headers {
		if h.kind == p.Kind && h.label == p.Label && (len(p.Data) == 0 || h.kind == data && len(p.Data) <= maxData) {
			return slices.Concat([]byte{h.head}, p.Data), true
		}
	}
	return nil, false
}

// get is the right packet of which put makes b, and whether there is one.
func get(b []byte) (api.Probe, bool) {
	for _, h := range headers {
		if len(b) == 0 || h.head != b[0] {
			continue
		}
		p := packet(h.kind, h.label, b[1:])
		if _, ok := put(p); ok {
			return p, true
		}
	}
	return api.Probe{}, false
}

// same is whether two packets are the same, told field by field.
func same(a, b api.Probe) bool {
	return a.Kind == b.Kind && a.Label == b.Label && string(a.Data) == string(b.Data)
}

// right are the right packets: each kind with each label, and of PrData many messages of each length.
func right() []api.Probe {
	var all []api.Probe
	for _, h := range headers {
		all = append(all, packet(h.kind, h.label, nil), packet(h.kind, h.label, []byte{}))
		if h.kind != data {
			continue
		}
		for n := 1; n <= maxData; n++ {
			for _, b := range texts(n) {
				all = append(all, packet(h.kind, h.label, b))
			}
		}
		for x := range 256 {
			all = append(all, packet(h.kind, h.label, []byte{byte(x)}), packet(h.kind, h.label, []byte{9, byte(x)}))
		}
	}
	return all
}

// puts fails the test if Put doesn't make these bytes of a packet.
func puts(t *testing.T, p api.Probe, want []byte) {
	t.Helper()
	if b, err := probe.Put(p); !bytes.Equal(b, want) || err != api.OK {
		t.Fatalf("Put(%v) = %x, %d, not %x", p, b, err, want)
	}
}

// putsNone fails the test if Put doesn't answer ErrPacket alone.
func putsNone(t *testing.T, p api.Probe) {
	t.Helper()
	if b, err := probe.Put(p); len(b) != 0 || err != errPacket {
		t.Fatalf("Put of kind %d, label %d and %d bytes = %x, %d", p.Kind, p.Label, len(p.Data), b, err)
	}
}

// putsAsSaid fails the test if Put doesn't answer what P13.1 says.
func putsAsSaid(t *testing.T, p api.Probe) {
	t.Helper()
	if want, ok := put(p); ok {
		puts(t, p, want)
	} else {
		putsNone(t, p)
	}
}

// gets fails the test if Get doesn't find this packet.
func gets(t *testing.T, b []byte, want api.Probe) {
	t.Helper()
	if p, err := probe.Get(b); !same(p, want) || err != api.OK {
		t.Fatalf("Get(%x) = %v, %d, not %v", b, p, err, want)
	}
}

// getsNone fails the test if Get doesn't answer ErrPacket alone.
func getsNone(t *testing.T, b []byte) {
	t.Helper()
	if p, err := probe.Get(b); p.Kind != 0 || p.Label != 0 || len(p.Data) != 0 || err != errPacket {
		t.Fatalf("Get of %d bytes = %v, %d", len(b), p, err)
	}
}

// getsAsSaid fails the test if Get doesn't answer what P13.2 says.
func getsAsSaid(t *testing.T, b []byte) {
	t.Helper()
	if want, ok := get(b); ok {
		gets(t, b, want)
	} else {
		getsNone(t, b)
	}
}

// holds fails the test if Same doesn't tell this of two packets, whichever stands first.
func holds(t *testing.T, a, b api.Probe, want bool) {
	t.Helper()
	if probe.Same(a, b) != want || probe.Same(b, a) != want {
		t.Fatalf("Same(%v, %v) isn't %t", a, b, want)
	}
}

// spare answers b with room behind it in which a guard stands, and a function that tells whether b and the guard are as they were.
func spare(b []byte) ([]byte, func() bool) {
	whole := slices.Concat([]byte{7}, b, []byte{8, 9, 10, 11, 12})
	was := bytes.Clone(whole)
	return whole[1 : 1+len(b)], func() bool { return bytes.Equal(whole, was) }
}

// overwrite puts other bytes in all of b's memory, up to its capacity.
func overwrite(b []byte) {
	b = b[:cap(b)]
	for i := range b {
		b[i] = ^b[i]
	}
}

func TestExamples(t *testing.T) { // P13.1, P13.2
	p := packet(data, 1, []byte("a"))
	puts(t, p, []byte{5, 97})
	gets(t, []byte{5, 97}, p)
	getsNone(t, []byte{3})
}

// The names of the kinds are those of these numbers.
func TestKindsByName(t *testing.T) { // P13.1
	for _, k := range []struct {
		p    api.Probe
		want []byte
	}{
		{api.Probe{}, []byte{0}},
		{api.Probe{Kind: api.PrAsk}, []byte{0}},
		{api.Probe{Kind: api.PrTry}, []byte{1}},
		{api.Probe{Kind: api.PrIdle}, []byte{2}},
		{api.Probe{Kind: api.PrData, Data: []byte("kedge")}, []byte{4, 'k', 'e', 'd', 'g', 'e'}},
		{api.Probe{Kind: api.PrData, Label: 1, Data: []byte("kedge")}, []byte{5, 'k', 'e', 'd', 'g', 'e'}},
		{api.Probe{Kind: api.PrData}, []byte{4}},
		{api.Probe{Kind: api.PrData, Label: 1}, []byte{5}},
		{api.Probe{Kind: api.PrAck}, []byte{6}},
		{api.Probe{Kind: api.PrAck, Label: 1}, []byte{7}},
	} {
		puts(t, k.p, k.want)
		gets(t, k.want, k.p)
	}
}

func TestPutOfRightPackets(t *testing.T) { // P13.1
	for _, p := range right() {
		want, ok := put(p)
		if !ok {
			t.Fatal("the tests' own packets", p)
		}
		puts(t, p, want)
	}
}

// Kinds, labels and lengths at their edges and beyond, wrong in one way, in two, and in all three.
func TestPutOfAnyPacket(t *testing.T) { // P13.1
	for _, n := range lengths {
		b := noise(n, n)
		for _, kind := range kinds {
			for _, label := range labels {
				putsAsSaid(t, packet(kind, label, b))
			}
		}
	}
	for kind := -300; kind < 300; kind++ {
		for label := -300; label < 300; label++ {
			putsAsSaid(t, packet(kind, label, nil))
			putsAsSaid(t, packet(kind, label, []byte("a")))
		}
	}
}

func TestPutOfWrongPackets(t *testing.T) { // P13.1
	long := noise(1, maxData+1)
	for _, kind := range []int{ask, try, idle} {
		for _, label := range []int{-1, 1, 2} {
			for _, b := range [][]byte{nil, {}, {0}, []byte("a"), long} {
				putsNone(t, packet(kind, label, b))
			}
		}
		putsNone(t, packet(kind, 0, []byte{0}))
		putsNone(t, packet(kind, 0, long))
	}
	for _, label := range []int{-1, 2} {
		for _, b := range [][]byte{nil, {}, {0}, []byte("a"), long} {
			putsNone(t, packet(data, label, b))
			putsNone(t, packet(ack, label, b))
		}
	}
	for _, label := range []int{0, 1} {
		putsNone(t, packet(data, label, long))
		putsNone(t, packet(ack, label, []byte{0}))
		putsNone(t, packet(ack, label, long))
	}
	for _, kind := range []int{-1, 5} {
		for _, label := range []int{-1, 0, 1, 2} {
			for _, b := range [][]byte{nil, {}, {0}, long} {
				putsNone(t, packet(kind, label, b))
			}
		}
	}
}

// How many bytes there are counts, not for how many there is room.
func TestPutOfDataWithRoom(t *testing.T) { // P13.1
	roomy := make([]byte, maxData, 4096)
	puts(t, packet(data, 1, roomy), append([]byte{5}, make([]byte, maxData)...))
	puts(t, packet(ack, 1, roomy[:0]), []byte{7})
	puts(t, packet(ask, 0, roomy[:0]), []byte{0})
	putsNone(t, packet(data, 1, roomy[:maxData+1]))
}

func TestGetNoBytes(t *testing.T) { // P13.2
	for _, b := range [][]byte{nil, {}, noise(1, 9)[:0], []byte{5, 97}[:0]} {
		getsNone(t, b)
	}
}

func TestGetOneByte(t *testing.T) { // P13.2
	taken := 0
	for x := range 256 {
		getsAsSaid(t, []byte{byte(x)})
		if _, err := probe.Get([]byte{byte(x)}); err == api.OK {
			taken++
		}
	}
	if taken != 7 {
		t.Fatal(taken)
	}
}

func TestGetTwoBytes(t *testing.T) { // P13.2
	for x := range 256 {
		for y := range 256 {
			getsAsSaid(t, []byte{byte(x), byte(y)})
		}
	}
}

func TestGetMoreBytes(t *testing.T) { // P13.2
	for x := range 256 {
		for _, n := range lengths {
			getsAsSaid(t, append([]byte{byte(x)}, noise(x, n)...))
		}
	}
	for x := range 9 {
		for n := range 2 * maxData {
			for _, b := range texts(n) {
				getsAsSaid(t, append([]byte{byte(x)}, b...))
			}
		}
	}
	for _, n := range []int{1, maxData, maxData + 1, 1 << 20} {
		getsNone(t, append([]byte{3}, noise(n, n)...))
		getsNone(t, append([]byte{8}, noise(n, n)...))
		getsNone(t, append([]byte{7}, noise(n, n)...))
	}
}

func TestSameOfRightPackets(t *testing.T) { // P13.2
	all := right()
	for i := 0; i < len(all); i += 7 {
		for j := 0; j < len(all); j += 3 {
			holds(t, all[i], all[j], same(all[i], all[j]))
		}
	}
	for _, p := range all {
		p2 := p
		p2.Data = bytes.Clone(p.Data)
		holds(t, p, p, true)
		holds(t, p, p2, true)
	}
}

// Packets that are not right are the same or not, too.
func TestSameOfAnyPackets(t *testing.T) { // P13.2
	for _, b := range [][]byte{nil, []byte("a"), noise(2, maxData), noise(3, maxData+1), noise(4, 1000)} {
		for _, kind := range kinds {
			for _, other := range kinds {
				holds(t, packet(kind, 1, b), packet(other, 1, bytes.Clone(b)), kind == other)
				holds(t, packet(kind, kind, b), packet(other, other, bytes.Clone(b)), kind == other)
			}
			for _, label := range labels {
				holds(t, packet(kind, label, b), packet(label, kind, b), kind == label)
			}
		}
		for _, label := range labels {
			for _, other := range labels {
				holds(t, packet(data, label, b), packet(data, other, bytes.Clone(b)), label == other)
				holds(t, packet(-1, label, b), packet(-1, other, bytes.Clone(b)), label == other)
			}
		}
	}
}

func TestSameByteByByte(t *testing.T) { // P13.2
	for _, n := range []int{1, 2, 3, 8, maxData - 1, maxData, maxData + 1, 300} {
		p := packet(data, 1, noise(n, n))
		for i := range n {
			for _, mask := range []byte{1, 0x20, 0x80, 0xff} {
				q := packet(data, 1, bytes.Clone(p.Data))
				q.Data[i] ^= mask
				holds(t, p, q, false)
			}
			holds(t, p, packet(data, 1, p.Data[:i]), false)
			holds(t, p, packet(data, 1, p.Data[i+1:]), false)
		}
		holds(t, p, packet(data, 1, append(bytes.Clone(p.Data), 0)), false)
		holds(t, packet(data, 0, make([]byte, n)), packet(data, 0, make([]byte, n+1)), false)
		holds(t, packet(data, 0, make([]byte, n)), packet(data, 0, nil), false)
	}
	holds(t, packet(data, 1, []byte("ab")), packet(data, 1, []byte("ba")), false)
}

func TestSameOfNoData(t *testing.T) { // P13.2
	for _, kind := range kinds {
		for _, label := range labels {
			for _, b := range [][]byte{nil, {}, noise(1, 9)[:0]} {
				holds(t, packet(kind, label, nil), packet(kind, label, b), true)
				holds(t, packet(kind, label, []byte{}), packet(kind, label, b), true)
				holds(t, packet(kind, label, []byte{0}), packet(kind, label, b), false)
			}
		}
	}
}

func TestThereAndBack(t *testing.T) { // P13.3
	for _, p := range right() {
		b, err := probe.Put(p)
		if err != api.OK {
			t.Fatal(p, err)
		}
		q, err := probe.Get(b)
		if err != api.OK || !same(p, q) || !probe.Same(p, q) {
			t.Fatalf("%v came back as %v, %d", p, q, err)
		}
	}
}

func TestBackAndThere(t *testing.T) { // P13.3
	back := func(b []byte) {
		p, err := probe.Get(b)
		if err == api.OK {
			puts(t, p, b)
		}
	}
	for x := range 256 {
		back([]byte{byte(x)})
		for y := range 256 {
			back([]byte{byte(x), byte(y)})
		}
		for n := range 2 * maxData {
			back(append([]byte{byte(x)}, noise(n, n)...))
		}
	}
}

// All that Put makes begins with one of seven bytes, and each of the seven is made.
func TestSevenHeaders(t *testing.T) { // P13.3
	seen := map[byte]bool{}
	for _, p := range right() {
		b, err := probe.Put(p)
		if err != api.OK || len(b) != 1+len(p.Data) {
			t.Fatal(p, b, err)
		}
		seen[b[0]] = true
	}
	for x := range 256 {
		if seen[byte(x)] != (x < 8 && x != 3) {
			t.Fatal("header", x)
		}
	}
	if len(seen) != 7 {
		t.Fatal(seen)
	}
}

func TestLongestFrame(t *testing.T) { // P13.3
	table := crc.New()
	for _, p := range right() {
		b, err := probe.Put(p)
		if err != api.OK {
			t.Fatal(p, err)
		}
		n := len(p.Data)
		w, err := frame.Wrap(table, b)
		if err != api.OK || len(w) > 2*(n+5)+2 || len(b) > 1+n {
			t.Fatalf("the frame of %v has %d bytes, %d", p, len(w), err)
		}
		body, err := frame.Open(table, w)
		if err != api.OK {
			t.Fatal(p, err)
		}
		gets(t, body, p)
	}
	for n := range maxData + 1 {
		if frame.Most(1+n) != 2*(n+5)+2 {
			t.Fatal(n, frame.Most(1+n))
		}
	}
}

func TestPutLeavesDataAlone(t *testing.T) { // P13.1, rule 3
	for n := range maxData + 2 {
		for _, h := range headers {
			b, untouched := spare(noise(n, n))
			p := packet(h.kind, h.label, b)
			want, _ := put(p)
			out, _ := probe.Put(p)
			again, _ := probe.Put(p)
			overwrite(again)
			if !untouched() || !bytes.Equal(out, want) {
				t.Fatalf("what Put made of %d bytes shares memory with what it was given or with another answer", n)
			}
			overwrite(b)
			if !bytes.Equal(out, want) {
				t.Fatalf("what Put made of %d bytes hangs on them still", n)
			}
		}
	}
}

func TestGetLeavesBytesAlone(t *testing.T) { // P13.2, rule 3
	for n := range maxData + 2 {
		for x := range 9 {
			b, untouched := spare(append([]byte{byte(x)}, noise(n, n)...))
			was := bytes.Clone(b)
			want, _ := get(was)
			out, _ := probe.Get(b)
			again, _ := probe.Get(b)
			overwrite(again.Data)
			if !untouched() || !same(out, want) {
				t.Fatalf("what Get found in %x shares memory with it or with another answer", was)
			}
			overwrite(b)
			if !same(out, want) {
				t.Fatalf("what Get found in %x hangs on it still", was)
			}
		}
	}
}

func TestSameLeavesDataAlone(t *testing.T) { // P13.2, rule 3
	for n := range maxData + 2 {
		a, first := spare(noise(n, n))
		b, second := spare(noise(n, n))
		holds(t, packet(data, 1, a), packet(data, 1, b), true)
		if !first() || !second() {
			t.Fatal(n)
		}
	}
}

// What is answered hangs on what is handed in alone, not on what was asked ahead of it.
func TestNothingIsKept(t *testing.T) { // rule 4
	all := right()
	check := func(i int) {
		p := all[i]
		putsNone(t, packet(data, 2, p.Data))
		putsAsSaid(t, p)
		getsNone(t, append([]byte{3}, p.Data...))
		b, _ := put(p)
		getsAsSaid(t, b)
		holds(t, p, all[len(all)-1-i], same(p, all[len(all)-1-i]))
	}
	for i := range all {
		check(i)
	}
	for i := range all {
		check(len(all) - 1 - i)
	}
}
