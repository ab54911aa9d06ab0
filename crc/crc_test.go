package crc

import (
	"bytes"
	"hash/crc32"
	"math"
	"testing"
)

// byDefinition is the sum as the chapter says it, number by number, without a table.
func byDefinition(b []byte) uint32 {
	x := uint64(1<<32 - 1)
	for _, c := range b {
		x ^= uint64(c)
		for range 8 {
			if x%2 == 1 {
				x = (x-1)/2 ^ 3988292384
			} else {
				x /= 2
			}
		}
	}
	return uint32(x ^ (1<<32 - 1))
}

// lowestFirst is a sum as four bytes.
func lowestFirst(sum uint32) []byte {
	return []byte{byte(sum), byte(sum >> 8), byte(sum >> 16), byte(sum >> 24)}
}

// numbers answers a function that tells numbers that look like noise, the same ones in each run.
func numbers(begin uint32) func() uint32 {
	x := uint64(begin)
	return func() uint32 {
		x = x*6364136223846793005 + 1442695040888963407
		return uint32(x >> 32)
	}
}

// noise is n bytes that look like noise.
func noise(n int) []byte {
	next := numbers(uint32(n))
	b := make([]byte, n)
	for i := range b {
		b[i] = byte(next())
	}
	return b
}

// samples are bytes of several sizes, up to and beyond a message's and a frame's.
func samples() [][]byte {
	all := [][]byte{nil, {}, []byte("123456789"), {0}, {255}, {0, 0, 0, 0}, {255, 255, 255, 255}, make([]byte, 64), bytes.Repeat([]byte{255}, 96)}
	for n := 1; n <= 40; n++ {
		all = append(all, noise(n))
	}
	return append(all, noise(255), noise(256), noise(257), noise(512), noise(4096))
}

// unmade are the tables that New did not make.
func unmade() map[string]*Table {
	return map[string]*Table{"nil": nil, "new": new(Table), "literal": {}}
}

// spare answers b with room behind it in which a guard stands, and a function that tells whether b and the guard are as they were.
func spare(b []byte) ([]byte, func() bool) {
	whole := append(append([]byte{0xa5}, b...), 0x5a, 0x5a, 0x5a, 0x5a, 0x5a, 0x5a, 0x5a, 0x5a)
	was := bytes.Clone(whole)
	return whole[1 : 1+len(b)], func() bool { return bytes.Equal(whole, was) }
}

// overwrite puts other bytes in all of b's memory, up to its capacity.
func overwrite(b []byte) {
	b = b[:cap(b)]
	for i := range b {
		b[i] ^= 0xff
	}
}

// refused fails the test if b is checked, or anything is told beside the false.
func refused(t *testing.T, c *Table, b []byte) {
	t.Helper()
	if got, ok := c.Check(b); ok || len(got) != 0 {
		t.Fatalf("Check(%v) = %v, %v, want none, false", b, got, ok)
	}
}

func TestSumOfKnownBytes(t *testing.T) { // P2.1
	c := New()
	for _, k := range []struct {
		b    string
		want uint32
	}{
		{"123456789", 3421780262},
		{"", 0},
		{"a", 0xe8b7be43},
		{"\x00", 0xd202ef8d},
		{"\xff", 0xff000000},
		{"\x00\x00\x00\x00", 0x2144df1c},
		{"\xff\xff\xff\xff", 0xffffffff},
		{"The quick brown fox jumps over the lazy dog", 0x414fa339},
	} {
		if got := c.Sum([]byte(k.b)); got != k.want {
			t.Errorf("Sum(%q) = %#x, want %#x", k.b, got, k.want)
		}
	}
}

func TestSumOfAllSingleBytes(t *testing.T) { // P2.1
	c := New()
	for x := range 256 {
		b := []byte{byte(x)}
		if got, want := c.Sum(b), byDefinition(b); got != want {
			t.Errorf("Sum(%v) = %#x, want %#x", b, got, want)
		}
	}
}

func TestSumOfAllPairs(t *testing.T) { // P2.1
	c := New()
	for x := range 1 << 16 {
		b := []byte{byte(x >> 8), byte(x)}
		if got, want := c.Sum(b), byDefinition(b); got != want {
			t.Fatalf("Sum(%v) = %#x, want %#x", b, got, want)
		}
	}
}

func TestSumOfSeveralSizes(t *testing.T) { // P2.1
	c := New()
	for _, b := range append(samples(), noise(1<<20)) {
		if got, want := c.Sum(b), byDefinition(b); got != want {
			t.Errorf("Sum of %d bytes = %#x, want %#x", len(b), got, want)
		}
		if got, want := c.Sum(b), crc32.ChecksumIEEE(b); got != want {
			t.Errorf("Sum of %d bytes = %#x, want that of Ethernet, %#x", len(b), got, want)
		}
	}
}

func TestSumOfNothing(t *testing.T) { // P2.1, P2.3
	c := New()
	for _, parts := range [][][]byte{nil, {}, {nil}, {{}}, {nil, {}, nil}} {
		if got := c.Sum(parts...); got != 0 {
			t.Errorf("Sum(%v) = %#x, want 0", parts, got)
		}
	}
}

func TestSumOfPartsIsThatOfAll(t *testing.T) { // P2.3
	c := New()
	b := noise(24)
	want := byDefinition(b)
	for i := range len(b) + 1 {
		for j := i; j <= len(b); j++ {
			for _, parts := range [][][]byte{
				{b[:i], b[i:j], b[j:]},
				{nil, b[:i], {}, b[i:j], nil, nil, b[j:], {}},
			} {
				if got := c.Sum(parts...); got != want {
					t.Fatalf("Sum of parts cut at %d and %d = %#x, want %#x", i, j, got, want)
				}
			}
		}
	}
	var single [][]byte
	for i := range b {
		single = append(single, b[i:i+1])
	}
	if got := c.Sum(single...); got != want {
		t.Errorf("Sum of parts of one byte = %#x, want %#x", got, want)
	}
}

func TestSumKeepsTheOrderOfParts(t *testing.T) { // P2.3
	c := New()
	a, b := []byte("ab"), []byte("cde")
	if got, want := c.Sum(b, a), byDefinition([]byte("cdeab")); got != want {
		t.Errorf("Sum(cde, ab) = %#x, want %#x", got, want)
	}
	if c.Sum(a, b) == c.Sum(b, a) {
		t.Error("parts turned about have the same sum")
	}
}

func TestMoreGoesOnFromAnyPlace(t *testing.T) { // P2.1, P2.3
	c := New()
	for _, b := range samples() {
		want := byDefinition(b)
		for i := range len(b) + 1 {
			if got := c.More(c.Sum(b[:i]), b[i:]); got != want {
				t.Fatalf("%d bytes, gone on with from %d: %#x, want %#x", len(b), i, got, want)
			}
		}
		sum := uint32(0)
		for i := range b {
			sum = c.More(sum, b[i:i+1])
		}
		if sum != want {
			t.Fatalf("%d bytes, one by one: %#x, want %#x", len(b), sum, want)
		}
	}
}

func TestMoreOfNothing(t *testing.T) { // P2.1, P2.3
	c := New()
	for _, sum := range []uint32{0, 1, 3421780262, 1 << 31, math.MaxUint32} {
		if got := c.More(sum, nil); got != sum {
			t.Errorf("More(%#x, nil) = %#x", sum, got)
		}
		if got := c.More(sum, []byte{}); got != sum {
			t.Errorf("More(%#x, empty) = %#x", sum, got)
		}
	}
}

func TestPut(t *testing.T) { // P2.2
	c := New()
	for _, k := range []struct{ b, want []byte }{
		{nil, []byte{0, 0, 0, 0}},
		{[]byte{}, []byte{0, 0, 0, 0}},
		{[]byte("123456789"), append([]byte("123456789"), 0x26, 0x39, 0xf4, 0xcb)},
		{[]byte{0}, []byte{0, 0x8d, 0xef, 0x02, 0xd2}},
		{[]byte{0xff}, []byte{0xff, 0, 0, 0, 0xff}},
	} {
		if got := c.Put(k.b); !bytes.Equal(got, k.want) {
			t.Errorf("Put(%v) = %v, want %v", k.b, got, k.want)
		}
	}
	for _, b := range samples() {
		want := append(bytes.Clone(b), lowestFirst(byDefinition(b))...)
		if got := c.Put(b); !bytes.Equal(got, want) {
			t.Errorf("Put(%v) = %v, want %v", b, got, want)
		}
	}
}

func TestCheckOfWhatWasPut(t *testing.T) { // P2.2, P2.4
	c := New()
	all := samples()
	for x := range 256 {
		all = append(all, []byte{byte(x)})
	}
	for _, b := range all {
		if got, ok := c.Check(c.Put(b)); !ok || !bytes.Equal(got, b) {
			t.Errorf("Check(Put(%v)) = %v, %v", b, got, ok)
		}
		twice := c.Put(c.Put(b))
		if got, ok := c.Check(twice); !ok || !bytes.Equal(got, c.Put(b)) {
			t.Errorf("Check(Put(Put(%v))) = %v, %v", b, got, ok)
		}
	}
}

func TestCheckByAnotherTable(t *testing.T) { // P2.2
	a, b := New(), New()
	if a == b {
		t.Fatal("New answers the same table twice")
	}
	if got, ok := b.Check(a.Put([]byte("ab"))); !ok || string(got) != "ab" {
		t.Errorf("what another table put: %q, %v", got, ok)
	}
}

func TestCheckOfFewerThanFourBytes(t *testing.T) { // P2.2
	c := New()
	refused(t, c, nil)
	for x := range 256 {
		for n := range 4 {
			refused(t, c, bytes.Repeat([]byte{byte(x)}, n))
		}
	}
	p := c.Put([]byte("ab"))
	for n := range 4 {
		refused(t, c, p[:n]) // the room behind the bytes is no byte of them
		refused(t, c, p[len(p)-n:])
	}
}

func TestCheckOfFourBytes(t *testing.T) { // P2.2
	c := New()
	if got, ok := c.Check([]byte{0, 0, 0, 0}); !ok || len(got) != 0 {
		t.Errorf("Check(0 0 0 0) = %v, %v, want no bytes, true", got, ok)
	}
	for n := 1; n < 1<<16; n++ {
		refused(t, c, lowestFirst(uint32(n)))
		refused(t, c, lowestFirst(uint32(n)<<16))
	}
	refused(t, c, []byte{255, 255, 255, 255})
	next := numbers(4)
	for range 10000 {
		refused(t, c, lowestFirst(next()|1))
	}
}

func TestCheckOfAnyBytes(t *testing.T) { // P2.2
	c := New()
	whole := c.Put([]byte("123456789"))
	for i := range whole {
		for j := i + 4; j <= len(whole); j++ {
			b := whole[i:j]
			n := len(b) - 4
			want := bytes.Equal(b[n:], lowestFirst(byDefinition(b[:n])))
			got, ok := c.Check(b)
			if ok != want || ok && !bytes.Equal(got, b[:n]) || !ok && len(got) != 0 {
				t.Errorf("Check(%v) = %v, %v, want %v", b, got, ok, want)
			}
		}
	}
}

func TestCheckOfASumTheOtherWayAbout(t *testing.T) { // P2.2
	c := New()
	for _, b := range [][]byte{[]byte("123456789"), {0}, []byte("ab")} {
		sum := lowestFirst(byDefinition(b))
		refused(t, c, append(bytes.Clone(b), sum[3], sum[2], sum[1], sum[0]))
		refused(t, c, append(sum, b...))
	}
}

func TestCheckOfEachBitTurned(t *testing.T) { // P2.4
	c := New()
	for _, b := range samples() {
		p := c.Put(b)
		if len(p) > 300 {
			continue // a longer one has nothing that these have not
		}
		for i := range p {
			for bit := range 8 {
				p[i] ^= 1 << bit
				refused(t, c, p)
				p[i] ^= 1 << bit
			}
		}
	}
}

// spoil turns the bits of mask in the four bytes of b from at on.
func spoil(b []byte, at int, mask uint32) {
	for k, m := range lowestFirst(mask) {
		b[at+k] ^= m
	}
}

// masks are changes of four bytes: each of them alone, and some, and all, with few and with many of their bits.
func masks() []uint32 {
	var all []uint32
	next := numbers(32)
	for which := 1; which < 16; which++ {
		some := uint32(0)
		for k := range 4 {
			if which>>k&1 == 1 {
				some |= 0xff << (8 * k)
			}
		}
		for _, bits := range []uint32{0x01010101, 0x80808080, 0xffffffff, 0x20202020, 0x01800180, 0x80018001} {
			all = append(all, some&bits)
		}
		for range 8 {
			all = append(all, some&(next()|0x10101010))
		}
	}
	return append(all, feedback, feedback>>1, 3421780262)
}

func TestCheckOfBytesSpoiltWithinFour(t *testing.T) { // P2.4
	c := New()
	for _, n := range []int{0, 1, 2, 3, 4, 5, 9, 64, 96} {
		for _, b := range [][]byte{noise(n), make([]byte, n)} {
			p := c.Put(b)
			for at := range len(p) - 3 {
				for _, mask := range masks() {
					spoil(p, at, mask)
					refused(t, c, p)
					spoil(p, at, mask)
				}
			}
		}
	}
}

func TestCheckOfNoisySpoilsWithinFour(t *testing.T) { // P2.4
	c := New()
	p := c.Put([]byte("123456789"))
	next := numbers(9)
	for at := range len(p) - 3 {
		for range 20000 {
			mask := next() | 1<<(next()%32)
			spoil(p, at, mask)
			refused(t, c, p)
			spoil(p, at, mask)
		}
	}
}

func TestCheckOfEachOtherByte(t *testing.T) { // P2.4
	c := New()
	p := c.Put([]byte("ab"))
	for i := range p {
		was := p[i]
		for x := range 256 {
			if p[i] = byte(x); p[i] != was {
				refused(t, c, p)
			}
		}
		p[i] = was
	}
}

func TestTablesThatNewDidNotMake(t *testing.T) { // the chapter's section Functions
	p := New().Put([]byte("ab"))
	for name, c := range unmade() {
		for _, parts := range [][][]byte{nil, {nil}, {[]byte("a")}, {[]byte("ab"), []byte("c")}, {p}} {
			if got := c.Sum(parts...); got != 0 {
				t.Errorf("%s: Sum(%v) = %#x, want 0", name, parts, got)
			}
		}
		for _, sum := range []uint32{0, 1, 3421780262, math.MaxUint32} {
			for _, b := range [][]byte{nil, {}, []byte("a"), p} {
				if got := c.More(sum, b); got != 0 {
					t.Errorf("%s: More(%#x, %v) = %#x, want 0", name, sum, b, got)
				}
			}
		}
		for _, b := range [][]byte{nil, {}, []byte("a"), p} {
			if got := c.Put(b); len(got) != 0 {
				t.Errorf("%s: Put(%v) = %v, want none", name, b, got)
			}
		}
		for _, b := range [][]byte{nil, {1, 2, 3}, {0, 0, 0, 0}, {255, 255, 255, 255}, []byte("ab\x00\x00\x00\x00"), p} {
			refused(t, c, b)
		}
	}
}

func TestCallsLeaveTheTable(t *testing.T) { // rule 4
	c, fresh := New(), New()
	for _, b := range samples() {
		c.Sum(b, b)
		c.More(7, b)
		c.Check(c.Put(b))
		c.Check(b)
		if *c != *fresh {
			t.Fatalf("the calls with %v made another table", b)
		}
	}
}

func TestWhatIsHandedInStays(t *testing.T) { // rule 3
	c := New()
	for _, table := range []*Table{c, nil, new(Table)} {
		for _, given := range [][]byte{[]byte("abc"), nil, {0, 0, 0, 0}, c.Put([]byte("ab")), {1, 2, 3, 4, 5, 6}} {
			b, stays := spare(given)
			other, otherStays := spare([]byte{9})
			parts := [][]byte{b, other, b}
			table.Sum(parts...)
			table.Sum(parts[:1]...)
			table.More(5, b)
			table.Put(b)
			table.Check(b)
			if !stays() || !otherStays() {
				t.Errorf("bytes that were handed in, %v, are other ones", given)
			}
			if len(parts) != 3 || len(parts[0]) != len(given) || &parts[1][0] != &other[0] || len(parts[2]) != len(given) {
				t.Error("the list of parts is another one")
			}
		}
	}
}

func TestWhatIsPutIsNewMemory(t *testing.T) { // rule 3
	c := New()
	for _, given := range [][]byte{nil, {7}, []byte("abc")} {
		b, stays := spare(given)
		want := append(bytes.Clone(given), lowestFirst(byDefinition(given))...)
		first, again := c.Put(b), c.Put(b)
		overwrite(first)
		if !stays() {
			t.Errorf("Put(%v) shares memory with what was handed in", given)
		}
		if !bytes.Equal(again, want) {
			t.Errorf("two answers of Put(%v) share memory: %v", given, again)
		}
		overwrite(b)
		if !bytes.Equal(again, want) {
			t.Errorf("Put(%v) went along with what was handed in: %v", given, again)
		}
	}
}

func TestWhatIsCheckedIsNewMemory(t *testing.T) { // rule 3
	c := New()
	for _, given := range [][]byte{nil, {7}, []byte("abc")} {
		b, stays := spare(c.Put(given))
		first, _ := c.Check(b)
		again, _ := c.Check(b)
		overwrite(first)
		if !stays() {
			t.Errorf("Check shares memory with what was handed in, %v", b)
		}
		if !bytes.Equal(again, given) {
			t.Errorf("two answers of Check share memory: %v, want %v", again, given)
		}
		overwrite(b)
		if !bytes.Equal(again, given) {
			t.Errorf("the answer of Check went along with what was handed in: %v, want %v", again, given)
		}
	}
}
