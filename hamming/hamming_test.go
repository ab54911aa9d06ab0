package hamming_test

import (
	"bytes"
	"kedge/api"
	"kedge/hamming"
	"math"
	"slices"
	"testing"
)

// The numbers that the document names, written out, so that the tests hold whatever api says.
const (
	maxIn   = 4096
	errArg  = api.Errno(1)
	errLong = api.Errno(2)
	errCode = api.Errno(100)
)

// words are the sixteen words, reckoned by hand, that of 0 first.
var words = []byte{
	0b00000000, 0b00001111, 0b00110011, 0b00111100, 0b01010101, 0b01011010, 0b01100110, 0b01101001,
	0b10010110, 0b10011001, 0b10100101, 0b10101010, 0b11000011, 0b11001100, 0b11110000, 0b11111111,
}

// sets are the places of the bits of which P10.1 says that an even number is 1.
var sets = [][]int{{1, 3, 5, 7}, {2, 3, 6, 7}, {4, 5, 6, 7}, {0, 1, 2, 3, 4, 5, 6, 7}}

// noHalves are numbers that are no halves, such as become halves if they are cut short among them.
var noHalves = []int{
	-1, -2, -8, -15, -16, -17, -255, -256, -241, -65536, math.MinInt32, math.MinInt32 - 1, -1 << 32, 1 - 1<<32, math.MinInt, math.MinInt + 1, math.MinInt + 15,
	16, 17, 31, 32, 127, 128, 255, 256, 257, 271, 65535, 65536, 65537, math.MaxInt32, 1 << 31, 1 << 32, 1<<32 + 1, 1<<32 + 15, 1 << 62, math.MaxInt - 1, math.MaxInt,
}

// bit is the bit of a byte at a place, 0 the lowest.
func bit(x byte, place int) int {
	for range place {
		x /= 2
	}
	return int(x % 2)
}

// ones is how many bits of these places are 1.
func ones(x byte, places []int) int {
	n := 0
	for _, place := range places {
		n += bit(x, place)
	}
	return n
}

// apart is at how many places the bits of both are not the same, counted one by one.
func apart(a, b byte) int {
	n := 0
	for place := range 8 {
		if bit(a, place) != bit(b, place) {
			n++
		}
	}
	return n
}

// half is what P10.2 says of a byte, held against all sixteen words; the third one tells whether there is a half.
func half(x byte) (int, int, bool) {
	for h, w := range words {
		if n := apart(x, w); n <= 1 {
			return h, n, true
		}
	}
	return 0, 0, false
}

// packed is P10.3's words of these bytes.
func packed(b []byte) []byte {
	var w []byte
	for _, x := range b {
		w = append(w, words[x/16], words[x%16])
	}
	return w
}

// noise is n bytes that look like noise, the same ones in each run.
func noise(begin, n int) []byte {
	x := uint64(begin)
	b := make([]byte, n)
	for i := range b {
		x = x*6364136223846793005 + 1442695040888963407
		b[i] = byte(x >> 33)
	}
	return b
}

// texts are n bytes each: noise, bits that are all alike, and all bytes by turns.
func texts(n int) [][]byte {
	turns := make([]byte, n)
	for i := range turns {
		turns[i] = byte(i)
	}
	return [][]byte{noise(n+1, n), make([]byte, n), bytes.Repeat([]byte{0xff}, n), turns}
}

// makes fails the test if the half's word isn't this one.
func makes(t *testing.T, h int, want byte) {
	t.Helper()
	if w, err := hamming.Word(h); w != want || err != api.OK {
		t.Fatalf("Word(%d) = %08b, %d, not %08b", h, w, err, want)
	}
}

// tells fails the test if the half of this word, or how many bits are other ones, isn't this.
func tells(t *testing.T, word byte, want, others int) {
	t.Helper()
	if h, n, err := hamming.Half(word); h != want || n != others || err != api.OK {
		t.Fatalf("Half(%08b) = %d, %d, %d, not %d, %d", word, h, n, err, want, others)
	}
}

// refused fails the test if this byte has a half.
func refused(t *testing.T, word byte) {
	t.Helper()
	if h, n, err := hamming.Half(word); h != 0 || n != 0 || err != errCode {
		t.Fatalf("Half(%08b) = %d, %d, %d", word, h, n, err)
	}
}

// packs fails the test if Pack doesn't make these words of b.
func packs(t *testing.T, b, want []byte) {
	t.Helper()
	if w := hamming.Pack(b); !bytes.Equal(w, want) {
		t.Fatalf("Pack(%x) = %x, not %x", b, w, want)
	}
}

// unpacks fails the test if Unpack doesn't tell these bytes, and that so many bits were mended.
func unpacks(t *testing.T, w, want []byte, mended int) {
	t.Helper()
	if b, n, err := hamming.Unpack(w); !bytes.Equal(b, want) || n != mended || err != api.OK {
		t.Fatalf("Unpack(%x) = %x, %d, %d, not %x, %d", w, b, n, err, want, mended)
	}
}

// fails fails the test if Unpack doesn't answer this error, and nothing else.
func fails(t *testing.T, w []byte, want api.Errno) {
	t.Helper()
	if b, n, err := hamming.Unpack(w); len(b) != 0 || n != 0 || err != want {
		t.Fatalf("Unpack of %d words: %d bytes, %d, %d, not %d", len(w), len(b), n, err, want)
	}
}

// spare answers b with room behind it in which a guard stands, and a function that tells whether b and the guard are as they were.
func spare(b []byte) ([]byte, func() bool) {
	whole := slices.Concat([]byte{7}, b, []byte{8, 9, 10, 11, 12})
	was := bytes.Clone(whole)
	return whole[1 : 1+len(b)], func() bool { return bytes.Equal(whole, was) }
}

// overwrite puts other bytes in all of b's memory, up to its capacity.
func overwrite(b []byte) {
	b = b[:cap(b)]
	for i := range b {
		b[i] = ^b[i]
	}
}

func TestExamples(t *testing.T) { // P10.1, P10.2
	makes(t, 1, 15)
	tells(t, 14, 1, 1)
}

func TestWordWrittenOut(t *testing.T) { // P10.1
	for h, w := range words {
		makes(t, h, w)
	}
}

// The half's bits stand at the places 3, 5, 6 and 7.
func TestWordHasTheHalf(t *testing.T) { // P10.1
	for h := range 16 {
		w, err := hamming.Word(h)
		if err != api.OK {
			t.Fatal(h, err)
		}
		for i, place := range []int{3, 5, 6, 7} {
			if bit(w, place) != bit(byte(h), i) {
				t.Fatalf("Word(%d) = %08b: its bit %d isn't the half's bit %d", h, w, place, i)
			}
		}
	}
}

func TestWordHasEvenNumbers(t *testing.T) { // P10.1
	for _, places := range sets {
		for h := range 16 {
			w, err := hamming.Word(h)
			if n := ones(w, places); n%2 != 0 || err != api.OK {
				t.Fatalf("Word(%d) = %08b: of the bits %v there are %d", h, w, places, n)
			}
		}
	}
}

// No other byte has the half's bits and the four even numbers.
func TestWordIsTheOnlyOne(t *testing.T) { // P10.1
	for h := range 16 {
		var all []byte
		for x := range 256 {
			is := bit(byte(x), 3)+2*bit(byte(x), 5)+4*bit(byte(x), 6)+8*bit(byte(x), 7) == h
			for _, places := range sets {
				is = is && ones(byte(x), places)%2 == 0
			}
			if is {
				all = append(all, byte(x))
			}
		}
		if len(all) != 1 {
			t.Fatal(h, all)
		}
		makes(t, h, all[0])
	}
}

func TestWordOfNoHalf(t *testing.T) { // P10.1
	for _, h := range noHalves {
		if w, err := hamming.Word(h); w != 0 || err != errArg {
			t.Fatalf("Word(%d) = %08b, %d", h, w, err)
		}
	}
	for h := -70000; h < 70000; h++ {
		if _, err := hamming.Word(h); (err == api.OK) != (h >= 0 && h <= 15) {
			t.Fatal(h, err)
		}
	}
}

func TestHalfWrittenOut(t *testing.T) { // P10.2
	tells(t, 0b00000000, 0, 0)
	tells(t, 0b00001111, 1, 0)
	tells(t, 0b11111111, 15, 0)
	for _, x := range []byte{0b00000001, 0b00000010, 0b00000100, 0b00001000, 0b00010000, 0b00100000, 0b01000000, 0b10000000} {
		tells(t, x, 0, 1)
		tells(t, ^x, 15, 1)
	}
	for _, x := range []byte{0b00000011, 0b00000101, 0b00001001, 0b00010001, 0b10000001, 0b00000110, 0b11000000, 0b00001010, 0b00001100} {
		refused(t, x)
		refused(t, ^x)
	}
}

func TestHalfOfAllBytes(t *testing.T) { // P10.2
	counts := [3]int{}
	for x := range 256 {
		h, n, ok := half(byte(x))
		if ok {
			tells(t, byte(x), h, n)
			counts[n]++
		} else {
			refused(t, byte(x))
			counts[2]++
		}
	}
	if counts != [3]int{16, 128, 112} {
		t.Fatal(counts)
	}
}

func TestHalfOfEachWordAndWhatIsNear(t *testing.T) { // P10.2, P10.4
	for h := range 16 {
		w, err := hamming.Word(h)
		if err != api.OK {
			t.Fatal(h, err)
		}
		tells(t, w, h, 0)
		for i := range 8 {
			tells(t, w^1<<i, h, 1)
			for j := range i {
				refused(t, w^1<<i^1<<j)
			}
		}
	}
}

func TestApartWrittenOut(t *testing.T) { // P10.2
	for _, k := range []struct {
		a, b byte
		want int
	}{
		{0, 0, 0}, {255, 255, 0}, {0, 255, 8}, {255, 0, 8}, {0, 1, 1}, {0, 128, 1}, {127, 255, 1}, {254, 255, 1}, {1, 2, 2}, {1, 128, 2}, {3, 4, 3}, {15, 240, 8}, {0x55, 0xaa, 8}, {0x55, 0x5a, 4}, {7, 0, 3}, {0, 0x7f, 7},
	} {
		if n := hamming.Apart(k.a, k.b); n != k.want {
			t.Fatalf("Apart(%08b, %08b) = %d, not %d", k.a, k.b, n, k.want)
		}
	}
}

func TestApartOfAllPairs(t *testing.T) { // P10.2
	for a := range 256 {
		for b := range 256 {
			if n := hamming.Apart(byte(a), byte(b)); n != apart(byte(a), byte(b)) {
				t.Fatalf("Apart(%08b, %08b) = %d", a, b, n)
			}
		}
	}
}

func TestPackWrittenOut(t *testing.T) { // P10.3
	packs(t, []byte{0x10}, []byte{0b00001111, 0b00000000})
	packs(t, []byte{0x01}, []byte{0b00000000, 0b00001111})
	packs(t, []byte{0xf8}, []byte{0b11111111, 0b10010110})
	packs(t, []byte("ab"), []byte{0b01100110, 0b00001111, 0b01100110, 0b00110011})
}

func TestPackOfEachByte(t *testing.T) { // P10.3
	for x := range 256 {
		high, err1 := hamming.Word(x / 16)
		low, err2 := hamming.Word(x % 16)
		if err1 != api.OK || err2 != api.OK {
			t.Fatal(x, err1, err2)
		}
		packs(t, []byte{byte(x)}, []byte{high, low})
		packs(t, []byte{7, byte(x), 0xe0}, []byte{words[0], words[7], high, low, words[14], words[0]})
	}
}

func TestPackOfTexts(t *testing.T) { // P10.3
	for _, n := range []int{0, 1, 2, 3, 5, 64, 96, 255, 256, 512, maxIn - 1, maxIn} {
		for _, b := range texts(n) {
			packs(t, b, packed(b))
		}
	}
	for n := range 300 {
		packs(t, noise(n, n), packed(noise(n, n)))
	}
}

// Of more bytes than may come in not even the first ones are told.
func TestPackOfTooMany(t *testing.T) { // P10.3
	for _, n := range []int{maxIn + 1, maxIn + 2, 2 * maxIn, 2*maxIn + 1, 65536, 65537, 1 << 20} {
		for _, b := range texts(n) {
			packs(t, b, nil)
		}
	}
	packs(t, make([]byte, maxIn), make([]byte, 2*maxIn))
}

func TestNoBytes(t *testing.T) { // P10.3
	for _, none := range [][]byte{nil, {}, noise(1, 9)[:0]} {
		packs(t, none, nil)
		unpacks(t, none, nil, 0)
	}
}

func TestUnpackWrittenOut(t *testing.T) { // P10.3
	unpacks(t, []byte{0b00001111, 0b00000000}, []byte{0x10}, 0)
	unpacks(t, []byte{0b00001110, 0b00000000}, []byte{0x10}, 1)
	unpacks(t, []byte{0b00001110, 0b10000000}, []byte{0x10}, 2)
	unpacks(t, []byte{0b00000000, 0b00001111}, []byte{0x01}, 0)
	unpacks(t, []byte{0b01100110, 0b00001111, 0b01100010, 0b00110011}, []byte("ab"), 1)
	fails(t, []byte{0b00001111, 0b00000011}, errCode)
	fails(t, []byte{0b00001111}, errArg)
}

func TestUnpackOfAllPairs(t *testing.T) { // P10.3
	for x := range 256 {
		for y := range 256 {
			high, n, ok1 := half(byte(x))
			low, m, ok2 := half(byte(y))
			if ok1 && ok2 {
				unpacks(t, []byte{byte(x), byte(y)}, []byte{byte(16*high + low)}, n+m)
			} else {
				fails(t, []byte{byte(x), byte(y)}, errCode)
			}
		}
	}
}

func TestUnpackOfTooMany(t *testing.T) { // P10.3
	for _, n := range []int{2*maxIn + 1, 2*maxIn + 2, 2*maxIn + 3, 4 * maxIn, 65536, 65537, 1 << 20} {
		fails(t, make([]byte, n), errLong)
		fails(t, bytes.Repeat([]byte{0xff}, n), errLong)
		fails(t, packed(noise(n, n/2+1))[:n], errLong)
	}
	unpacks(t, make([]byte, 2*maxIn), make([]byte, maxIn), 0)
}

func TestUnpackOfOddNumber(t *testing.T) { // P10.3
	for _, n := range []int{1, 3, 5, 7, 63, 65, 255, 257, 511, 513, maxIn - 1, maxIn + 1, 2*maxIn - 3, 2*maxIn - 1} {
		fails(t, make([]byte, n), errArg)
		fails(t, packed(noise(n, n))[:n], errArg)
	}
}

// The error that the chapter names first is told.
func TestUnpackOfSeveralFaults(t *testing.T) { // P10.3, rule 2
	for _, n := range []int{2*maxIn + 1, 2*maxIn + 2, 2*maxIn + 3} {
		fails(t, bytes.Repeat([]byte{3}, n), errLong)
		for _, at := range []int{0, n / 2, n - 1} {
			w := make([]byte, n)
			w[at] = 3
			fails(t, w, errLong)
		}
	}
	for _, n := range []int{1, 3, 9, 2*maxIn - 1} {
		fails(t, bytes.Repeat([]byte{3}, n), errArg)
		for _, at := range []int{0, n / 2, n - 1} {
			w := make([]byte, n)
			w[at] = 3
			fails(t, w, errArg)
		}
	}
}

// One word without a half is enough, wherever it stands, and whatever was mended ahead of it.
func TestUnpackOfNoWord(t *testing.T) { // P10.3
	for _, n := range []int{1, 2, 3, 4, 5, 100} {
		w := packed(noise(n, n))
		for at := range w {
			for x := range 256 {
				if _, _, ok := half(byte(x)); ok {
					continue
				}
				bad := bytes.Clone(w)
				bad[at] = byte(x)
				fails(t, bad, errCode)
			}
		}
	}
	for _, at := range []int{0, 1, maxIn - 1, maxIn, maxIn + 1, 2*maxIn - 2, 2*maxIn - 1} {
		w := packed(noise(at, maxIn))
		w[at] ^= 0b01000010
		fails(t, w, errCode)
		for i := range w {
			if i != at {
				w[i] ^= 1 << (i % 8)
			}
		}
		fails(t, w, errCode)
	}
}

func TestWordsAreFarApart(t *testing.T) { // P10.4
	for g := range 16 {
		for h := range 16 {
			v, err1 := hamming.Word(g)
			w, err2 := hamming.Word(h)
			if err1 != api.OK || err2 != api.OK {
				t.Fatal(g, h, err1, err2)
			}
			if n := hamming.Apart(v, w); n != apart(v, w) || g == h && n != 0 || g != h && n < 4 {
				t.Fatalf("Word(%d) = %08b and Word(%d) = %08b are apart at %d places", g, v, h, w, n)
			}
		}
	}
}

func TestPackedAndUnpacked(t *testing.T) { // P10.4
	for _, n := range []int{0, 1, 2, 3, 5, 64, 96, 256, 512, maxIn - 1, maxIn} {
		for _, b := range texts(n) {
			unpacks(t, hamming.Pack(b), b, 0)
		}
	}
	for x := range 256 {
		unpacks(t, hamming.Pack([]byte{byte(x)}), []byte{byte(x)}, 0)
	}
}

func TestOneBitOfEachWordTurned(t *testing.T) { // P10.4
	for _, n := range []int{1, 2, 3, 64, 256, maxIn} {
		for _, b := range texts(n) {
			for same := range 8 {
				w, v := hamming.Pack(b), hamming.Pack(b)
				for i := range w {
					w[i] ^= 1 << same
					v[i] ^= 1 << ((i*3 + same + i/8) % 8)
				}
				unpacks(t, w, b, 2*n)
				unpacks(t, v, b, 2*n)
			}
		}
	}
	for x := range 256 {
		for i := range 8 {
			for j := range 8 {
				w := hamming.Pack([]byte{byte(x)})
				unpacks(t, []byte{w[0] ^ 1<<i, w[1] ^ 1<<j}, []byte{byte(x)}, 2)
			}
		}
	}
}

func TestOneBitOfSomeWordsTurned(t *testing.T) { // P10.4
	for _, n := range []int{1, 2, 3, 64, 256, maxIn} {
		for begin := range 8 {
			b, chosen := noise(n+begin, n), noise(n-begin, 2*n)
			w, turned := hamming.Pack(b), 0
			for i := range w {
				if chosen[i]%2 == 0 {
					w[i] ^= 1 << (chosen[i] / 2 % 8)
					turned++
				}
			}
			unpacks(t, w, b, turned)
		}
	}
	b := noise(5, 20)
	for at := range 2 * len(b) {
		for i := range 8 {
			w := hamming.Pack(b)
			w[at] ^= 1 << i
			unpacks(t, w, b, 1)
		}
	}
}

func TestTwoBitsOfOneWordTurned(t *testing.T) { // P10.4
	b := noise(6, 20)
	for at := range 2 * len(b) {
		for i := range 8 {
			for j := range i {
				w := hamming.Pack(b)
				w[at] ^= 1<<i | 1<<j
				fails(t, w, errCode)
			}
		}
	}
}

func TestHandedInStays(t *testing.T) { // rule 3
	for _, n := range []int{0, 1, 2, 64, maxIn, maxIn + 1} {
		b, kept := spare(noise(n, n))
		overwrite(hamming.Pack(b))
		if !kept() {
			t.Fatalf("Pack of %d bytes changed them, or its answer shares memory with them", n)
		}
	}
	for _, n := range []int{0, 1, 2, 3, 64, 2 * maxIn, 2*maxIn + 1, 2*maxIn + 2} {
		turned := packed(noise(n, n))[:n]
		for i := range turned {
			turned[i] ^= 1 << (i % 8)
		}
		for _, words := range [][]byte{packed(noise(n, n))[:n], turned, bytes.Repeat([]byte{3}, n)} {
			w, kept := spare(words)
			b, _, _ := hamming.Unpack(w)
			overwrite(b)
			if !kept() {
				t.Fatalf("Unpack of %d words changed them, or its answer shares memory with them", n)
			}
		}
	}
}

func TestAnsweredIsNew(t *testing.T) { // rule 3
	for _, n := range []int{0, 1, 2, 64, maxIn} {
		b := noise(n, n)
		want := packed(b)
		w := hamming.Pack(b)
		overwrite(hamming.Pack(b))
		overwrite(b)
		if !bytes.Equal(w, want) {
			t.Fatalf("what Pack of %d bytes answers became another text", n)
		}
		got, mended, err := hamming.Unpack(w)
		other, _, _ := hamming.Unpack(w)
		overwrite(other)
		overwrite(w)
		if !bytes.Equal(got, noise(n, n)) || mended != 0 || err != api.OK {
			t.Fatalf("what Unpack of %d words answers became another text", 2*n)
		}
		packs(t, noise(n, n), want)
		unpacks(t, want, noise(n, n), 0)
	}
}

// Nothing of one call is kept for the next one.
func TestSameCallsSameAnswers(t *testing.T) { // rules 3 and 4
	for range 3 {
		makes(t, 1, 15)
		tells(t, 14, 1, 1)
		refused(t, 3)
		tells(t, 15, 1, 0)
		w := hamming.Pack([]byte("kedge"))
		unpacks(t, w, []byte("kedge"), 0)
		w[3] ^= 8
		unpacks(t, w, []byte("kedge"), 1)
		w[3] ^= 1
		fails(t, w, errCode)
		fails(t, w[:9], errArg)
		w[3] ^= 9
		unpacks(t, w, []byte("kedge"), 0)
		packs(t, make([]byte, maxIn+1), nil)
		packs(t, []byte{0x10}, []byte{15, 0})
	}
}
