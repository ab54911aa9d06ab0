package line_test

import (
	"bytes"
	"kedge/api"
	"kedge/corr"
	"kedge/hamming"
	"kedge/line"
	"kedge/octet"
	"kedge/phase"
	"kedge/scram"
	"kedge/weave"
	"math"
	"slices"
	"testing"
)

// The numbers that the document names, written out, so that the tests hold whatever api says.
const (
	maxWire  = 512
	maxPoint = 16384
	// markPoints are the points of the mark, and numberPoints those of the mark and of a number's words.
	markPoints   = 17
	numberPoints = 33
)

// markKinds are the kinds of the mark's points, reckoned apart from the program.
const markKinds = "00131003210333030"

// mark is the mark's bytes.
var mark = []byte{0x1a, 0xcf, 0xfc, 0x1d}

// four are the points of the kinds 0 to 3.
var four = []complex128{complex(1, 1), complex(-1, 1), complex(-1, -1), complex(1, -1)}

// someBytes are numbers of bytes, those at the edges among them.
var someBytes = []int{0, 1, 2, 3, 4, 5, 6, 7, 8, 9, 15, 16, 17, 31, 32, 33, 63, 64, 65, 96, 100, 255, 256, 257, 511, 512}

// tooMany are numbers of bytes that may not be sent.
var tooMany = []int{513, 514, 515, 520, 768, 1023, 1024, 1025, 2048, 2049, 4095, 4096, 4097, 8192, 65535, 65536, 65537, 66048, 1 << 20}

// noLengths are numbers that become no points, such as become some that do if they are cut short among them.
var noLengths = []int{
	-1, -2, -3, -4, -5, -8, -32, -33, -255, -256, -511, -512, -513, -65535, -65536, math.MinInt32, math.MinInt32 - 1, -1 << 32, 1 - 1<<32, math.MinInt, math.MinInt + 1, math.MinInt + 5, math.MinInt + 512,
	513, 514, 515, 520, 1024, 2043, 2044, 4096, 65535, 65536, 65537, math.MaxInt32, 1 << 31, 1 << 32, 1<<32 + 1, 1<<32 + 512, 1 << 60, 1 << 61, 1<<61 + 1, 1 << 62, math.MaxInt - 1, math.MaxInt,
}

// kinds is the points whose kinds these digits tell.
func kinds(digits string) []complex128 {
	l := make([]complex128, len(digits))
	for i := range l {
		l[i] = four[digits[i]-'0']
	}
	return l
}

// turned is l with each point turned by k right angles, k from 0 on.
func turned(l []complex128, k int) []complex128 {
	out := slices.Clone(l)
	for i, z := range out {
		for range k {
			z = complex(-imag(z), real(z))
		}
		out[i] = z
	}
	return out
}

// numbers answers a function that tells numbers that look like noise, the same ones in each run.
func numbers(begin int) func() int {
	x := uint64(begin)
	return func() int {
		x = x*6364136223846793005 + 1442695040888963407
		return int(x >> 33)
	}
}

// noise is n bytes that look like noise.
func noise(begin, n int) []byte {
	next := numbers(begin)
	b := make([]byte, n)
	for i := range b {
		b[i] = byte(next())
	}
	return b
}

// rough is n points of the four kinds that look like noise.
func rough(begin, n int) []complex128 {
	next := numbers(begin)
	l := make([]complex128, n)
	for i := range l {
		l[i] = four[next()%4]
	}
	return l
}

// shifted is l with each part made greater or smaller, so that the point lies between the four, but in the same quarter.
func shifted(begin int, l []complex128) []complex128 {
	next := numbers(begin)
	far := []float64{1, 0.25, 3, 1e-300, 1e300, 0.999, 100, math.SmallestNonzeroFloat64, math.MaxFloat64, math.Inf(1)}
	out := slices.Clone(l)
	for i, z := range out {
		out[i] = complex(real(z)*far[next()%len(far)], imag(z)*far[next()%len(far)])
	}
	return out
}

// texts are n bytes each: noise, bits that are all alike, and all bytes by turns.
func texts(n int) [][]byte {
	turns := make([]byte, n)
	for i := range turns {
		turns[i] = byte(7 * i)
	}
	return [][]byte{noise(n+1, n), make([]byte, n), bytes.Repeat([]byte{0xff}, n), turns}
}

// numberWords are the words that tell a number, of two bytes.
func numberWords(n int) []byte {
	return hamming.Pack(octet.Put(uint64(n), 2))
}

// bodyWords are the words of b, as they are ahead of being laid apart.
func bodyWords(b []byte) []byte {
	return hamming.Pack(scram.Do(17217, b))
}

// built is the points of the mark, of a number's words and of the bytes' words, whatever these are.
func built(number, body []byte) []complex128 {
	return phase.Points(slices.Concat(mark, number, weave.Do(body, 8)))
}

// sent is the points of b, as P12.1 says what they are made of.
func sent(b []byte) []complex128 {
	return built(numberWords(len(b)), bodyWords(b))
}

// heard is P12.2, step by step.
func heard(l []complex128) ([]byte, int, api.Errno) {
	if len(l) > maxPoint {
		return nil, 0, api.ErrLong
	}
	l = corr.Sliced(l)
	at, _, ok := corr.Find(l, phase.Points(mark))
	if !ok || len(l)-at < numberPoints {
		return nil, 0, api.ErrLine
	}
	l = l[at:]
	w, err := phase.Bytes(l[:numberPoints])
	if err != api.OK {
		return nil, 0, api.ErrLine
	}
	number, first, err := hamming.Unpack(w[4:])
	if err != api.OK {
		return nil, 0, api.ErrLine
	}
	n := 256*int(number[0]) + int(number[1])
	if n > maxWire || len(l) < 33+8*n {
		return nil, 0, api.ErrLine
	}
	w, err = phase.Bytes(l[:33+8*n])
	if err != api.OK {
		return nil, 0, api.ErrLine
	}
	b, second, err := hamming.Unpack(weave.Undo(w[8:], 8))
	if err != api.OK {
		return nil, 0, api.ErrLine
	}
	return scram.Do(17217, b), first + second, api.OK
}

// hears fails the test if these bytes aren't heard, with so many bits mended.
func hears(t *testing.T, l []complex128, b []byte, mended int) {
	t.Helper()
	if c, n, err := line.Hear(l); !bytes.Equal(c, b) || n != mended || err != api.OK {
		t.Fatalf("Hear of %d points = %x, %d, %d, not %x, %d", len(l), c, n, err, b, mended)
	}
}

// wrong fails the test if anything is heard, or if another error is told than this one, or anything beside it.
func wrong(t *testing.T, l []complex128, want api.Errno) {
	t.Helper()
	if c, n, err := line.Hear(l); len(c) != 0 || n != 0 || err != want {
		t.Fatalf("Hear of %d points = %x, %d, %d, not %d alone", len(l), c, n, err, want)
	}
}

// send answers what Send makes of b, and fails the test if that is an error.
func send(t *testing.T, b []byte) []complex128 {
	t.Helper()
	l, err := line.Send(b)
	if err != api.OK {
		t.Fatalf("Send of %d bytes: %d", len(b), err)
	}
	return l
}

// sends fails the test if Send doesn't make these points of b.
func sends(t *testing.T, b []byte, want []complex128) {
	t.Helper()
	if l := send(t, b); !slices.Equal(l, want) {
		t.Fatalf("Send(%x) = %v, not %v", b, l, want)
	}
}

// firstAt tells whether the mark stands first at this place of l, all of l taken for the nearest of the four.
func firstAt(l []complex128, at int) bool {
	place, _, ok := corr.Find(corr.Sliced(l), kinds(markKinds))
	return ok && place == at
}

// sameList tells whether two lists have the same points bit for bit, those that are no numbers among them.
func sameList(a, b []complex128) bool {
	return slices.EqualFunc(a, b, func(y, z complex128) bool {
		return math.Float64bits(real(y)) == math.Float64bits(real(z)) && math.Float64bits(imag(y)) == math.Float64bits(imag(z))
	})
}

// sparePoints answers l with room behind it in which a guard stands, and a function that tells whether l and the guard are as they were.
func sparePoints(l []complex128) ([]complex128, func() bool) {
	whole := slices.Concat([]complex128{7}, l, []complex128{8, 9, 10, 11, 12})
	was := slices.Clone(whole)
	return whole[1 : 1+len(l)], func() bool { return sameList(whole, was) }
}

// spareBytes is sparePoints of bytes.
func spareBytes(b []byte) ([]byte, func() bool) {
	whole := slices.Concat([]byte{7}, b, []byte{8, 9, 10, 11, 12})
	was := bytes.Clone(whole)
	return whole[1 : 1+len(b)], func() bool { return bytes.Equal(whole, was) }
}

// overwritePoints puts other points in all of l's memory, up to its capacity.
func overwritePoints(l []complex128) {
	l = l[:cap(l)]
	for i := range l {
		l[i] = 99 - l[i]
	}
}

// overwriteBytes is overwritePoints of bytes.
func overwriteBytes(b []byte) {
	b = b[:cap(b)]
	for i := range b {
		b[i] = ^b[i]
	}
}

func TestExamples(t *testing.T) { // P12.1, P12.2
	if n := line.Long(6); n != 81 {
		t.Fatal(n)
	}
	wrong(t, nil, api.ErrLine)
}

// The kinds of these points were reckoned apart from the program.
func TestSendWrittenOut(t *testing.T) { // P12.1
	for _, k := range []struct {
		text, kinds string
	}{
		{"", "001310032103330300000000000000000"},
		{"a", "00131003210333030000000000000003211003332"},
		{"\x00\xff", "0013100321033303000000000000003320302331232020012"},
		{"kedge", "0013100321033303000000000000012020032002311220113331001030121222123312213"},
		{"\x00\x01\x02\x03\x04\x05\x06\x07", "0013100321033303000000000000023021130001331132030031032332333303203330112021300320331233202112212"},
	} {
		sends(t, []byte(k.text), kinds(k.kinds))
		hears(t, kinds(k.kinds), []byte(k.text), 0)
	}
}

func TestSendPutTogether(t *testing.T) { // P12.1
	for n := range maxWire + 1 {
		for _, b := range texts(n) {
			sends(t, b, sent(b))
		}
	}
	for x := range 256 {
		for _, b := range [][]byte{{byte(x)}, {byte(x), 0xa3}, {0x5c, byte(x)}} {
			sends(t, b, sent(b))
		}
	}
}

func TestSendNoBytes(t *testing.T) { // P12.1
	for _, none := range [][]byte{nil, {}, noise(1, 9)[:0]} {
		sends(t, none, sent(nil))
	}
}

// Of more bytes than there may be not even the first ones are sent.
func TestSendTooManyBytes(t *testing.T) { // P12.1
	for _, n := range tooMany {
		for _, b := range [][]byte{noise(n, n), make([]byte, n)} {
			if l, err := line.Send(b); len(l) != 0 || err != api.ErrLong {
				t.Fatalf("Send of %d bytes = %d points, %d", n, len(l), err)
			}
		}
	}
}

func TestLong(t *testing.T) { // P12.1
	for n := range maxWire + 1 {
		if long := line.Long(n); long != 33+8*n || long != len(send(t, noise(n, n))) {
			t.Fatalf("Long(%d) = %d", n, long)
		}
	}
	for n, want := range map[int]int{0: 33, 1: 41, 2: 49, 511: 4121, 512: 4129} {
		if long := line.Long(n); long != want {
			t.Fatalf("Long(%d) = %d, not %d", n, long, want)
		}
	}
}

func TestLongOfNoLength(t *testing.T) { // P12.1
	for _, n := range noLengths {
		if long := line.Long(n); long != 0 {
			t.Fatalf("Long(%d) = %d", n, long)
		}
	}
	for n := -70000; n < 70000; n++ {
		if long := line.Long(n); (long != 0) != (n >= 0 && n <= maxWire) {
			t.Fatalf("Long(%d) = %d", n, long)
		}
	}
}

func TestHearWhatWasSent(t *testing.T) { // P12.2, P12.3
	for n := range maxWire + 1 {
		for i, b := range texts(n) {
			// Greater texts are turned each by one turn, so that all are tried without taking long.
			for turn := range 4 {
				if n < 70 || turn == (n+i)%4 {
					hears(t, turned(send(t, b), turn), b, 0)
				}
			}
		}
	}
	for _, n := range someBytes {
		for turn := range 4 {
			b := noise(n, n)
			hears(t, turned(send(t, b), turn), b, 0)
			hears(t, turned(sent(b), turn), b, 0)
		}
	}
}

func TestHearNoPoints(t *testing.T) { // P12.2
	for _, none := range [][]complex128{nil, {}, rough(1, 9)[:0]} {
		wrong(t, none, api.ErrLine)
	}
}

func TestHearNoMark(t *testing.T) { // P12.2
	for n := range 300 {
		wrong(t, rough(n, n), api.ErrLine)
	}
	for _, n := range []int{1, 16, 17, 33, 1000, 4129, maxPoint - 1, maxPoint} {
		for _, z := range []complex128{0, 1, 1 + 1i, -1 - 1i, 5, complex(math.NaN(), math.Inf(-1))} {
			wrong(t, slices.Repeat([]complex128{z}, n), api.ErrLine)
		}
		wrong(t, rough(n, n), api.ErrLine)
	}
	l := sent([]byte("kedge"))
	wrong(t, l[1:], api.ErrLine)
	wrong(t, l[markPoints:], api.ErrLine)
	// Seen in a mirror, or backwards, the mark is none.
	mirrored, back := slices.Clone(l), slices.Clone(l)
	for i, z := range l {
		mirrored[i] = complex(imag(z), real(z))
	}
	slices.Reverse(back)
	wrong(t, mirrored, api.ErrLine)
	wrong(t, back, api.ErrLine)
}

// The mark is not mended: with any one point another one it is none.
func TestHearSpoiltMark(t *testing.T) { // P12.2
	l := sent([]byte("kedge"))
	for at := range markPoints {
		for turn := 1; turn < 4; turn++ {
			x := slices.Clone(l)
			copy(x[at:], turned(x[at:at+1], turn))
			wrong(t, x, api.ErrLine)
		}
	}
}

func TestHearTooManyPoints(t *testing.T) { // P12.2
	for _, n := range []int{0, 1, 5, 512} {
		b := noise(n, n)
		l := sent(b)
		quiet := slices.Repeat(four[:1], maxPoint+1-len(l))
		hears(t, slices.Concat(l, quiet[1:]), b, 0)
		hears(t, slices.Concat(quiet[1:], l), b, 0)
		wrong(t, slices.Concat(l, quiet), api.ErrLong)
		wrong(t, slices.Concat(quiet, l), api.ErrLong)
	}
	for _, n := range []int{maxPoint + 1, maxPoint + 2, 2 * maxPoint, 65536, 65536 + 33, 1 << 18} {
		wrong(t, rough(n, n), api.ErrLong)
		wrong(t, make([]complex128, n), api.ErrLong)
		wrong(t, append(sent([]byte("a")), make([]complex128, n)...), api.ErrLong)
	}
}

func TestHearMarkAlone(t *testing.T) { // P12.2
	l := kinds(markKinds)
	if !slices.Equal(l, phase.Points(mark)) {
		t.Fatal("the tests' own mark")
	}
	for turn := range 4 {
		wrong(t, turned(l, turn), api.ErrLine)
		wrong(t, slices.Concat(rough(1, 50), turned(l, turn)), api.ErrLine)
	}
}

// With one point too few, and with fewer, a number isn't told: not one that is 0 nor one that is above what may be.
func TestHearNumberCutShort(t *testing.T) { // P12.2
	for _, n := range []int{0, 1, 5, 512, 513, 65535} {
		l := built(numberWords(n), nil)
		for long := range numberPoints {
			wrong(t, l[:long], api.ErrLine)
			wrong(t, slices.Concat(rough(2, 20), l[:long]), api.ErrLine)
		}
	}
	hears(t, built(numberWords(0), nil), nil, 0)
}

func TestHearNumberOfNone(t *testing.T) { // P12.2
	l := built(numberWords(0), nil)
	for n := range 40 {
		hears(t, slices.Concat(l, rough(n, n)), nil, 0)
	}
	hears(t, slices.Concat(l, sent([]byte("a"))), nil, 0)
}

// So many bytes may not be, though all their points may be there.
func TestHearNumberTooGreat(t *testing.T) { // P12.2
	for _, n := range []int{513, 514, 515, 520, 767, 768, 1023, 1024, 1025, 2042, 2043} {
		l := built(numberWords(n), bodyWords(noise(n, n)))
		if len(l) != 33+8*n || len(l) > maxPoint {
			t.Fatal("the tests' own points", n, len(l))
		}
		wrong(t, l, api.ErrLine)
		wrong(t, turned(l, 3), api.ErrLine)
	}
	for n := maxWire + 1; n < 65536; n += 1 + n/100 {
		wrong(t, slices.Concat(built(numberWords(n), bodyWords(make([]byte, 512))), rough(n, 40)), api.ErrLine)
		wrong(t, built(numberWords(n), nil), api.ErrLine)
	}
	wrong(t, built(numberWords(65535), nil), api.ErrLine)
}

// The bytes' points with some too few, and with some more behind.
func TestHearBytesCutShort(t *testing.T) { // P12.2
	for _, n := range someBytes[1:] {
		b := noise(n, n)
		l := sent(b)
		for _, fewer := range []int{1, 2, 3, 4, 5, 7, 8, 8*n - 1, 8 * n} {
			wrong(t, l[:len(l)-fewer], api.ErrLine)
			wrong(t, slices.Concat(rough(n, 30), l[:len(l)-fewer]), api.ErrLine)
		}
		for _, more := range []int{1, 2, 3, 4, 5, 7, 8, 9, 100, 1000} {
			hears(t, slices.Concat(l, rough(more, more)), b, 0)
		}
	}
	l := sent([]byte("over the line"))
	for long := range len(l) {
		wrong(t, l[:long], api.ErrLine)
	}
}

// pairs calls f with each word's place below n and each mask of two bits.
func pairs(n int, f func(at int, mask byte)) {
	for at := range n {
		for high := 1; high < 8; high++ {
			for low := range high {
				f(at, 1<<high|1<<low)
			}
		}
	}
}

func TestHearNumberNoWords(t *testing.T) { // P12.2
	for _, b := range [][]byte{nil, []byte("kedge"), noise(3, 512)} {
		pairs(4, func(at int, mask byte) {
			number := numberWords(len(b))
			number[at] ^= mask
			wrong(t, built(number, bodyWords(b)), api.ErrLine)
		})
	}
}

func TestHearBytesNoWords(t *testing.T) { // P12.2
	for _, b := range [][]byte{[]byte("a"), []byte("kedge"), noise(4, 20)} {
		pairs(2*len(b), func(at int, mask byte) {
			body := bodyWords(b)
			body[at] ^= mask
			wrong(t, built(numberWords(len(b)), body), api.ErrLine)
		})
	}
}

// Each one bit of a word may be another one, of as many words as one likes.
func TestHearMendsEachBit(t *testing.T) { // P12.2
	for _, n := range []int{0, 1, 2, 4, 5, 20} {
		b := noise(n, n)
		for bit := range 8 {
			for at := range 4 {
				number := numberWords(n)
				number[at] ^= 1 << bit
				hears(t, built(number, bodyWords(b)), b, 1)
			}
			for at := range 2 * n {
				body := bodyWords(b)
				body[at] ^= 1 << bit
				hears(t, built(numberWords(n), body), b, 1)
			}
		}
	}
}

func TestHearTellsAllMended(t *testing.T) { // P12.2
	for _, n := range someBytes {
		next := numbers(n)
		b := noise(n, n)
		number, body := numberWords(n), bodyWords(b)
		for at := range number {
			number[at] ^= 1 << (next() % 8)
			hears(t, turned(built(number, body), at), b, at+1)
		}
		for at := range body {
			body[at] ^= 1 << (next() % 8)
			if n < 40 || at == len(body)-1 {
				hears(t, turned(built(number, body), at%4), b, 4+at+1)
				hears(t, built(numberWords(n), body), b, at+1)
			}
		}
	}
}

// Where several things are wrong each of them leads to the same error, but of too many points another one is told.
func TestHearSeveralFaults(t *testing.T) { // P12.2
	number, body := numberWords(700), bodyWords(noise(5, 20))
	number[1] ^= 3
	body[2] ^= 0x81
	for _, l := range [][]complex128{
		built(number, body),
		built(number, nil)[:30],
		built(number, body)[:150],
		built(numberWords(700), body),
		built(numberWords(21), body),
		built(number, body)[1:],
		built(numberWords(20), body)[:len(sent(make([]byte, 20)))-1],
	} {
		wrong(t, l, api.ErrLine)
		wrong(t, turned(l, 2), api.ErrLine)
		wrong(t, slices.Concat(l, make([]complex128, maxPoint-len(l))), api.ErrLine)
		wrong(t, slices.Concat(l, make([]complex128, maxPoint+1-len(l))), api.ErrLong)
	}
}

// What was mended ahead of what is wrong isn't told.
func TestHearWrongBehindMended(t *testing.T) { // P12.2, rule 2
	b := []byte("kedge")
	for at := range 4 {
		number, great, body := numberWords(len(b)), numberWords(700), bodyWords(b)
		number[at] ^= 4
		great[at] ^= 4
		body[9] ^= 0x22
		whole := built(number, bodyWords(b))
		hears(t, whole, b, 1)
		wrong(t, whole[:len(whole)-1], api.ErrLine)
		wrong(t, built(number, body), api.ErrLine)
		wrong(t, built(great, bodyWords(make([]byte, 700))), api.ErrLine)
		number[3-at] ^= 0x44
		wrong(t, built(number, bodyWords(b)), api.ErrLine)
	}
}

// The first mark counts alone: what stands behind it is the number, and if that is wrong no other mark is looked for.
func TestHearFirstMark(t *testing.T) { // P12.2
	number, body := numberWords(5), bodyWords([]byte("kedge"))
	number[3] ^= 0x18
	body[7] ^= 0x18
	right := sent([]byte("right"))
	for turn := range 4 {
		hears(t, slices.Concat(turned(sent([]byte("first")), turn), right), []byte("first"), 0)
		wrong(t, slices.Concat(built(number, bodyWords([]byte("first"))), turned(right, turn)), api.ErrLine)
		wrong(t, slices.Concat(built(numberWords(5), body), turned(right, turn)), api.ErrLine)
		wrong(t, slices.Concat(built(numberWords(513), nil), turned(right, turn)), api.ErrLine)
		wrong(t, slices.Concat(built(numberWords(512), nil), turned(right, turn)), api.ErrLine)
	}
	// What stands right behind a mark is taken for a number's words, another mark too.
	twice := slices.Concat(kinds(markKinds), right[1:])
	if b, n, err := heard(twice); len(b) != 0 || n != 0 || err != api.ErrLine {
		t.Fatal("the tests' own answer", b, n, err)
	}
	wrong(t, twice, api.ErrLine)
}

// Any points may stand ahead among which there is no mark, and any behind, whichever way the whole is turned.
func TestHearBehindNoise(t *testing.T) { // P12.3
	for n := range 120 {
		b := noise(n, n%30)
		l := turned(sent(b), n%4)
		for _, ahead := range [][]complex128{rough(n, n), rough(n+7, 3*n+1), slices.Repeat(four[n%4:n%4+1], n), shifted(n, rough(n, 2*n))} {
			whole := slices.Concat(ahead, l, rough(n+1, n%7))
			if !firstAt(whole, len(ahead)) {
				t.Fatal("the tests' own noise has a mark", n)
			}
			hears(t, whole, b, 0)
			hears(t, turned(whole, 1+n%3), b, 0)
		}
	}
}

// A mark of which a point is missing, or is another one, is none, also where what was sent begins right behind it.
func TestHearBehindPartOfMark(t *testing.T) { // P12.3
	b := []byte("kedge")
	l := sent(b)
	tried := 0
	for long := 1; long < markPoints; long++ {
		for turn := range 4 {
			for _, part := range [][]complex128{kinds(markKinds)[:long], kinds(markKinds)[markPoints-long:], l[markPoints:][:long]} {
				whole := slices.Concat(turned(part, turn), l)
				if firstAt(whole, long) {
					tried++
					hears(t, whole, b, 0)
				}
			}
		}
	}
	if tried < 150 {
		t.Fatal("the tests' own parts of marks", tried)
	}
	for at := range markPoints {
		almost := kinds(markKinds)
		almost[at] = -almost[at]
		hears(t, slices.Concat(almost, l), b, 0)
		hears(t, slices.Concat(turned(almost, 1), l), b, 0)
	}
}

func TestHearAheadOfAny(t *testing.T) { // P12.3
	for _, n := range someBytes {
		b := noise(n, n)
		l := sent(b)
		for _, behind := range [][]complex128{l, turned(l, 1), sent([]byte("other")), kinds(markKinds), rough(n, 500), make([]complex128, 40), {complex(math.NaN(), math.NaN())}} {
			hears(t, slices.Concat(l, behind), b, 0)
		}
	}
}

// The points may lie between the four: each is taken for the nearest of them.
func TestHearBetweenTheFour(t *testing.T) { // P12.2, P12.3
	for n := range 80 {
		b := noise(n, n)
		for turn := range 4 {
			l := turned(sent(b), turn)
			hears(t, shifted(n, l), b, 0)
			ahead := shifted(n+1, rough(n, n))
			if firstAt(slices.Concat(ahead, l), n) {
				hears(t, slices.Concat(ahead, shifted(n+2, l), shifted(n+3, rough(n, 9))), b, 0)
			}
		}
	}
	b := noise(5, 512)
	hears(t, shifted(5, sent(b)), b, 0)
}

// A part that is 0, with either sign, counts as 1; one that is no number as -1.
func TestHearPartsAtTheEdge(t *testing.T) { // P12.2
	above := []float64{0, math.Copysign(0, -1), math.SmallestNonzeroFloat64, math.Inf(1)}
	below := []float64{-math.SmallestNonzeroFloat64, math.Inf(-1), math.NaN(), math.Copysign(math.NaN(), -1)}
	part := func(x float64, i int) float64 {
		if x > 0 {
			return above[i%len(above)]
		}
		return below[i%len(below)]
	}
	for n := range 40 {
		b := noise(n, n)
		for turn := range 4 {
			l := turned(sent(b), turn)
			for i, z := range l {
				l[i] = complex(part(real(z), i+n), part(imag(z), i/4))
			}
			hears(t, l, b, 0)
		}
	}
}

// mends fails the test if, with the one point another one, b isn't heard, or other bits are told mended than those that are other ones.
func mends(t *testing.T, b []byte, at, turn int) {
	t.Helper()
	l := sent(b)
	was, _ := phase.Bytes(l)
	copy(l[at:], turned(l[at:at+1], turn))
	is, _ := phase.Bytes(l)
	others := 0
	for i := range was {
		others += hamming.Apart(was[i], is[i])
	}
	if others == 0 {
		t.Fatal("the tests' own point is no other one", at, turn)
	}
	hears(t, turned(l, at%4), b, others)
	if at%5 == 0 {
		ahead := rough(at, 40)
		if whole := slices.Concat(ahead, turned(l, turn), rough(turn, 3)); firstAt(whole, len(ahead)) {
			hears(t, whole, b, others)
		}
	}
}

func TestMendsAnyPoint(t *testing.T) { // P12.4
	for n := 5; n <= 40; n++ {
		for _, b := range [][]byte{noise(n, n), make([]byte, n)} {
			for at := numberPoints; at < 33+8*n; at++ {
				for turn := 1; turn < 4; turn++ {
					mends(t, b, at, turn)
				}
			}
		}
	}
}

func TestMendsAnyPointOfGreatTexts(t *testing.T) { // P12.4
	for _, n := range []int{63, 64, 65, 100, 255, 256, 257, 511, 512} {
		b := noise(n, n)
		for at := numberPoints; at < 33+8*n; at += 1 + n/32 {
			for turn := 1; turn < 4; turn++ {
				mends(t, b, at, turn)
			}
		}
		for turn := 1; turn < 4; turn++ {
			mends(t, b, numberPoints, turn)
			mends(t, b, 33+8*n-1, turn)
		}
	}
}

// Whatever becomes of the points, what is heard is what P12.2 says.
func TestHearOfAnyPoints(t *testing.T) { // P12.2
	seen := map[api.Errno]int{}
	for i := range 20000 {
		next := numbers(i)
		l := slices.Concat(rough(i, next()%20), turned(sent(noise(i, next()%12)), next()%4), rough(i+1, next()%10))
		for range next() % 4 {
			l[next()%len(l)] = four[next()%4]
		}
		if next()%6 == 0 {
			l = l[:next()%(len(l)+1)]
		}
		b, n, err := line.Hear(l)
		wantB, wantN, wantErr := heard(l)
		if !bytes.Equal(b, wantB) || n != wantN || err != wantErr {
			t.Fatalf("Hear(%v) = %x, %d, %d, not %x, %d, %d", l, b, n, err, wantB, wantN, wantErr)
		}
		seen[err]++
	}
	if seen[api.OK] < 2000 || seen[api.ErrLine] < 2000 {
		t.Fatal("the tests' own points", seen)
	}
}

func TestHandedInStays(t *testing.T) { // rule 3
	for _, n := range slices.Concat(someBytes, tooMany) {
		b, kept := spareBytes(noise(n, n))
		l, _ := line.Send(b)
		overwritePoints(l)
		if !kept() {
			t.Fatalf("of %d bytes: what was handed to Send is another text", n)
		}
	}
	for _, n := range someBytes {
		whole := sent(noise(n, n))
		number := numberWords(n)
		number[0] ^= 3
		for _, l := range [][]complex128{
			whole, whole[:len(whole)-1], turned(whole, 1), shifted(n, whole), rough(n, n),
			slices.Concat(rough(n, 9), whole), built(number, nil), make([]complex128, maxPoint), make([]complex128, maxPoint+1),
			{complex(math.NaN(), math.Copysign(0, -1))},
		} {
			x, kept := sparePoints(l)
			b, _, _ := line.Hear(x)
			overwriteBytes(b)
			if !kept() {
				t.Fatalf("of %d points: what was handed to Hear are other ones", len(l))
			}
		}
	}
}

func TestAnsweredIsNew(t *testing.T) { // rule 3
	for _, n := range someBytes {
		b := noise(n, n)
		l := send(t, b)
		want := slices.Clone(l)
		c, _, _ := line.Hear(l)
		overwritePoints(send(t, b))
		again, _, _ := line.Hear(l)
		overwriteBytes(again)
		overwriteBytes(b)
		overwritePoints(l)
		if !bytes.Equal(c, noise(n, n)) {
			t.Fatalf("of %d bytes: what Hear answered became another text", n)
		}
		l = send(t, noise(n, n))
		overwriteBytes(c)
		if !slices.Equal(l, want) {
			t.Fatalf("of %d bytes: what Send answered became other points", n)
		}
	}
}

// Nothing of one call is kept for the next one.
func TestSameCallsSameAnswers(t *testing.T) { // rules 3 and 4
	b := []byte("kedge")
	l := sent([]byte("right"))
	for range 3 {
		sends(t, b, sent([]byte("kedge")))
		hears(t, l, []byte("right"), 0)
		wrong(t, l[:40], api.ErrLine)
		hears(t, turned(l, 3), []byte("right"), 0)
		b[0] = 'K'
		sends(t, b, sent([]byte("Kedge")))
		b[0] = 'k'
		l[40] = -l[40]
		if c, n, err := line.Hear(l); string(c) != "right" || n == 0 || err != api.OK {
			t.Fatal(c, n, err)
		}
		l[40] = -l[40]
		wrong(t, nil, api.ErrLine)
		wrong(t, make([]complex128, maxPoint+1), api.ErrLong)
		if l, err := line.Send(make([]byte, 513)); len(l) != 0 || err != api.ErrLong {
			t.Fatal(len(l), err)
		}
		if line.Long(6) != 81 || line.Long(513) != 0 || line.Long(0) != 33 {
			t.Fatal(line.Long(6), line.Long(513), line.Long(0))
		}
	}
}
