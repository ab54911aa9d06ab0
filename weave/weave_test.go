package weave_test

import (
	"bytes"
	"kedge/weave"
	"math"
	"slices"
	"testing"
)

// The numbers that the document names, written out, so that the tests hold whatever api says.
const (
	maxIn    = 4096
	maxBytes = 2 * maxIn
	maxBits  = 16 * maxIn
	maxRows  = 64
)

// noRows are numbers that no rows may be, such as become some that may if they are cut short among them.
var noRows = []int{
	0, -1, -2, -8, -63, -64, -65, -128, -248, -255, -256, -65535, -65536, math.MinInt32, math.MinInt32 - 1, -1 << 32, 1 - 1<<32, 8 - 1<<32, math.MinInt, math.MinInt + 1, math.MinInt + 8, math.MinInt + 64,
	65, 66, 72, 127, 128, 255, 256, 257, 264, 320, 65535, 65536, 65537, 65544, math.MaxInt32, 1 << 31, 1 << 32, 1<<32 + 1, 1<<32 + 8, 1<<32 + 64, 1 << 62, math.MaxInt - 1, math.MaxInt,
}

// noBits are numbers of bits that no text may have, likewise.
var noBits = []int{
	-1, -2, -7, -8, -9, -64, -255, -256, -65535, -65536, -65537, math.MinInt32, math.MinInt32 - 1, -1 << 32, 8 - 1<<32, math.MinInt, math.MinInt + 1, math.MinInt + 8,
	maxBits + 1, maxBits + 2, maxBits + 7, maxBits + 8, maxBits + 64, 2 * maxBits, 1 << 20, math.MaxInt32, 1 << 31, 1 << 32, 1<<32 + 1, 1<<32 + 8, 1<<32 + maxBits, 1 << 61, 1 << 62, math.MaxInt - 64, math.MaxInt - 63, math.MaxInt - 62, math.MaxInt - 1, math.MaxInt,
}

// far are places far outside of any text, likewise.
var far = []int{
	-1, -2, -3, -8, -64, -255, -256, -65535, -65536, math.MinInt32, math.MinInt32 - 1, -1 << 32, 1 - 1<<32, math.MinInt, math.MinInt + 1, math.MinInt + 8,
	maxBits, maxBits + 1, 2 * maxBits, math.MaxInt32, 1 << 31, 1 << 32, 1<<32 + 1, 1<<32 + 8, 1 << 62, math.MaxInt - 1, math.MaxInt,
}

// someRows are numbers of rows, those at the edges among them.
var someRows = []int{1, 2, 3, 5, 7, 8, 9, 16, 31, 32, 33, 63, 64}

// someBytes are numbers of bytes, those at the edges among them.
var someBytes = []int{1, 2, 3, 4, 5, 7, 8, 9, 12, 16, 31, 32, 33, 63, 64, 65, 100, 512, 1024, maxIn - 1, maxIn, maxIn + 1, maxBytes - 1, maxBytes}

// table is n bits' numbers, written row by row, in as few columns as n bits need.
func table(n, rows int) [][]int {
	columns := 0
	for columns*rows < n {
		columns++
	}
	t, next := make([][]int, rows), 0
	for row := range t {
		for len(t[row]) < columns && next < n {
			t[row] = append(t[row], next)
			next++
		}
	}
	return t
}

// read is the numbers of n bits as they are read: of each column of the table, from its first row on.
func read(n, rows int) []int {
	t := table(n, rows)
	var l []int
	for column := range t[0] {
		for _, row := range t {
			if column < len(row) {
				l = append(l, row[column])
			}
		}
	}
	return l
}

// bits is a text as its bits, of each byte the highest first.
func bits(b []byte) []int {
	var l []int
	for _, x := range b {
		for _, weight := range []byte{128, 64, 32, 16, 8, 4, 2, 1} {
			l = append(l, int(x/weight%2))
		}
	}
	return l
}

// text is the text whose bits these are.
func text(l []int) []byte {
	b := make([]byte, len(l)/8)
	for i := range b {
		for _, bit := range l[8*i : 8*i+8] {
			b[i] = 2*b[i] + byte(bit)
		}
	}
	return b
}

// done is the text that P11.2 says Do makes.
func done(b []byte, rows int) []byte {
	from, to := bits(b), make([]int, 8*len(b))
	for at, number := range read(8*len(b), rows) {
		to[at] = from[number]
	}
	return text(to)
}

// noise is n bytes that look like noise, the same ones in each run.
func noise(begin, n int) []byte {
	x := uint64(begin)
	b := make([]byte, n)
	for i := range b {
		x = x*6364136223846793005 + 1442695040888963407
		b[i] = byte(x >> 33)
	}
	return b
}

// texts are n bytes each: noise, bits that are all alike, and all bytes by turns.
func texts(n int) [][]byte {
	turns := make([]byte, n)
	for i := range turns {
		turns[i] = byte(i)
	}
	return [][]byte{noise(n+1, n), make([]byte, n), bytes.Repeat([]byte{0xff}, n), turns}
}

// stands fails the test if another bit is read there than this one.
func stands(t *testing.T, n, rows, at, want int) {
	t.Helper()
	if number, ok := weave.Place(n, rows, at); number != want || !ok {
		t.Fatalf("Place(%d, %d, %d) = %d, %t, not %d", n, rows, at, number, ok, want)
	}
}

// nowhere fails the test if some bit is read there.
func nowhere(t *testing.T, n, rows, at int) {
	t.Helper()
	if number, ok := weave.Place(n, rows, at); number != 0 || ok {
		t.Fatalf("Place(%d, %d, %d) = %d, %t", n, rows, at, number, ok)
	}
}

// reads fails the test if n bits aren't read in this order, and nothing ahead of it and behind it.
func reads(t *testing.T, n, rows int, want []int) {
	t.Helper()
	if len(want) != n {
		t.Fatalf("%d bits of %d", len(want), n)
	}
	for at, number := range want {
		stands(t, n, rows, at, number)
	}
	for _, at := range []int{-2, -1, n, n + 1} {
		nowhere(t, n, rows, at)
	}
}

// makes fails the test if Do doesn't make this of b.
func makes(t *testing.T, b []byte, rows int, want []byte) {
	t.Helper()
	if out := weave.Do(b, rows); !bytes.Equal(out, want) {
		t.Fatalf("Do(%x, %d) = %x, not %x", b, rows, out, want)
	}
}

// unmakes fails the test if Undo doesn't make this of b.
func unmakes(t *testing.T, b []byte, rows int, want []byte) {
	t.Helper()
	if out := weave.Undo(b, rows); !bytes.Equal(out, want) {
		t.Fatalf("Undo(%x, %d) = %x, not %x", b, rows, out, want)
	}
}

// refused fails the test if Do or Undo makes something of b.
func refused(t *testing.T, b []byte, rows int) {
	t.Helper()
	if d, u := weave.Do(b, rows), weave.Undo(b, rows); len(d) != 0 || len(u) != 0 {
		t.Fatalf("of %d bytes, with %d rows: Do %d bytes, Undo %d", len(b), rows, len(d), len(u))
	}
}

// spare answers b with room behind it in which a guard stands, and a function that tells whether b and the guard are as they were.
func spare(b []byte) ([]byte, func() bool) {
	whole := slices.Concat([]byte{7}, b, []byte{8, 9, 10, 11, 12})
	was := bytes.Clone(whole)
	return whole[1 : 1+len(b)], func() bool { return bytes.Equal(whole, was) }
}

// overwrite puts other bytes in all of b's memory, up to its capacity.
func overwrite(b []byte) {
	b = b[:cap(b)]
	for i := range b {
		b[i] = ^b[i]
	}
}

func TestExample(t *testing.T) { // P11.1
	reads(t, 4, 2, []int{0, 2, 1, 3})
}

func TestPlaceWrittenOut(t *testing.T) { // P11.1
	for _, k := range []struct {
		n, rows int
		want    []int
	}{
		{1, 1, []int{0}},
		{1, 64, []int{0}},
		{2, 1, []int{0, 1}},
		{2, 2, []int{0, 1}},
		{3, 2, []int{0, 2, 1}},
		{3, 5, []int{0, 1, 2}},
		{4, 3, []int{0, 2, 1, 3}},
		{5, 2, []int{0, 3, 1, 4, 2}},
		{5, 3, []int{0, 2, 4, 1, 3}},
		{5, 4, []int{0, 2, 4, 1, 3}},
		{6, 1, []int{0, 1, 2, 3, 4, 5}},
		{6, 2, []int{0, 3, 1, 4, 2, 5}},
		{6, 3, []int{0, 2, 4, 1, 3, 5}},
		{7, 2, []int{0, 4, 1, 5, 2, 6, 3}},
		{7, 3, []int{0, 3, 6, 1, 4, 2, 5}},
		{8, 8, []int{0, 1, 2, 3, 4, 5, 6, 7}},
		{9, 4, []int{0, 3, 6, 1, 4, 7, 2, 5, 8}},
		{9, 8, []int{0, 2, 4, 6, 8, 1, 3, 5, 7}},
		{10, 3, []int{0, 4, 8, 1, 5, 9, 2, 6, 3, 7}},
		{10, 6, []int{0, 2, 4, 6, 8, 1, 3, 5, 7, 9}},
		{16, 8, []int{0, 2, 4, 6, 8, 10, 12, 14, 1, 3, 5, 7, 9, 11, 13, 15}},
		{17, 8, []int{0, 3, 6, 9, 12, 15, 1, 4, 7, 10, 13, 16, 2, 5, 8, 11, 14}},
	} {
		reads(t, k.n, k.rows, k.want)
	}
}

// Of n below rows, n a multiple of rows, one more and one less, and of such n that the last rows have fewer bits, or none, there are many of each here.
func TestPlaceOfSmallTexts(t *testing.T) { // P11.1
	for n := range 4*maxRows + 3 {
		for rows := 1; rows <= maxRows; rows++ {
			reads(t, n, rows, read(n, rows))
		}
	}
}

func TestPlaceAroundMultiples(t *testing.T) { // P11.1
	for _, rows := range someRows {
		for _, columns := range []int{1, 2, 3, 10, 100} {
			for n := max(rows*columns-rows-1, 0); n <= rows*columns+rows+1; n++ {
				reads(t, n, rows, read(n, rows))
			}
		}
	}
}

// Each bit is read, and none of them twice.
func TestPlaceOfEachBitOnce(t *testing.T) { // P11.1, P11.3
	for _, n := range []int{1, 63, 64, 65, 1000, 4095, 4096, maxBits - 1, maxBits} {
		for rows := 1; rows <= maxRows; rows++ {
			seen := make([]bool, n)
			for at := range n {
				number, ok := weave.Place(n, rows, at)
				if !ok || number < 0 || number >= n || seen[number] {
					t.Fatalf("Place(%d, %d, %d) = %d, %t", n, rows, at, number, ok)
				}
				seen[number] = true
			}
		}
	}
}

func TestPlaceOfGreatTexts(t *testing.T) { // P11.1
	for _, n := range []int{maxBits / 2, maxBits - 64, maxBits - 8, maxBits - 1, maxBits} {
		for _, rows := range someRows {
			reads(t, n, rows, read(n, rows))
		}
	}
	for rows := 1; rows <= maxRows; rows++ {
		stands(t, maxBits, rows, 0, 0)
		nowhere(t, maxBits, rows, -1)
		nowhere(t, maxBits, rows, maxBits)
	}
	stands(t, maxBits, 1, maxBits-1, maxBits-1)
	stands(t, maxBits, 64, maxBits-1, maxBits-1)
	stands(t, maxBits, 64, 1, 1024)
	stands(t, maxBits, 63, 1, 1041)
	stands(t, maxBits, 63, maxBits-1, 63*1041-1-1041)
}

func TestPlaceOfNoBits(t *testing.T) { // P11.1
	for rows := 1; rows <= maxRows; rows++ {
		for _, at := range slices.Concat([]int{0, 1, 2, 63, 64}, far) {
			nowhere(t, 0, rows, at)
		}
	}
}

func TestPlaceOfSuchTexts(t *testing.T) { // P11.1
	for _, n := range noBits {
		for rows := 1; rows <= maxRows; rows++ {
			for _, at := range []int{0, 1, 7, 8, 64, maxBits - 1, maxBits, -1, n - 1, n, n / 2, n + 1} {
				nowhere(t, n, rows, at)
			}
		}
	}
	stands(t, maxBits, 8, 1, maxBits/8)
	stands(t, 1, 8, 0, 0)
}

func TestPlaceOfSuchRows(t *testing.T) { // P11.1
	for _, rows := range noRows {
		for _, n := range []int{0, 1, 2, 8, 63, 64, 65, 1000, maxBits - 1, maxBits} {
			for _, at := range []int{0, 1, n / 2, n - 1, n, -1} {
				nowhere(t, n, rows, at)
			}
		}
	}
	for rows := -70000; rows < 70000; rows++ {
		if _, ok := weave.Place(8, rows, 0); ok != (rows >= 1 && rows <= 64) {
			t.Fatal(rows, ok)
		}
	}
}

func TestPlaceOutside(t *testing.T) { // P11.1
	for _, n := range []int{0, 1, 2, 8, 63, 64, 65, 1000, maxBits - 1, maxBits} {
		for rows := 1; rows <= maxRows; rows++ {
			for _, at := range slices.Concat([]int{n, n + 1, n + 7, n + rows, -n, -n - 1, -1 - rows}, far) {
				if at != 0 || n == 0 {
					nowhere(t, n, rows, at)
				}
			}
		}
	}
}

func TestPlaceOfSeveralFaults(t *testing.T) { // P11.1
	for _, n := range noBits {
		for _, rows := range noRows {
			for _, at := range slices.Concat([]int{0, 1, n - 1, n}, far) {
				nowhere(t, n, rows, at)
			}
		}
	}
	for _, rows := range noRows {
		for _, at := range far {
			nowhere(t, 8, rows, at)
		}
	}
	for _, n := range noBits {
		for _, at := range far {
			nowhere(t, n, 8, at)
		}
	}
}

func TestDoWrittenOut(t *testing.T) { // P11.2
	for _, k := range []struct {
		b    []byte
		rows int
		want []byte
	}{
		{[]byte{0xf0, 0x0f}, 1, []byte{0xf0, 0x0f}},
		{[]byte{0xf0, 0x0f}, 2, []byte{0xaa, 0x55}},
		{[]byte{0xf0, 0x0f}, 3, []byte{0xb6, 0xd0}},
		{[]byte{0xf0, 0x0f}, 4, []byte{0x99, 0x99}},
		{[]byte{0xf0, 0x0f}, 8, []byte{0xc3, 0xc3}},
		{[]byte{0xf0, 0x0f}, 16, []byte{0xf0, 0x0f}},
		{[]byte{0xf0, 0x0f}, 64, []byte{0xf0, 0x0f}},
		{[]byte{0x12, 0x34, 0x56}, 5, []byte{0x23, 0x47, 0x41}},
		{[]byte{0x40}, 2, []byte{0x20}},
		{[]byte{0x08}, 2, []byte{0x40}},
		{[]byte{0x12}, 8, []byte{0x12}},
	} {
		makes(t, k.b, k.rows, k.want)
		unmakes(t, k.want, k.rows, k.b)
	}
}

// One bit alone comes to the place at which Place reads it, and goes back from there.
func TestDoOfOneBit(t *testing.T) { // P11.1, P11.2
	for _, n := range []int{1, 2, 3, 8, 9, 20} {
		for rows := 1; rows <= maxRows; rows++ {
			for at := range 8 * n {
				number, ok := weave.Place(8*n, rows, at)
				if !ok {
					t.Fatal(n, rows, at)
				}
				from, to := make([]byte, n), make([]byte, n)
				from[number/8] = 128 >> (number % 8)
				to[at/8] = 128 >> (at % 8)
				makes(t, from, rows, to)
				unmakes(t, to, rows, from)
			}
		}
	}
}

func TestDoIsPlaceBitByBit(t *testing.T) { // P11.1, P11.2
	for _, n := range someBytes {
		for _, rows := range someRows {
			b := noise(n+rows, n)
			d, u := weave.Do(b, rows), weave.Undo(b, rows)
			if len(d) != n || len(u) != n {
				t.Fatal(n, rows, len(d), len(u))
			}
			own, laid, back := bits(b), bits(d), bits(u)
			for at := range 8 * n {
				number, ok := weave.Place(8*n, rows, at)
				if !ok || laid[at] != own[number] || back[number] != own[at] {
					t.Fatalf("%d bytes, %d rows: the bit %d, read as the %d'th", n, rows, number, at)
				}
			}
		}
	}
}

func TestDoOfTexts(t *testing.T) { // P11.2
	for n := range 70 {
		for rows := 1; rows <= maxRows; rows++ {
			b := noise(n, n)
			makes(t, b, rows, done(b, rows))
			unmakes(t, done(b, rows), rows, b)
		}
	}
	for _, n := range []int{maxIn, maxBytes - 1, maxBytes} {
		for _, rows := range []int{1, 2, 8, 63, 64} {
			for _, b := range texts(n) {
				makes(t, b, rows, done(b, rows))
				unmakes(t, done(b, rows), rows, b)
			}
		}
	}
}

func TestDoOfEachByte(t *testing.T) { // P11.2
	for x := range 256 {
		for rows := 1; rows <= maxRows; rows++ {
			for _, b := range [][]byte{{byte(x)}, {byte(x), 0xa3}, {0x5c, byte(x)}} {
				makes(t, b, rows, done(b, rows))
				unmakes(t, done(b, rows), rows, b)
			}
		}
	}
}

func TestNoBytes(t *testing.T) { // P11.2
	for _, none := range [][]byte{nil, {}, noise(1, 9)[:0]} {
		for _, rows := range slices.Concat(someRows, noRows) {
			refused(t, none, rows)
		}
	}
}

func TestSuchRows(t *testing.T) { // P11.2
	for _, rows := range noRows {
		for _, n := range []int{1, 2, 8, 9, 64, maxBytes - 1, maxBytes} {
			refused(t, noise(n, n), rows)
		}
	}
	b := []byte{0xf0, 0x0f}
	for rows := -70000; rows < 70000; rows++ {
		if may := rows >= 1 && rows <= 64; (len(weave.Do(b, rows)) == 2) != may || (len(weave.Undo(b, rows)) == 2) != may {
			t.Fatal(rows)
		}
	}
}

// Of more bytes than there may be not even the first ones are told.
func TestTooManyBytes(t *testing.T) { // P11.2
	for _, n := range []int{maxBytes + 1, maxBytes + 2, maxBytes + 8, 2 * maxBytes, 65536, 65537, 1 << 20} {
		for _, rows := range slices.Concat(someRows, noRows) {
			refused(t, bytes.Repeat([]byte{0xff}, n), rows)
		}
	}
	whole := bytes.Repeat([]byte{0xff}, maxBytes)
	for rows := 1; rows <= maxRows; rows++ {
		refused(t, noise(rows, maxBytes+1), rows)
		makes(t, whole, rows, whole)
		unmakes(t, whole, rows, whole)
	}
}

func TestDoneAndUndone(t *testing.T) { // P11.3
	lengths := slices.Clone(someBytes)
	for n := range 130 {
		lengths = append(lengths, n)
	}
	for _, n := range lengths {
		for rows := 1; rows <= maxRows; rows++ {
			b := noise(n*rows, n)
			unmakes(t, weave.Do(b, rows), rows, b)
			makes(t, weave.Undo(b, rows), rows, b)
		}
	}
}

// Where there is one column, or one row, the bits are read as they stand.
func TestOneColumnOneRow(t *testing.T) { // P11.1, P11.2
	for n := range maxRows/8 + 1 {
		for rows := max(8*n, 1); rows <= maxRows; rows++ {
			b := noise(n+3, n)
			makes(t, b, rows, b)
			unmakes(t, b, rows, b)
		}
	}
	for _, n := range someBytes {
		b := noise(n+4, n)
		makes(t, b, 1, b)
		unmakes(t, b, 1, b)
	}
}

// apart fails the test if, of that many full columns, two bits that are read fewer than rows apart stood nearer than P11.4 says.
func apart(t *testing.T, rows, columns int) {
	t.Helper()
	n := rows * columns
	var last []int
	for at := range n {
		number, ok := weave.Place(n, rows, at)
		if !ok {
			t.Fatal(rows, columns, at)
		}
		for _, other := range last {
			if max(number-other, other-number) < columns-1 {
				t.Fatalf("%d rows, %d columns: the bits %d and %d are read near one another", rows, columns, other, number)
			}
		}
		last = append(last, number)
		last = last[max(len(last)-rows+1, 0):]
	}
}

func TestApart(t *testing.T) { // P11.4
	for rows := 1; rows <= maxRows; rows++ {
		for columns := 1; columns <= 33; columns++ {
			apart(t, rows, columns)
		}
		apart(t, rows, 500)
		apart(t, rows, maxBits/rows)
	}
}

// Bits that stand side by side in what Do makes come of bits that are as far apart as P11.4 says: here of words of their own.
func TestApartInTexts(t *testing.T) { // P11.2, P11.4
	for _, n := range []int{16, 24, 64, 512, 1024, maxBytes} {
		for at := 0; at+8 <= 8*n; at += 1 + n/64*2 {
			b := make([]byte, n)
			for i := range 8 {
				b[(at+i)/8] |= 128 >> ((at + i) % 8)
			}
			for i, x := range weave.Undo(b, 8) {
				if x&(x-1) != 0 {
					t.Fatalf("of %d bytes the byte %d has several of eight bits that stood side by side: %08b", n, i, x)
				}
			}
		}
	}
}

func TestHandedInStays(t *testing.T) { // rule 3
	for _, n := range []int{0, 1, 2, 64, maxBytes, maxBytes + 1} {
		for _, rows := range slices.Concat(someRows, noRows) {
			b, kept := spare(noise(n+rows, n))
			overwrite(weave.Do(b, rows))
			overwrite(weave.Undo(b, rows))
			if !kept() {
				t.Fatalf("%d bytes, %d rows: what was handed in is another text", n, rows)
			}
		}
	}
}

func TestAnsweredIsNew(t *testing.T) { // rule 3
	for _, n := range []int{0, 1, 2, 64, maxBytes} {
		for _, rows := range someRows {
			b := noise(n+rows, n)
			want := done(b, rows)
			d, u := weave.Do(b, rows), weave.Undo(want, rows)
			handed := bytes.Clone(want)
			overwrite(weave.Do(b, rows))
			overwrite(weave.Undo(handed, rows))
			overwrite(b)
			overwrite(handed)
			if !bytes.Equal(d, want) || !bytes.Equal(u, noise(n+rows, n)) {
				t.Fatalf("%d bytes, %d rows: what was answered became another text", n, rows)
			}
		}
	}
}

// Nothing of one call is kept for the next one.
func TestSameCallsSameAnswers(t *testing.T) { // rules 3 and 4
	b := []byte{0xf0, 0x0f}
	for range 3 {
		makes(t, b, 2, []byte{0xaa, 0x55})
		makes(t, b, 4, []byte{0x99, 0x99})
		makes(t, b[:1], 2, []byte{0xaa})
		unmakes(t, b, 2, []byte{0xc3, 0xc3})
		b[0] = 0
		makes(t, b, 2, []byte{0x00, 0x55})
		b[0] = 0xf0
		refused(t, b, 65)
		refused(t, make([]byte, maxBytes+1), 2)
		stands(t, 4, 2, 1, 2)
		nowhere(t, 4, 2, 4)
		stands(t, 4, 1, 1, 1)
	}
}
