package frame

import (
	"bytes"
	"encoding/binary"
	"encoding/hex"
	"hash/crc32"
	"kedge/api"
	"kedge/crc"
	"math"
	"slices"
	"testing"
)

// The numbers that the document names, written out, so that the tests hold whatever api says.
const (
	flag     = 0x7e
	escape   = 0x7d
	maxFrame = 96
)

// named are the bytes that mean something, those that stand for them, their neighbours, and the ends.
var named = []byte{0, 1, 0x20, 0x5d, 0x5e, 0x7c, escape, flag, 0x7f, 0xff}

// summed is b, and behind it its sum, the lowest byte first.
func summed(b []byte) []byte {
	return binary.LittleEndian.AppendUint32(bytes.Clone(b), crc32.ChecksumIEEE(b))
}

// stuffed is b, escaped.
func stuffed(b []byte) []byte {
	b = bytes.ReplaceAll(b, []byte{escape}, []byte{escape, 0x5d})
	return bytes.ReplaceAll(b, []byte{flag}, []byte{escape, 0x5e})
}

// between is s between two flags.
func between(s []byte) []byte {
	return slices.Concat([]byte{flag}, s, []byte{flag})
}

// wrapped is the frame of b as the chapter says it, however long b is.
func wrapped(b []byte) []byte {
	return between(stuffed(summed(b)))
}

// unstuffed tells what was escaped as b, and whether anything was: by the pieces between the Escapes, not byte by byte.
func unstuffed(b []byte) ([]byte, bool) {
	pieces := bytes.Split(b, []byte{escape})
	out := bytes.Clone(pieces[0])
	for _, piece := range pieces[1:] {
		if len(piece) == 0 || piece[0] != 0x5d && piece[0] != 0x5e {
			return nil, false
		}
		out = append(append(out, piece[0]+0x20), piece[1:]...)
	}
	return out, !bytes.Contains(b, []byte{flag})
}

// bodyOf is Body as the chapter says it.
func bodyOf(s []byte) ([]byte, bool) {
	b, ok := unstuffed(s)
	n := len(b) - 4
	if !ok || n < 0 || n > maxFrame || !bytes.Equal(b, summed(b[:n])) {
		return nil, false
	}
	return b[:n], true
}

// numbers answers a function that tells numbers that look like noise, the same ones in each run.
func numbers(begin int) func() int {
	x := uint64(begin)
	return func() int {
		x = x*6364136223846793005 + 1442695040888963407
		return int(x >> 33)
	}
}

// crowd is n bytes that look like noise, of those in from.
func crowd(n int, from []byte) []byte {
	next := numbers(n)
	b := make([]byte, n)
	for i := range b {
		b[i] = from[next()%len(from)]
	}
	return b
}

// noise is n bytes that look like noise.
func noise(n int) []byte {
	all := make([]byte, 256)
	for i := range all {
		all[i] = byte(i)
	}
	return crowd(n, all)
}

// bodies are such of all lengths that a frame carries, with flags and escapes among them, and without.
func bodies() [][]byte {
	all := [][]byte{nil, {}}
	for n := range maxFrame + 1 {
		all = append(all, noise(n), crowd(n, named), crowd(n, []byte{flag, escape}), make([]byte, n), bytes.Repeat([]byte{flag}, n), bytes.Repeat([]byte{escape}, n))
	}
	for i := range 256 {
		all = append(all, []byte{byte(i)}, []byte{byte(i), escape}, []byte{flag, byte(i)})
	}
	for _, x := range named {
		for _, y := range named {
			all = append(all, []byte{x, y}, []byte{y, x, y}, []byte{x, x, y, y})
		}
	}
	return all
}

// fullest are bodies of flags and escapes alone whose sums have none but these, so that no byte of their frames stands for itself.
func fullest(t *testing.T) [][]byte {
	short := "7d7d7e7d7d7e7e7e7d7d7d7d7d7e7e7e7d7d7d7d7d7e7e7d"
	long := "7d7d7e7d7d7d7e7d7d7e7e7e7d7e7e7d7d7d7d7d7e7d7e7e7d7d7d7d7e7e7d"
	var all [][]byte
	for _, k := range []struct {
		digits string
		n      int
	}{{short, 24}, {long, maxFrame}} {
		b, err := hex.DecodeString(k.digits)
		if err != nil {
			t.Fatal(err)
		}
		all = append(all, append(b, bytes.Repeat([]byte{flag}, k.n-len(b))...))
	}
	return all
}

// unmade are the tables that crc.New did not make.
func unmade() map[string]*crc.Table {
	return map[string]*crc.Table{"nil": nil, "new": new(crc.Table), "literal": {}}
}

// spare answers b with room behind it in which a guard stands, and a function that tells whether b and the guard are as they were.
func spare(b []byte) ([]byte, func() bool) {
	whole := append(append([]byte{0xa5}, b...), 0x5a, 0x5a, 0x5a, 0x5a, 0x5a, 0x5a, 0x5a, 0x5a)
	was := bytes.Clone(whole)
	return whole[1 : 1+len(b)], func() bool { return bytes.Equal(whole, was) }
}

// overwrite puts other bytes in all of b's memory, up to its capacity.
func overwrite(b []byte) {
	b = b[:cap(b)]
	for i := range b {
		b[i] ^= 0xff
	}
}

// answers fails the test if what is answered isn't want, or OK.
func answers(t *testing.T, what string, got []byte, e api.Errno, want []byte) {
	t.Helper()
	if e != api.OK || !bytes.Equal(got, want) {
		t.Fatalf("%s: %x, %d, not %x", what, got, e, want)
	}
}

// refuses fails the test if what is answered isn't this error, or anything stands beside it.
func refuses(t *testing.T, what string, got []byte, e, want api.Errno) {
	t.Helper()
	if e != want || len(got) != 0 {
		t.Fatalf("%s: %x, %d, not error %d", what, got, e, want)
	}
}

// noFrame fails the test if w is opened.
func noFrame(t *testing.T, c *crc.Table, w []byte) {
	t.Helper()
	got, e := Open(c, w)
	if e != api.ErrFrame || len(got) != 0 {
		t.Fatalf("Open(%x) = %x, %d", w, got, e)
	}
}

// noBody fails the test if s is taken, alone or between two flags.
func noBody(t *testing.T, c *crc.Table, s []byte) {
	t.Helper()
	got, e := Body(c, s)
	if e != api.ErrFrame || len(got) != 0 {
		t.Fatalf("Body(%x) = %x, %d", s, got, e)
	}
	noFrame(t, c, between(s))
}

// asSaid fails the test if s, alone or between two flags, isn't taken or refused as the chapter says; it tells whether it is taken.
func asSaid(t *testing.T, c *crc.Table, s []byte) bool {
	t.Helper()
	want, ok := bodyOf(s)
	if !ok {
		noBody(t, c, s)
		return false
	}
	got, e := Body(c, s)
	if e != api.OK || !bytes.Equal(got, want) {
		t.Fatalf("Body(%x) = %x, %d, not %x", s, got, e, want)
	}
	got, e = Open(c, between(s))
	if e != api.OK || !bytes.Equal(got, want) {
		t.Fatalf("Open of %x between two flags = %x, %d, not %x", s, got, e, want)
	}
	again, e := Wrap(c, got)
	if e != api.OK || !bytes.Equal(again, between(s)) {
		t.Fatalf("Wrap of what %x was opened to = %x, %d", s, again, e)
	}
	return true
}

func TestWrapExamples(t *testing.T) { // P4.1
	c := crc.New()
	for _, k := range []struct{ b, want []byte }{
		{nil, []byte{flag, 0, 0, 0, 0, flag}},
		{[]byte{}, []byte{flag, 0, 0, 0, 0, flag}},
		{[]byte("ab"), []byte{flag, 'a', 'b', 0x6d, 0x48, 0x83, 0x9e, flag}},
		{[]byte("123456789"), []byte{flag, '1', '2', '3', '4', '5', '6', '7', '8', '9', 0x26, 0x39, 0xf4, 0xcb, flag}},
		{[]byte{flag}, []byte{flag, escape, 0x5e, 0xb6, 0xb3, 0xbf, 0x65, flag}},
		{[]byte{escape}, []byte{flag, escape, 0x5d, 0x0c, 0xe2, 0xb6, 0xfc, flag}},
		{[]byte{flag, escape, 0x5e}, []byte{flag, escape, 0x5e, escape, 0x5d, 0x5e, 0x00, 0xe7, 0x6c, 0xb7, flag}},
		{[]byte{0}, []byte{flag, 0, 0x8d, 0xef, 0x02, 0xd2, flag}},
		{[]byte{0xff}, []byte{flag, 0xff, 0, 0, 0, 0xff, flag}},
	} {
		got, e := Wrap(c, k.b)
		answers(t, "Wrap", got, e, k.want)
	}
}

func TestWrapBodies(t *testing.T) { // P4.1
	c := crc.New()
	for _, b := range append(bodies(), fullest(t)...) {
		got, e := Wrap(c, b)
		answers(t, "Wrap", got, e, wrapped(b))
	}
}

func TestWrapSumsThatHaveSome(t *testing.T) { // P4.1, P4.4
	c := crc.New()
	var flags, escapes [4]int
	for i := range 1 << 16 {
		b := []byte{byte(i), byte(i >> 8)}
		w, e := Wrap(c, b)
		answers(t, "Wrap", w, e, wrapped(b))
		got, e := Open(c, w)
		answers(t, "Open", got, e, b)
		for place, x := range summed(b)[2:] {
			switch x {
			case flag:
				flags[place]++
			case escape:
				escapes[place]++
			}
		}
	}
	if slices.Contains(flags[:], 0) || slices.Contains(escapes[:], 0) {
		t.Fatal("no sum has some at a place:", flags, escapes)
	}
}

func TestWrapLong(t *testing.T) { // P4.1
	c := crc.New()
	for _, n := range []int{maxFrame + 1, maxFrame + 2, maxFrame + 4, 2 * maxFrame, 512, 1 << 20} {
		for _, b := range [][]byte{make([]byte, n), noise(n), bytes.Repeat([]byte{flag}, n)} {
			got, e := Wrap(c, b)
			refuses(t, "Wrap", got, e, api.ErrLong)
		}
	}
	for _, b := range [][]byte{noise(maxFrame), make([]byte, maxFrame, 4*maxFrame), noise(300)[:maxFrame]} {
		got, e := Wrap(c, b)
		answers(t, "Wrap of just as many", got, e, wrapped(b))
	}
}

func TestOpenBodies(t *testing.T) { // P4.2, P4.4
	c := crc.New()
	for _, b := range append(bodies(), fullest(t)...) {
		w := wrapped(b)
		got, e := Open(c, w)
		answers(t, "Open", got, e, b)
		got, e = Body(c, w[1:len(w)-1])
		answers(t, "Body", got, e, b)
	}
}

func TestOpenByAnotherTable(t *testing.T) { // P4.2
	w, e := Wrap(crc.New(), []byte("ab"))
	answers(t, "Wrap", w, e, wrapped([]byte("ab")))
	got, e := Open(crc.New(), w)
	answers(t, "Open", got, e, []byte("ab"))
}

func TestOpenOfFewBytes(t *testing.T) { // P4.2
	c := crc.New()
	noFrame(t, c, nil)
	noFrame(t, c, []byte{})
	for i := range 256 {
		noFrame(t, c, []byte{byte(i)}) // a Flag that is the first and the last byte is one Flag alone
		noFrame(t, c, []byte{flag, byte(i), flag})
		for j := range 256 {
			noFrame(t, c, []byte{byte(i), byte(j)})
			noFrame(t, c, []byte{flag, byte(i), byte(j), flag})
		}
	}
	for n := range 4 {
		noFrame(t, c, between(make([]byte, n)))
		noFrame(t, c, wrapped(nil)[:n]) // the room behind the bytes is no byte of them
	}
	got, e := Open(c, between(make([]byte, 4)))
	answers(t, "Open of the shortest frame", got, e, nil)
}

func TestBodyOfFewBytes(t *testing.T) { // P4.2
	c := crc.New()
	for n := range 4 {
		noBody(t, c, make([]byte, n))
		noBody(t, c, bytes.Repeat([]byte{0xff}, n))
	}
	noBody(t, c, nil)
	got, e := Body(c, make([]byte, 4))
	answers(t, "Body of the sum of nothing", got, e, nil)
	noBody(t, c, []byte{0, 0, 0, 1})
	noBody(t, c, make([]byte, 5))
}

func TestOpenWithoutAFlag(t *testing.T) { // P4.2
	c := crc.New()
	for _, b := range [][]byte{nil, []byte("ab"), {flag, escape}, noise(maxFrame)} {
		w := wrapped(b)
		last := len(w) - 1
		for i := range 256 {
			x := byte(i)
			if x != flag {
				noFrame(t, c, slices.Concat([]byte{x}, w[1:]))
				noFrame(t, c, slices.Concat(w[:last], []byte{x}))
				noFrame(t, c, slices.Concat([]byte{x}, w[1:last], []byte{x}))
			}
			noFrame(t, c, slices.Concat([]byte{x}, w))
			noFrame(t, c, slices.Concat(w, []byte{x}))
			noFrame(t, c, slices.Concat([]byte{x}, w, []byte{x}))
		}
		noFrame(t, c, w[1:])
		noFrame(t, c, w[:last])
		noFrame(t, c, w[1:last])
	}
}

func TestFlagInTheMiddle(t *testing.T) { // P4.2
	c := crc.New()
	for _, b := range [][]byte{nil, []byte("ab"), {flag, escape}, {1, flag, 2, escape, 3}, noise(30)} {
		w := wrapped(b)
		s := w[1 : len(w)-1]
		for i := range len(s) + 1 {
			noBody(t, c, slices.Concat(s[:i], []byte{flag}, s[i:]))
		}
		for i := range s {
			other := bytes.Clone(s)
			other[i] = flag
			noBody(t, c, other)
		}
		noFrame(t, c, slices.Concat(w, w))
		noFrame(t, c, slices.Concat(w, s, []byte{flag}))
		noFrame(t, c, slices.Concat(wrapped(nil), w))
		noBody(t, c, w)
	}
}

func TestEscapesThatAreNone(t *testing.T) { // P4.2
	c := crc.New()
	for _, b := range [][]byte{nil, []byte("ab"), {flag, escape}, noise(30), noise(maxFrame)} {
		s := stuffed(summed(b))
		noBody(t, c, append(bytes.Clone(s), escape)) // at the end
		for i := range s {                           // ahead of a byte that needs none, whatever it would stand for
			if s[i] != escape && s[i] != 0x5d && s[i] != 0x5e {
				noBody(t, c, slices.Concat(s[:i], []byte{escape, s[i] ^ 0x20}, s[i+1:]))
				noBody(t, c, slices.Concat(s[:i], []byte{escape}, s[i:]))
			}
		}
	}
	sum := stuffed(summed([]byte{1}))
	noBody(t, c, slices.Concat([]byte{escape}, sum))
	noBody(t, c, []byte{escape, 0, 0, 0, 0})
}

func TestSumThatDoesNotFit(t *testing.T) { // P4.2
	c := crc.New()
	for _, b := range [][]byte{{0}, {1}, []byte("ab"), {flag, escape}, noise(30), noise(maxFrame)} {
		whole := summed(b)
		n := len(b)
		for place := n; place < n+4; place++ {
			for x := 1; x < 256; x++ {
				other := bytes.Clone(whole)
				other[place] ^= byte(x)
				noBody(t, c, stuffed(other))
			}
		}
		turned := bytes.Clone(whole)
		slices.Reverse(turned[n:])
		noBody(t, c, stuffed(turned))
		noBody(t, c, stuffed(b))
		noBody(t, c, stuffed(whole[:n+3]))
		noBody(t, c, stuffed(append(bytes.Clone(whole), 0)))
		noBody(t, c, stuffed(slices.Concat(whole[n:], b)))
	}
}

func TestCheckedButLong(t *testing.T) { // P4.2
	c := crc.New()
	for n := maxFrame + 1; n < maxFrame+20; n++ {
		for _, b := range [][]byte{make([]byte, n), noise(n), crowd(n, named), bytes.Repeat([]byte{flag}, n)} {
			noBody(t, c, stuffed(summed(b)))
		}
	}
	for _, n := range []int{200, 202, 203, 512, 513, 4096, 1 << 20} {
		noBody(t, c, stuffed(summed(noise(n))))
	}
	got, e := Body(c, stuffed(summed(noise(maxFrame))))
	answers(t, "Body of just as many", got, e, noise(maxFrame))
}

func TestMost(t *testing.T) { // P4.3
	for _, k := range []struct{ n, want int }{
		{0, 10}, {1, 12}, {2, 14}, {64, 138}, {95, 200}, {maxFrame, 202},
		{-1, 0}, {-4, 0}, {-5, 0}, {maxFrame + 1, 0}, {maxFrame + 2, 0}, {1000, 0}, {math.MaxInt, 0}, {math.MinInt, 0},
	} {
		if got := Most(k.n); got != k.want {
			t.Errorf("Most(%d) = %d, not %d", k.n, got, k.want)
		}
	}
	for n := -300; n < 300; n++ {
		want := 0
		if n >= 0 && n <= maxFrame {
			want = 2*(n+4) + 2
		}
		if got := Most(n); got != want {
			t.Errorf("Most(%d) = %d, not %d", n, got, want)
		}
	}
}

func TestHowLongAFrameMayBe(t *testing.T) { // P4.3, P4.4
	c := crc.New()
	for _, b := range bodies() {
		if w, _ := Wrap(c, b); len(w) > Most(len(b)) || len(w) < len(b)+6 {
			t.Fatalf("the frame of %x has %d bytes", b, len(w))
		}
	}
	for _, x := range []byte{flag, escape} {
		b := bytes.Repeat([]byte{x}, maxFrame)
		sum := len(stuffed(summed(b)[maxFrame:]))
		if w, _ := Wrap(c, b); len(w) != 2*maxFrame+sum+2 || len(w) > Most(maxFrame) {
			t.Fatalf("the frame of %d bytes %x has %d bytes", maxFrame, x, len(w))
		}
	}
	for _, b := range fullest(t) {
		if w, _ := Wrap(c, b); len(w) != Most(len(b)) {
			t.Fatalf("the frame of %x has %d bytes, not %d", b, len(w), Most(len(b)))
		}
	}
}

func TestTablesThatNewDidNotMake(t *testing.T) { // the chapter's section Functions
	w := wrapped([]byte("ab"))
	for name, c := range unmade() {
		for _, b := range [][]byte{nil, {}, []byte("ab"), {flag}, noise(maxFrame), noise(maxFrame + 1), noise(1000)} {
			got, e := Wrap(c, b)
			refuses(t, name+": Wrap", got, e, api.ErrNil)
		}
		for _, b := range [][]byte{nil, {}, {flag}, {flag, flag}, {1, 2, 3}, w, w[1:], w[1 : len(w)-1], wrapped(nil), append(bytes.Clone(w), flag), {flag, escape, flag}, wrapped(noise(97)), noise(1000)} {
			got, e := Open(c, b)
			refuses(t, name+": Open", got, e, api.ErrNil)
			got, e = Body(c, b)
			refuses(t, name+": Body", got, e, api.ErrNil)
		}
	}
}

func TestFramesApart(t *testing.T) { // P4.4
	c := crc.New()
	seen := map[string]string{}
	for _, b := range append(bodies(), fullest(t)...) {
		w, e := Wrap(c, b)
		answers(t, "Wrap", w, e, wrapped(b))
		if other, ok := seen[string(w)]; ok && other != string(b) {
			t.Fatalf("%x is the frame of %x and of %x", w, b, other)
		}
		seen[string(w)] = string(b)
	}
}

func TestEachByteAnotherOne(t *testing.T) { // P4.4
	c := crc.New()
	all := fullest(t)
	for _, n := range []int{0, 1, 2, 3, 4, 5, 8, 13, 40, 95, maxFrame} {
		all = append(all, noise(n), crowd(n, named), make([]byte, n))
	}
	for _, b := range all {
		w, e := Wrap(c, b)
		answers(t, "Wrap", w, e, wrapped(b))
		for i := range w {
			for x := range 256 {
				other := bytes.Clone(w)
				other[i] = byte(x)
				switch {
				case byte(x) == w[i]:
				case byte(x) != escape && w[i] != escape:
					noFrame(t, c, other)
				case i > 0 && i < len(w)-1: // by chance a sum may fit
					asSaid(t, c, other[1:len(w)-1])
				default:
					noFrame(t, c, other)
				}
			}
		}
	}
}

func TestManyTexts(t *testing.T) { // P4.2, P4.4
	c := crc.New()
	taken := 0
	see := func(s []byte) {
		if asSaid(t, c, s) {
			taken++
		}
	}
	next := numbers(4)
	for range 20000 {
		b := crowd(next()%100, named)
		s := stuffed(summed(b))
		see(s)
		i, j := next()%len(s), next()%len(s)
		see(slices.Concat(s[:i], s[j:]))                                // some are gone, or there twice
		see(slices.Insert(bytes.Clone(s), i, named[next()%len(named)])) // one more
		see(slices.Concat(s[:i], []byte{escape, s[i] ^ 0x20}, s[i+1:])) // one escaped
		see(stuffed(s))                                                 // all escaped twice
		see(stuffed(slices.Concat(b, summed(b))))                       // twice, with one sum
		see(stuffed(summed(summed(b))))                                 // with two sums
	}
	if taken < 20000 {
		t.Fatal("too few are taken:", taken)
	}
}

func TestAllShortTexts(t *testing.T) { // P4.2, P4.4
	c := crc.New()
	taken := 0
	row := [][]byte{nil}
	for range 7 {
		var longer [][]byte
		for _, s := range row {
			if asSaid(t, c, s) {
				taken++
			}
			for _, x := range []byte{0, escape, 0x5d, 0x5e, flag} {
				longer = append(longer, append(bytes.Clone(s), x))
			}
		}
		row = longer
	}
	if taken != 1 {
		t.Fatal("of these, the frame of nothing alone is one, not", taken)
	}
}

func TestHandedInStays(t *testing.T) { // rule 3
	for _, c := range []*crc.Table{crc.New(), nil, new(crc.Table)} {
		for _, b := range [][]byte{nil, {1, 2, 3}, {flag, escape}, noise(maxFrame), noise(maxFrame + 1), wrapped(nil), wrapped([]byte{flag}), stuffed(summed([]byte{flag, 1})), {flag, 1, flag}} {
			handed, stays := spare(b)
			Wrap(c, handed)
			Open(c, handed)
			Body(c, handed)
			if !stays() {
				t.Fatalf("%x was changed", b)
			}
		}
	}
}

func TestAnsweredIsNew(t *testing.T) { // rule 3
	c := crc.New()
	for _, b := range [][]byte{nil, {1}, {1, 2, 3}, {flag, escape}, noise(maxFrame)} {
		w := wrapped(b)
		s := w[1 : len(w)-1]
		for name, k := range map[string]struct {
			call    func(*crc.Table, []byte) ([]byte, api.Errno)
			b, want []byte
		}{"Wrap": {Wrap, b, w}, "Open": {Open, w, b}, "Body": {Body, s, b}} {
			handed, stays := spare(k.b)
			first, _ := k.call(c, handed)
			again, e := k.call(c, handed)
			overwrite(first)
			answers(t, name+" behind another answer's change", again, e, k.want)
			if !stays() {
				t.Fatalf("%s: the answer shares memory with what was handed in, %x", name, k.b)
			}
			overwrite(handed)
			answers(t, name+" behind a change of what was handed in", again, e, k.want)
			once, e := k.call(c, k.b)
			answers(t, name+" again", once, e, k.want)
		}
	}
}

func TestCallsLeaveTheTable(t *testing.T) { // rule 4
	c, fresh := crc.New(), crc.New()
	for _, b := range bodies() {
		w, _ := Wrap(c, b)
		Open(c, w)
		Open(c, b)
		Body(c, b)
	}
	if *c != *fresh {
		t.Fatal("the calls made another table")
	}
}
