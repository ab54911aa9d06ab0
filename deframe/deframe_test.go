package deframe_test

import (
	"bytes"
	"encoding/binary"
	"encoding/hex"
	"hash/crc32"
	"kedge/crc"
	"kedge/deframe"
	"slices"
	"testing"
)

// The numbers that the document names, written out, so that the tests hold whatever api says.
const (
	flag     = 0x7e
	escape   = 0x7d
	maxFrame = 96
	longest  = 200 // 2 (maxFrame + 4): what is longer between two flags is long
)

// tally is short for what was seen.
type tally = deframe.Tally

// named are the bytes that mean something, those that stand for them, their neighbours, and the ends.
var named = []byte{0, 1, 0x20, 0x5d, 0x5e, 0x7c, escape, flag, 0x7f, 0xff}

// summed is b, and behind it its sum, the lowest byte first.
func summed(b []byte) []byte {
	return binary.LittleEndian.AppendUint32(bytes.Clone(b), crc32.ChecksumIEEE(b))
}

// stuffed is b, escaped.
func stuffed(b []byte) []byte {
	b = bytes.ReplaceAll(b, []byte{escape}, []byte{escape, 0x5d})
	return bytes.ReplaceAll(b, []byte{flag}, []byte{escape, 0x5e})
}

// between is s between two flags.
func between(s []byte) []byte {
	return slices.Concat([]byte{flag}, s, []byte{flag})
}

// inner is what stands between the flags of the frame of b, however long b is.
func inner(b []byte) []byte {
	return stuffed(summed(b))
}

// wrapped is the frame of b, however long b is.
func wrapped(b []byte) []byte {
	return between(inner(b))
}

// unstuffed tells what was escaped as b, and whether anything was.
func unstuffed(b []byte) ([]byte, bool) {
	pieces := bytes.Split(b, []byte{escape})
	out := bytes.Clone(pieces[0])
	for _, piece := range pieces[1:] {
		if len(piece) == 0 || piece[0] != 0x5d && piece[0] != 0x5e {
			return nil, false
		}
		out = append(append(out, piece[0]+0x20), piece[1:]...)
	}
	return out, true
}

// bodyOf is what was wrapped, if s stands between two flags of a frame.
func bodyOf(s []byte) ([]byte, bool) {
	b, ok := unstuffed(s)
	n := len(b) - 4
	if !ok || n < 0 || n > maxFrame || !bytes.Equal(b, summed(b[:n])) {
		return nil, false
	}
	return b[:n], true
}

// scanned is what is to be found and seen in b: told by the pieces between the flags, not byte by byte.
func scanned(b []byte) ([][]byte, tally) {
	pieces := bytes.Split(b, []byte{flag})
	seen := tally{Noise: len(pieces[0])}
	if len(pieces) == 1 {
		return nil, seen
	}
	var found [][]byte
	for _, s := range pieces[1 : len(pieces)-1] { // the last one isn't ended
		body, ok := bodyOf(s)
		switch {
		case len(s) == 0:
		case len(s) > longest:
			seen.Long++
		case ok:
			seen.Good++
			found = append(found, body)
		default:
			seen.Bad++
		}
	}
	return found, seen
}

// same tells whether two lists have the same bytes in them.
func same(a, b [][]byte) bool {
	return slices.EqualFunc(a, b, bytes.Equal)
}

// finds fails the test if this isn't what is found and seen.
func finds(t *testing.T, what string, got [][]byte, s *deframe.Scanner, want [][]byte, seen tally) {
	t.Helper()
	if !same(got, want) {
		t.Fatalf("%s: found %x, not %x", what, got, want)
	}
	if s.Seen() != seen {
		t.Fatalf("%s: seen %+v, not %+v", what, s.Seen(), seen)
	}
}

// fed is what s finds in pieces that come one behind the other.
func fed(s *deframe.Scanner, pieces ...[]byte) [][]byte {
	var found [][]byte
	for _, piece := range pieces {
		found = append(found, s.Feed(piece)...)
	}
	return found
}

// says fails the test if b, as a whole, isn't found and seen so.
func says(t *testing.T, c *crc.Table, b []byte, want [][]byte, seen tally) {
	t.Helper()
	if got := deframe.All(c, b); !same(got, want) {
		t.Fatalf("All(%x) = %x, not %x", b, got, want)
	}
	s := deframe.New(c)
	finds(t, "Feed of "+hex.EncodeToString(b), s.Feed(b), s, want, seen)
}

// asSaid fails the test if b isn't found and seen as the chapter says.
func asSaid(t *testing.T, c *crc.Table, b []byte) {
	t.Helper()
	want, seen := scanned(b)
	says(t, c, b, want, seen)
}

// stepwise fails the test if one byte of b behind the other doesn't make at once of what is found and seen what it is to make of it.
func stepwise(t *testing.T, s *deframe.Scanner, b []byte) {
	t.Helper()
	var got [][]byte
	for i := range b {
		got = append(got, s.Feed(b[i:i+1])...)
		want, seen := scanned(b[:i+1])
		finds(t, "byte by byte, "+hex.EncodeToString(b[:i+1]), got, s, want, seen)
	}
}

// numbers answers a function that tells numbers that look like noise, the same ones in each run.
func numbers(begin int) func() int {
	x := uint64(begin)
	return func() int {
		x = x*6364136223846793005 + 1442695040888963407
		return int(x >> 33)
	}
}

// crowd is n bytes that look like noise, of those in from.
func crowd(n int, from []byte) []byte {
	next := numbers(n)
	b := make([]byte, n)
	for i := range b {
		b[i] = from[next()%len(from)]
	}
	return b
}

// every is every byte but these.
func every(but ...byte) []byte {
	var all []byte
	for i := range 256 {
		if !bytes.Contains(but, []byte{byte(i)}) {
			all = append(all, byte(i))
		}
	}
	return all
}

// noise is n bytes that look like noise.
func noise(n int) []byte {
	return crowd(n, every())
}

// flagless is n bytes that look like noise, and no flag among them.
func flagless(n int) []byte {
	return crowd(n, every(flag))
}

// fullest is the longest frame's body: flags and escapes alone, and its sum, too, so that each byte of it is escaped.
func fullest(t *testing.T) []byte {
	t.Helper()
	b, err := hex.DecodeString("7d7d7e7d7d7d7e7d7d7e7e7e7d7e7e7d7d7d7d7d7e7d7e7e7d7d7d7d7e7e7d")
	if err != nil {
		t.Fatal(err)
	}
	b = append(b, bytes.Repeat([]byte{flag}, maxFrame-len(b))...)
	if len(inner(b)) != longest {
		t.Fatal("it isn't the longest frame's")
	}
	return b
}

// bodies are such of many lengths, with flags and escapes among them, and without.
func bodies() [][]byte {
	all := [][]byte{nil, {flag}, {escape}, {flag, escape}, {escape, 0x5e}, []byte("a"), []byte("123456789")}
	for _, n := range []int{1, 2, 3, 4, 5, 31, 64, 95, maxFrame} {
		all = append(all, noise(n), crowd(n, named), crowd(n, []byte{flag, escape}), make([]byte, n), bytes.Repeat([]byte{flag}, n), bytes.Repeat([]byte{escape}, n))
	}
	return all
}

// row is frames of these bodies, one behind the other, with so many flags between two of them.
func row(flags int, bodies ...[]byte) []byte {
	w := []byte{flag}
	for i, b := range bodies {
		if i > 0 {
			w = append(w, bytes.Repeat([]byte{flag}, flags-1)...)
		}
		w = append(append(w, inner(b)...), flag)
	}
	return w
}

// texts are such in which there is something of each kind.
func texts(t *testing.T) [][]byte {
	a, b, full := []byte("a"), []byte{flag, 1, escape}, fullest(t)
	return [][]byte{
		nil,
		{flag},
		{1, 2, 3},
		{flag, flag, flag},
		{9, flag, 0, 0, 0, 0, flag, flag, 5, flag},
		{flag, 0, 0, 0, 0, 0, 0, flag, escape, flag, 0, 0, 0, 0, flag},
		row(1, a, b, nil, full, a),
		row(2, a, b, nil, full, a),
		row(3, b, b, b),
		slices.Concat([]byte{9, escape}, row(1, a, b), []byte{5, flag, 6}, row(2, b, a), []byte{7, 8}),
		slices.Concat(between(flagless(longest)), inner(a), between(flagless(longest+1)), inner(b), []byte{flag}),
		slices.Concat(between(flagless(500)), row(1, a), flagless(300)),
		slices.Concat(wrapped(full)[:150], wrapped(full)[150:], inner(full), []byte{0, flag}, inner(full), []byte{flag}),
		slices.Concat(flagless(250), wrapped(noise(97)), wrapped(noise(96)), wrapped(noise(95))),
	}
}

// unmade are the tables that crc.New did not make.
func unmade() []*crc.Table {
	return []*crc.Table{nil, new(crc.Table), {}}
}

// overwrite puts other bytes in all of b's memory, up to its capacity.
func overwrite(b []byte) {
	b = b[:cap(b)]
	for i := range b {
		b[i] ^= 0xff
	}
}

// copied is a list with its own memory.
func copied(l [][]byte) [][]byte {
	var own [][]byte
	for _, b := range l {
		own = append(own, bytes.Clone(b))
	}
	return own
}

func TestExample(t *testing.T) { // P5.1, P5.2, P5.3
	says(t, crc.New(), []byte{9, flag, 0, 0, 0, 0, flag, flag, 5, flag}, [][]byte{{}}, tally{Good: 1, Bad: 1, Noise: 1})
}

func TestWrittenOut(t *testing.T) { // P5.1, P5.3
	ab := []byte{'a', 'b', 0x6d, 0x48, 0x83, 0x9e}
	two := [][]byte{[]byte("ab"), {flag}}
	says(t, crc.New(), []byte{flag, escape, 0x5e, 0xb6, 0xb3, 0xbf, 0x65, flag}, [][]byte{{flag}}, tally{Good: 1})
	says(t, crc.New(), slices.Concat(between(ab), []byte{escape, 0x5e, 0xb6, 0xb3, 0xbf, 0x65, flag}), two, tally{Good: 2})
	says(t, crc.New(), slices.Concat([]byte{0x5e}, between(ab), []byte{flag, escape, 0x5e, 0xb6, 0xb3, 0xbf, 0x65, flag}), two, tally{Good: 2, Noise: 1})
}

func TestEdges(t *testing.T) { // P5.1
	c := crc.New()
	empty := [][]byte{{}}
	for _, k := range []struct {
		b     []byte
		found [][]byte
		seen  tally
	}{
		{nil, nil, tally{}},
		{[]byte{}, nil, tally{}},
		{[]byte{0}, nil, tally{Noise: 1}},
		{[]byte{escape}, nil, tally{Noise: 1}},
		{[]byte{0, 0, 0, 0}, nil, tally{Noise: 4}},
		{bytes.Repeat([]byte{escape}, 1000), nil, tally{Noise: 1000}},
		{make([]byte, 100000), nil, tally{Noise: 100000}},
		{[]byte{flag}, nil, tally{}},
		{[]byte{flag, flag}, nil, tally{}},
		{bytes.Repeat([]byte{flag}, 1000), nil, tally{}},
		{[]byte{1, 2, flag}, nil, tally{Noise: 2}},
		{[]byte{escape, flag}, nil, tally{Noise: 1}}, // the Flag behind an Escape is one, too
		{[]byte{1, 2, flag, flag, flag}, nil, tally{Noise: 2}},
		{[]byte{0, 0, 0, 0, flag}, nil, tally{Noise: 4}}, // no Flag stands ahead of it
		{[]byte{0, 0, 0, 0, flag, 0, 0, 0, 0}, nil, tally{Noise: 4}},
		{[]byte{0, 0, 0, 0, flag, 0, 0, 0, 0, flag}, empty, tally{Good: 1, Noise: 4}},
		{[]byte{flag, 0, 0, 0, 0}, nil, tally{}},
		{[]byte{flag, 0, 0, 0, 0, flag}, empty, tally{Good: 1}},
		{[]byte{flag, 0, 0, 0, 0, flag, 0, 0, 0, 0}, empty, tally{Good: 1}},
		{[]byte{flag, 0, 0, 0, 0, flag, 0, 0, 0, 0, flag}, [][]byte{{}, {}}, tally{Good: 2}},
		{[]byte{flag, 1}, nil, tally{}},
		{[]byte{flag, 1, flag}, nil, tally{Bad: 1}},
		{[]byte{flag, 1, flag, 2, flag}, nil, tally{Bad: 2}},
		{[]byte{flag, 1, flag, flag, 2, flag, 3}, nil, tally{Bad: 2}},
		{[]byte{flag, escape, flag, 0, 0, 0, 0, flag}, empty, tally{Good: 1, Bad: 1}},
		{[]byte{flag, 0, 0, 0, 0, flag, 7, 7, 7}, empty, tally{Good: 1}}, // what stands behind is no noise
		{append([]byte{flag}, make([]byte, 100000)...), nil, tally{}},
	} {
		says(t, c, k.b, k.found, k.seen)
	}
}

func TestAllShortTexts(t *testing.T) { // P5.1
	c := crc.New()
	texts := [][]byte{nil}
	for range 9 {
		var more [][]byte
		for _, b := range texts {
			asSaid(t, c, b)
			for _, x := range []byte{0, escape, flag} {
				more = append(more, append(bytes.Clone(b), x))
			}
		}
		texts = more
	}
}

func TestEveryByteAlone(t *testing.T) { // P5.1
	c := crc.New()
	for _, x := range every(flag) {
		says(t, c, []byte{x}, nil, tally{Noise: 1})
		says(t, c, []byte{x, flag, x}, nil, tally{Noise: 1})
		says(t, c, []byte{x, x, flag, x, flag, x}, nil, tally{Bad: 1, Noise: 2})
		b := []byte{x}
		says(t, c, wrapped(b), [][]byte{b}, tally{Good: 1})
	}
}

// TestHowLongAStretchIs has each length with its Flag and, as yet, without it: it is counted once, when its Flag comes.
func TestHowLongAStretchIs(t *testing.T) { // P5.1
	c := crc.New()
	for _, n := range []int{1, 3, 4, 100, 101, longest - 2, longest - 1, longest, longest + 1, longest + 2, longest + 3, longest + 56, 256, 257, 300, 2 * longest, 2*longest + 1, 512, 1000, 4096, 1<<16 + 1, 1<<16 + longest, 1<<16 + longest + 1, 1 << 20} {
		ended := tally{Bad: 1}
		if n > longest {
			ended = tally{Long: 1}
		}
		for _, s := range [][]byte{bytes.Repeat([]byte{1}, n), flagless(n), bytes.Repeat([]byte{escape}, n), bytes.Repeat([]byte{escape, 0x5d}, n)[:n]} {
			w := between(s)
			says(t, c, w, nil, ended)
			says(t, c, w[:n+1], nil, tally{})
			scanner := deframe.New(c)
			finds(t, "without its Flag", scanner.Feed(w[:n+1]), scanner, nil, tally{})
			finds(t, "with its Flag", scanner.Feed(w[n+1:]), scanner, nil, ended)
			finds(t, "with one more", scanner.Feed([]byte{flag}), scanner, nil, ended)
			withGood := ended
			withGood.Good++
			finds(t, "with a frame behind it", scanner.Feed(inner(nil)), scanner, nil, ended)
			finds(t, "with a frame and its Flag behind it", scanner.Feed([]byte{flag}), scanner, [][]byte{{}}, withGood)
		}
	}
}

func TestLongOnesApart(t *testing.T) { // P5.1
	c := crc.New()
	long := flagless(longest + 1)
	says(t, c, slices.Concat(between(long), long, between(long), []byte{flag}, long), nil, tally{Long: 3})
	says(t, c, slices.Concat(long, between(long), long), nil, tally{Long: 1, Noise: longest + 1})
	says(t, c, slices.Concat(between(long), inner([]byte("a")), between(long), inner([]byte("b"))), [][]byte{[]byte("a")}, tally{Good: 1, Long: 2})
}

func TestLongAmongEveryLength(t *testing.T) { // P5.1, P5.2
	c := crc.New()
	scanner, once := deframe.New(c), deframe.New(c)
	var seen tally
	for n := range 1000 {
		once.Reset()
		for _, s := range []*deframe.Scanner{scanner, once} {
			if got := fed(s, []byte{flag}, bytes.Repeat([]byte{0xa5}, n), []byte{flag}); len(got) != 0 {
				t.Fatalf("%d bytes: found %x", n, got)
			}
		}
		var one tally
		switch {
		case n > longest:
			one.Long = 1
		case n > 0:
			one.Bad = 1
		}
		seen.Bad += one.Bad
		seen.Long += one.Long
		if once.Seen() != one || scanner.Seen() != seen {
			t.Fatalf("%d bytes: seen %+v, and in all %+v", n, once.Seen(), scanner.Seen())
		}
	}
}

func TestLongestFrame(t *testing.T) { // P5.1, P5.3
	c := crc.New()
	b := fullest(t)
	s := inner(b)
	says(t, c, between(s), [][]byte{b}, tally{Good: 1})
	says(t, c, slices.Concat(between(s), s, between(s), between(s)), [][]byte{b, b, b, b}, tally{Good: 4})
	for _, x := range every(flag) { // a frame's bytes, and one more: it is long, whatever that is
		says(t, c, slices.Concat([]byte{flag}, s, []byte{x, flag}), nil, tally{Long: 1})
		says(t, c, slices.Concat([]byte{flag, x}, s, []byte{flag}), nil, tally{Long: 1})
	}
	for _, n := range []int{2, 55, 56, 57, 256, longest, 256 * 256} {
		says(t, c, slices.Concat([]byte{flag}, s, make([]byte, n), []byte{flag}), nil, tally{Long: 1})
		says(t, c, slices.Concat([]byte{flag}, make([]byte, n), s, []byte{flag}), nil, tally{Long: 1})
	}
	says(t, c, between(bytes.Repeat(s, 2)), nil, tally{Long: 1})
	says(t, c, between(s[1:]), nil, tally{Bad: 1})
	says(t, c, between(s[:longest-1]), nil, tally{Bad: 1})
}

// TestMoreThanAFrameCarries has stretches whose sum fits: up to a length they are bad, behind it long, and never good.
func TestMoreThanAFrameCarries(t *testing.T) { // P5.1
	c := crc.New()
	for n := maxFrame - 20; n < 300; n++ {
		for _, b := range [][]byte{make([]byte, n), noise(n), bytes.Repeat([]byte{flag}, n), bytes.Repeat([]byte{escape}, n)} {
			w := wrapped(b)
			switch {
			case n <= maxFrame:
				says(t, c, w, [][]byte{b}, tally{Good: 1})
			case len(w)-2 <= longest:
				says(t, c, w, nil, tally{Bad: 1})
			default:
				says(t, c, w, nil, tally{Long: 1})
			}
		}
	}
}

func TestFramesBehindOneAnother(t *testing.T) { // P5.1, P5.6
	c := crc.New()
	all := bodies()
	for flags := 1; flags < 5; flags++ {
		says(t, c, row(flags, all...), all, tally{Good: len(all)})
		for i, a := range all {
			says(t, c, row(flags, a), [][]byte{a}, tally{Good: 1})
			for _, b := range all[:i] {
				says(t, c, row(flags, a, b), [][]byte{a, b}, tally{Good: 2})
			}
			says(t, c, row(flags, a, a, a), [][]byte{a, a, a}, tally{Good: 3}) // the same one, as often as it comes
		}
	}
}

func TestNoiseAhead(t *testing.T) { // P5.1, P5.6
	c := crc.New()
	all := bodies()
	for n := range 300 {
		for flags := 1; flags < 3; flags++ {
			says(t, c, slices.Concat(flagless(n), row(flags, all...)), all, tally{Good: len(all), Noise: n})
		}
	}
	for _, b := range all { // a frame without its first Flag is noise
		s := append(inner(b), flag)
		says(t, c, s, nil, tally{Noise: len(s) - 1})
		says(t, c, append(s, s...), [][]byte{b}, tally{Good: 1, Noise: len(s) - 1})
	}
	says(t, c, slices.Concat(make([]byte, 1<<20), wrapped(nil)), [][]byte{{}}, tally{Good: 1, Noise: 1 << 20})
}

func TestManyFrames(t *testing.T) { // P5.6
	c := crc.New()
	next := numbers(5)
	for range 200 {
		ahead := flagless(next() % 50)
		w := bytes.Clone(ahead)
		var want [][]byte
		for range next() % 20 {
			b := crowd(next()%(maxFrame+1), named)
			want = append(want, b)
			w = slices.Concat(w, bytes.Repeat([]byte{flag}, next()%3), wrapped(b))
		}
		says(t, c, w, want, tally{Good: len(want), Noise: len(ahead)})
	}
}

// aside fails the test if a spoilt frame that stands between two others isn't bad, or one of these two isn't found.
func aside(t *testing.T, c *crc.Table, spoilt []byte) {
	t.Helper()
	a, b := []byte("ahead"), []byte("behind")
	w := slices.Concat(wrapped(a), spoilt, wrapped(b))
	want, seen := scanned(w)
	says(t, c, w, want, seen)
	if len(want) != 2 || seen.Bad != 1 || seen.Good != 2 || seen.Long != 0 || seen.Noise != 0 {
		t.Fatalf("%x: the test's own words are %x, %+v", spoilt, want, seen)
	}
}

func TestByteTurned(t *testing.T) { // P5.1, P5.5
	c := crc.New()
	for _, b := range [][]byte{nil, []byte("ab"), {flag, escape}, noise(30), crowd(40, named), fullest(t)} {
		w := wrapped(b)
		for i := 1; i < len(w)-1; i++ {
			for _, x := range append([]byte{w[i] ^ 1, w[i] ^ 0x20, w[i] ^ 0xff}, named...) {
				spoilt := bytes.Clone(w)
				spoilt[i] = x
				switch x {
				case w[i]:
				case flag: // it ends one stretch, and begins another
					asSaid(t, c, slices.Concat(spoilt, wrapped(b)))
				default:
					aside(t, c, spoilt)
				}
			}
		}
	}
}

func TestByteGone(t *testing.T) { // P5.1, P5.5
	c := crc.New()
	for _, b := range [][]byte{nil, []byte("ab"), {flag, escape}, noise(30), crowd(40, named), fullest(t)} {
		w := wrapped(b)
		for i := 1; i < len(w)-1; i++ {
			aside(t, c, slices.Delete(bytes.Clone(w), i, i+1))
		}
		says(t, c, w[1:], nil, tally{Noise: len(w) - 2})
		says(t, c, w[:len(w)-1], nil, tally{})
		last := []byte("last")
		says(t, c, slices.Concat(w[1:], wrapped(last)), [][]byte{last}, tally{Good: 1, Noise: len(w) - 2})
		says(t, c, slices.Concat(w[:len(w)-1], wrapped(last)), [][]byte{b, last}, tally{Good: 2})
	}
	a, b, last := []byte("a"), []byte("b"), []byte("last") // the one Flag between two frames is gone: both are
	w := slices.Concat([]byte{flag}, inner(a), inner(b), wrapped(last))
	says(t, c, w, [][]byte{last}, tally{Good: 1, Bad: 1})
}

func TestByteTooMany(t *testing.T) { // P5.1, P5.5
	c := crc.New()
	for _, b := range [][]byte{nil, []byte("ab"), {flag, escape}, noise(30), crowd(40, named)} {
		w := wrapped(b)
		for i := 1; i < len(w); i++ {
			for _, x := range named {
				spoilt := slices.Insert(bytes.Clone(w), i, x)
				if x == flag { // it ends one stretch, and begins another
					asSaid(t, c, slices.Concat(spoilt, wrapped(b)))
					continue
				}
				aside(t, c, spoilt)
			}
		}
	}
}

func TestFrameTwice(t *testing.T) { // P5.1
	c := crc.New()
	b := []byte("ab")
	says(t, c, between(append(inner(b), inner(b)...)), nil, tally{Bad: 1})
	says(t, c, between(inner(wrapped(b))), [][]byte{wrapped(b)}, tally{Good: 1}) // a frame that a frame carries isn't found itself
	says(t, c, between(stuffed(inner([]byte{flag}))), nil, tally{Bad: 1})
}

func TestNeverEnded(t *testing.T) { // P5.1, P5.2
	c := crc.New()
	s := deframe.New(c)
	finds(t, "a Flag", s.Feed([]byte{1, flag}), s, nil, tally{Noise: 1})
	for range 1000 {
		finds(t, "a stretch that is never ended", s.Feed(flagless(1000)), s, nil, tally{Noise: 1})
	}
	finds(t, "its Flag", s.Feed([]byte{flag}), s, nil, tally{Long: 1, Noise: 1})
	finds(t, "a frame behind it", s.Feed(wrapped([]byte("a"))), s, [][]byte{[]byte("a")}, tally{Good: 1, Long: 1, Noise: 1})
}

func TestFeedTellsAtItsFlag(t *testing.T) { // P5.2
	s := deframe.New(crc.New())
	for i, b := range append(bodies(), fullest(t)) {
		w := wrapped(b)
		last := len(w) - 1
		finds(t, "a frame without its last Flag", s.Feed(w[:last]), s, nil, tally{Good: i})
		finds(t, "its last Flag", s.Feed(w[last:]), s, [][]byte{b}, tally{Good: i + 1})
	}
}

func TestFeedTellsOnce(t *testing.T) { // P5.2
	s := deframe.New(crc.New())
	a, b := []byte("a"), []byte("b")
	finds(t, "the first one", s.Feed(wrapped(a)), s, [][]byte{a}, tally{Good: 1})
	finds(t, "nothing", s.Feed(nil), s, nil, tally{Good: 1})
	finds(t, "a Flag", s.Feed([]byte{flag}), s, nil, tally{Good: 1})
	finds(t, "two more", s.Feed(slices.Concat(inner(b), between(inner(a)))), s, [][]byte{b, a}, tally{Good: 3})
}

func TestSeenChangesNothing(t *testing.T) { // P5.2
	c := crc.New()
	for _, b := range texts(t) {
		s := deframe.New(c)
		want, seen := scanned(b)
		var got [][]byte
		for i := range b {
			s.Seen()
			first := s.Seen()
			if s.Seen() != first {
				t.Fatal("Seen told two things one behind the other")
			}
			got = append(got, s.Feed(b[i:i+1])...)
		}
		finds(t, "with Seen between", got, s, want, seen)
	}
}

func TestManyTexts(t *testing.T) { // P5.1, P5.3
	c := crc.New()
	next := numbers(7)
	good := 0
	for range 3000 {
		var w []byte
		for range next() % 8 {
			b := crowd(next()%(maxFrame+3), named)
			piece := wrapped(b)
			i, j := next()%len(piece), next()%len(piece)
			switch next() % 8 {
			case 0:
				piece[i] = named[next()%len(named)]
			case 1:
				piece = slices.Concat(piece[:i], piece[j:])
			case 2:
				piece = slices.Insert(piece, i, noise(next()%300)...)
			case 3:
				piece = piece[:i]
			case 4:
				piece = crowd(next()%500, named)
			}
			w = append(w, piece...)
		}
		asSaid(t, c, w)
		want, _ := scanned(w)
		good += len(want)
	}
	if good < 3000 {
		t.Fatal("too few are found:", good)
	}
}

func TestByteByByte(t *testing.T) { // P5.2, P5.4
	c := crc.New()
	for _, b := range texts(t) {
		stepwise(t, deframe.New(c), b)
	}
	for i := range 20 {
		stepwise(t, deframe.New(c), crowd(300+i, named))
	}
}

func TestCutAtEveryPlace(t *testing.T) { // P5.4
	c := crc.New()
	for _, b := range texts(t) {
		want, seen := scanned(b)
		for i := range len(b) + 1 {
			s := deframe.New(c)
			finds(t, "in two", fed(s, b[:i], b[i:]), s, want, seen)
			s = deframe.New(c)
			finds(t, "in two, with empty pieces", fed(s, nil, b[:i], []byte{}, nil, b[i:], nil, []byte{}), s, want, seen)
		}
	}
}

func TestCutAtEveryTwoPlaces(t *testing.T) { // P5.4
	c := crc.New()
	for _, b := range [][]byte{
		slices.Concat([]byte{9, 8}, row(1, []byte("a"), []byte{flag, escape}), []byte{5, flag}, row(2, nil, []byte("b")), []byte{3}),
		{9, flag, 0, 0, 0, 0, flag, flag, 5, flag},
		between(flagless(longest + 3)),
		wrapped(fullest(t)),
	} {
		want, seen := scanned(b)
		for j := range len(b) + 1 {
			for i := range j + 1 {
				s := deframe.New(c)
				finds(t, "in three", fed(s, b[:i], b[i:j], b[j:]), s, want, seen)
			}
		}
	}
}

func TestCutInManyWays(t *testing.T) { // P5.4
	c := crc.New()
	next := numbers(11)
	for _, b := range append(texts(t), slices.Concat(texts(t)...)) {
		want, seen := scanned(b)
		for _, most := range []int{2, 3, 10, 64, 199, 200, 201, 300} {
			for range 10 {
				s := deframe.New(c)
				var pieces [][]byte
				for rest := b; len(rest) > 0; {
					n := min(next()%most, len(rest)) // some are empty
					pieces = append(pieces, rest[:n])
					rest = rest[n:]
				}
				finds(t, "in many", fed(s, pieces...), s, want, seen)
			}
		}
		for wide := 1; wide < 220; wide++ {
			s := deframe.New(c)
			finds(t, "in pieces of one length", fed(s, slices.Collect(slices.Chunk(b, wide))...), s, want, seen)
		}
	}
}

func TestEmptyPiecesAlone(t *testing.T) { // P5.4
	s := deframe.New(crc.New())
	for range 100 {
		finds(t, "nothing", fed(s, nil, []byte{}), s, nil, tally{})
	}
	finds(t, "a frame behind nothing", s.Feed(wrapped(nil)), s, [][]byte{{}}, tally{Good: 1})
}

// lastIs fails the test if of a frame behind this its body isn't found, as the last one, and at once.
func lastIs(t *testing.T, c *crc.Table, ahead, b []byte) {
	t.Helper()
	w := wrapped(b)
	got := deframe.All(c, slices.Concat(ahead, w))
	if len(got) == 0 || !bytes.Equal(got[len(got)-1], b) {
		t.Fatalf("behind %x: found %x, and not %x as the last one", ahead, got, b)
	}
	s := deframe.New(c)
	s.Feed(ahead)
	before := s.Seen()
	s.Feed(w[:1]) // this Flag may end a stretch of what stood ahead
	after := s.Seen()
	got = s.Feed(w[1:])
	if len(got) != 1 || !bytes.Equal(got[0], b) {
		t.Fatalf("behind %x: found %x, not %x", ahead, got, b)
	}
	after.Good++
	if s.Seen() != after {
		t.Fatalf("behind %x, of which %+v was seen: seen %+v, not %+v", ahead, before, s.Seen(), after)
	}
}

func TestWhateverStoodAhead(t *testing.T) { // P5.5
	c := crc.New()
	last := []byte{flag, 'z', escape}
	for _, ahead := range texts(t) {
		for i := range len(ahead) + 1 {
			lastIs(t, c, ahead[:i], last)
			lastIs(t, c, ahead[i:], last)
		}
		for _, b := range append(bodies(), fullest(t)) {
			lastIs(t, c, ahead, b)
		}
	}
	for n := range 300 {
		lastIs(t, c, crowd(n, named), last)
		lastIs(t, c, noise(n), last)
		lastIs(t, c, flagless(n), last)
		lastIs(t, c, append([]byte{flag}, flagless(n)...), last)
		lastIs(t, c, append([]byte{flag}, bytes.Repeat([]byte{escape}, n)...), last)
	}
	lastIs(t, c, append([]byte{flag}, make([]byte, 1<<20)...), last)
}

func TestShortTextsAhead(t *testing.T) { // P5.5
	c := crc.New()
	ahead := [][]byte{nil}
	for range 7 {
		var more [][]byte
		for _, b := range ahead {
			lastIs(t, c, b, nil)
			lastIs(t, c, b, []byte{escape, flag})
			for _, x := range []byte{0, escape, 0x5e, flag} {
				more = append(more, append(bytes.Clone(b), x))
			}
		}
		ahead = more
	}
}

func TestReset(t *testing.T) { // P5.2
	c := crc.New()
	behind := [][]byte{
		nil, {0, 0, 0, 0, flag}, {1, 2, 3}, {flag}, {flag, 1, flag}, wrapped(nil), append(inner([]byte("a")), flag),
		slices.Concat([]byte{9}, row(1, []byte("a"), []byte{flag}), []byte{5, flag}), between(flagless(longest + 1)), between(flagless(longest)),
	}
	for _, b := range texts(t) {
		for i := range len(b) + 1 { // also in the middle of a stretch
			s := deframe.New(c)
			s.Feed(b[:i])
			for _, w := range behind {
				s.Reset()
				finds(t, "Reset", nil, s, nil, tally{})
				want, seen := scanned(w)
				finds(t, "Feed behind a Reset", s.Feed(w), s, want, seen)
			}
			s.Reset()
			s.Reset()
			want, seen := scanned(b[i:])
			finds(t, "Feed behind two", s.Feed(b[i:]), s, want, seen)
		}
	}
}

func TestResetInsideAStretch(t *testing.T) { // P5.2
	s := deframe.New(crc.New())
	for _, w := range [][]byte{{flag}, {flag, 0, 0}, {flag, 0, 0, 0, 0}, append([]byte{flag}, make([]byte, 300)...), wrapped(nil)} {
		s.Feed(w)
		s.Reset()
		finds(t, "the rest of a frame", s.Feed([]byte{0, 0, 0, 0, flag}), s, nil, tally{Noise: 4})
		s.Reset()
		finds(t, "a frame", s.Feed(wrapped(nil)), s, [][]byte{{}}, tally{Good: 1})
	}
}

func TestResetOfANewOne(t *testing.T) { // P5.2
	s := deframe.New(crc.New())
	s.Reset()
	finds(t, "Reset of a new one", nil, s, nil, tally{})
	finds(t, "a frame behind it", s.Feed(wrapped([]byte("a"))), s, [][]byte{[]byte("a")}, tally{Good: 1})
}

func TestTablesThatNewDidNotMake(t *testing.T) { // the paragraph above the promises
	for _, c := range unmade() {
		s := deframe.New(c)
		if s != nil {
			t.Fatal("New made a scanner of no table")
		}
		for _, b := range texts(t) {
			if got := deframe.All(c, b); len(got) != 0 {
				t.Fatalf("All found %x with no table", got)
			}
		}
		nothing(t, s)
	}
}

func TestScannersThatNewDidNotMake(t *testing.T) { // the paragraph above the promises
	var nobody *deframe.Scanner
	var zero deframe.Scanner
	for _, s := range []*deframe.Scanner{nobody, &zero, {}, new(deframe.Scanner)} {
		nothing(t, s)
	}
}

// nothing fails the test if s finds or has seen anything.
func nothing(t *testing.T, s *deframe.Scanner) {
	t.Helper()
	finds(t, "a scanner that New did not make", nil, s, nil, tally{})
	for _, b := range texts(t) {
		finds(t, "Feed", s.Feed(b), s, nil, tally{})
		for i := range b {
			finds(t, "Feed of one byte", s.Feed(b[i:i+1]), s, nil, tally{})
		}
		s.Reset()
		finds(t, "Reset", nil, s, nil, tally{})
		finds(t, "Feed behind a Reset", s.Feed(b), s, nil, tally{})
	}
}

func TestScannersApart(t *testing.T) { // rule 4
	c := crc.New()
	all := texts(t)
	scanners := make([]*deframe.Scanner, len(all))
	found := make([][][]byte, len(all))
	for i := range all {
		scanners[i] = deframe.New(c)
	}
	other := deframe.New(crc.New())
	for place := range 2000 { // one byte of each, in turn
		for i, b := range all {
			if place < len(b) {
				found[i] = append(found[i], scanners[i].Feed(b[place:place+1])...)
				other.Feed(b[place : place+1])
				other.Reset()
				deframe.All(c, b[:min(place, 9)])
			}
		}
	}
	for i, b := range all {
		want, seen := scanned(b)
		finds(t, "one of many", found[i], scanners[i], want, seen)
	}
}

func TestCallsLeaveTheTable(t *testing.T) { // rules 3, 4
	c, fresh := crc.New(), crc.New()
	s := deframe.New(c)
	for _, b := range texts(t) {
		deframe.All(c, b)
		s.Feed(b)
		s.Seen()
	}
	s.Reset()
	if *c != *fresh {
		t.Fatal("the calls made another table")
	}
}

func TestHandedInStays(t *testing.T) { // rule 3
	c := crc.New()
	for _, b := range texts(t) {
		for _, table := range append(unmade(), c) {
			for i := range len(b) + 1 {
				room := append(bytes.Clone(b), 0x5a, 0x5a, 0x5a, 0x5a) // what stands behind a piece stays, too
				was := bytes.Clone(room)
				s := deframe.New(table)
				s.Feed(room[:i])
				s.Feed(room[i:len(b)])
				s.Reset()
				deframe.All(table, room[:i])
				if !bytes.Equal(room, was) {
					t.Fatalf("%x was changed", b)
				}
			}
		}
	}
}

func TestPiecesWrittenOver(t *testing.T) { // rule 3
	c := crc.New()
	for _, b := range texts(t) {
		want, seen := scanned(b)
		for _, wide := range []int{1, 2, 3, 7, 50, 199, 200, 201, 1000} {
			s := deframe.New(c)
			var got [][]byte
			for piece := range slices.Chunk(b, wide) {
				own := bytes.Clone(piece)
				got = append(got, s.Feed(own)...)
				overwrite(own)
			}
			finds(t, "pieces that are written over", got, s, want, seen)
			room := make([]byte, wide) // one buffer for all pieces
			s, got = deframe.New(c), nil
			for piece := range slices.Chunk(b, wide) {
				got = append(got, s.Feed(room[:copy(room, piece)])...)
			}
			finds(t, "pieces in one buffer", got, s, want, seen)
		}
		own := bytes.Clone(b)
		got := deframe.All(c, own)
		overwrite(own)
		if !same(got, want) {
			t.Fatalf("All(%x) = %x behind a change of what was handed in", b, got)
		}
	}
}

func TestAnsweredIsNew(t *testing.T) { // rule 3
	c := crc.New()
	for _, b := range append(texts(t), row(1, bodies()...)) {
		want, seen := scanned(b)
		own := bytes.Clone(b)
		s := deframe.New(c)
		for name, got := range map[string][][]byte{"All": deframe.All(c, own), "Feed": s.Feed(own)} {
			for i := range got { // those that aren't written over yet stay as they were
				overwrite(got[i])
				if !same(got[i+1:], want[i+1:]) {
					t.Fatalf("%s: two of one answer share memory, %x", name, b)
				}
			}
			if !bytes.Equal(own, b) {
				t.Fatalf("%s: the answer shares memory with what was handed in, %x", name, b)
			}
			clear(got)
		}
		finds(t, "behind a change of what was answered", nil, s, nil, seen)
		if got := deframe.All(c, b); !same(got, want) {
			t.Fatalf("All(%x) = %x behind a change of what was answered", b, got)
		}
	}
}

func TestAnswersApart(t *testing.T) { // rule 3
	c := crc.New()
	for _, b := range texts(t) {
		want, seen := scanned(b)
		for i := range len(b) + 1 {
			s := deframe.New(c)
			first := s.Feed(b[:i])
			kept := copied(first)
			second := s.Feed(b[i:])
			if !same(first, kept) {
				t.Fatalf("a later piece of %x changed an earlier answer", b)
			}
			for _, x := range first {
				overwrite(x)
			}
			finds(t, "two answers", append(kept, second...), s, want, seen)
		}
	}
}

func TestAnswerWrittenOverInsideAStretch(t *testing.T) { // rule 3
	s := deframe.New(crc.New())
	a, b := []byte("abc"), []byte("def")
	w := inner(b)
	got := s.Feed(append(wrapped(a), w[:4]...))
	finds(t, "the first one", got, s, [][]byte{a}, tally{Good: 1})
	overwrite(got[0])
	finds(t, "the second one", s.Feed(append(bytes.Clone(w[4:]), flag)), s, [][]byte{b}, tally{Good: 2})
}
