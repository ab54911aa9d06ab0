package stuff

import (
	"bytes"
	"kedge/api"
	"slices"
	"testing"
)

// The bytes that the chapter names, written out, so that the tests hold whatever api says.
const (
	flag       = 0x7e
	escape     = 0x7d
	flagTurned = 0x5e
	escTurned  = 0x5d
)

// named are the bytes that mean something, those that stand for them, their neighbours, and the ends.
var named = []byte{0, 0x20, 0x5c, escTurned, flagTurned, 0x5f, 0x7c, escape, flag, 0x7f, 0xfd, 0xff}

// stuffed is Put as the chapter says it.
func stuffed(b []byte) []byte {
	b = bytes.ReplaceAll(b, []byte{escape}, []byte{escape, escTurned})
	return bytes.ReplaceAll(b, []byte{flag}, []byte{escape, flagTurned})
}

// unstuffed tells of what Put makes b, and whether it does so of anything: by the pieces between the Escapes, not byte by byte.
func unstuffed(b []byte) ([]byte, bool) {
	pieces := bytes.Split(b, []byte{escape})
	out := bytes.Clone(pieces[0])
	for _, piece := range pieces[1:] {
		if len(piece) == 0 || piece[0] != flagTurned && piece[0] != escTurned {
			return nil, false
		}
		out = append(append(out, piece[0]+0x20), piece[1:]...)
	}
	return out, !bytes.Contains(b, []byte{flag})
}

// plainly is Plain as the chapter says it: whether a byte is taken along hangs on how many Escapes stand in a row ahead of it.
func plainly(b []byte) []bool {
	plain := make([]bool, len(b))
	for i, c := range b {
		ahead := 0
		for ahead < i && b[i-1-ahead] == escape {
			ahead++
		}
		plain[i] = c != flag && c != escape && ahead%2 == 0
	}
	return plain
}

// numbers answers a function that tells numbers that look like noise, the same ones in each run.
func numbers(begin uint32) func() uint32 {
	x := uint64(begin)
	return func() uint32 {
		x = x*6364136223846793005 + 1442695040888963407
		return uint32(x >> 32)
	}
}

// noise is n bytes that look like noise.
func noise(n int) []byte {
	next := numbers(uint32(n))
	b := make([]byte, n)
	for i := range b {
		b[i] = byte(next())
	}
	return b
}

// crowd is n bytes that look like noise, of those in from.
func crowd(n int, from []byte) []byte {
	next := numbers(uint32(n + 1000))
	b := make([]byte, n)
	for i := range b {
		b[i] = from[int(next()%uint32(len(from)))]
	}
	return b
}

// words answers all rows of up to n of the bytes in from.
func words(n int, from []byte) [][]byte {
	all := [][]byte{{}}
	last := all
	for range n {
		var longer [][]byte
		for _, b := range last {
			for _, c := range from {
				longer = append(longer, append(bytes.Clone(b), c))
			}
		}
		all = append(all, longer...)
		last = longer
	}
	return all
}

// bytePairs answers all bytes, and all pairs of bytes.
func bytePairs() [][]byte {
	var all [][]byte
	for i := range 256 {
		all = append(all, []byte{byte(i)})
		for j := range 256 {
			all = append(all, []byte{byte(i), byte(j)})
		}
	}
	return all
}

// texts are bytes of many kinds: none, each one, all pairs, all short rows of those that are named, long ones.
func texts() [][]byte {
	all := append([][]byte{nil, {}}, bytePairs()...)
	all = append(all, words(4, named)...)
	all = append(all, words(8, []byte{escape, flag, escTurned})...)
	for n := range 200 {
		all = append(all, noise(n), crowd(n, named), crowd(n, []byte{1, escape, escTurned, flagTurned}))
	}
	for _, n := range []int{512, 4096, 70000} {
		all = append(all, noise(n), crowd(n, named), bytes.Repeat([]byte{flag}, n), bytes.Repeat([]byte{escape}, n), make([]byte, n))
	}
	return all
}

// spare answers b with room behind it in which a guard stands, and a function that tells whether b and the guard are as they were.
func spare(b []byte) ([]byte, func() bool) {
	whole := append(append([]byte{0xa5}, b...), 0x5a, 0x5a, 0x5a, 0x5a, 0x5a, 0x5a, 0x5a, 0x5a)
	was := bytes.Clone(whole)
	return whole[1 : 1+len(b)], func() bool { return bytes.Equal(whole, was) }
}

// overwrite puts other bytes in all of b's memory, up to its capacity.
func overwrite(b []byte) {
	b = b[:cap(b)]
	for i := range b {
		b[i] ^= 0xff
	}
}

// refused fails the test if Get takes b, or tells anything beside the error.
func refused(t *testing.T, b []byte) {
	t.Helper()
	if got, e := Get(b); e != api.ErrEscape || len(got) != 0 {
		t.Fatalf("Get(%x) = %x, %d", b, got, e)
	}
}

// gets fails the test if Get of b isn't want.
func gets(t *testing.T, b, want []byte) {
	t.Helper()
	if got, e := Get(b); e != api.OK || !bytes.Equal(got, want) {
		t.Fatalf("Get(%x) = %x, %d, not %x", b, got, e, want)
	}
}

func TestPutExamples(t *testing.T) { // P3.1
	for _, c := range []struct{ b, want []byte }{
		{nil, nil},
		{[]byte{}, nil},
		{[]byte{flag, 1}, []byte{escape, flagTurned, 1}},
		{[]byte{escape}, []byte{escape, escTurned}},
		{[]byte{flag}, []byte{escape, flagTurned}},
		{[]byte{flag, flag, flag}, []byte{escape, flagTurned, escape, flagTurned, escape, flagTurned}},
		{[]byte{escape, escape}, []byte{escape, escTurned, escape, escTurned}},
		{[]byte{escape, flag}, []byte{escape, escTurned, escape, flagTurned}},
		{[]byte{escape, escTurned}, []byte{escape, escTurned, escTurned}}, // what was put is put again
		{[]byte{flagTurned, escTurned, 0x20}, []byte{flagTurned, escTurned, 0x20}},
		{[]byte("a~b}c"), []byte("a}^b}]c")},
	} {
		if got := Put(c.b); !bytes.Equal(got, c.want) {
			t.Errorf("Put(%x) = %x, not %x", c.b, got, c.want)
		}
	}
}

func TestPutSingle(t *testing.T) { // P3.1
	for i := range 256 {
		want := []byte{byte(i)}
		switch i {
		case flag:
			want = []byte{escape, flagTurned}
		case escape:
			want = []byte{escape, escTurned}
		}
		if got := Put([]byte{byte(i)}); !bytes.Equal(got, want) {
			t.Errorf("Put(%x) = %x, not %x", i, got, want)
		}
	}
}

func TestPutMany(t *testing.T) { // P3.1
	for _, b := range texts() {
		if got := Put(b); !bytes.Equal(got, stuffed(b)) {
			t.Fatalf("Put(%x) = %x", b, got)
		}
	}
}

func TestGetExamples(t *testing.T) { // P3.2
	gets(t, nil, nil)
	gets(t, []byte{}, nil)
	gets(t, []byte{escape, escTurned}, []byte{escape})
	gets(t, []byte{escape, flagTurned}, []byte{flag})
	gets(t, []byte{escape, flagTurned, 1}, []byte{flag, 1})
	gets(t, []byte{escape, escTurned, escape, escTurned}, []byte{escape, escape})
	gets(t, []byte{escape, escTurned, escTurned, flagTurned}, []byte{escape, escTurned, flagTurned})
	gets(t, []byte("a}^b}]c"), []byte("a~b}c"))
	refused(t, []byte{escape, 1})
}

func TestGetSingle(t *testing.T) { // P3.2
	for i := range 256 {
		b := []byte{byte(i)}
		if i == flag || i == escape {
			refused(t, b)
		} else {
			gets(t, b, b)
		}
	}
}

func TestGetBehindEscape(t *testing.T) { // P3.2
	for i := range 256 {
		for _, b := range [][]byte{{escape, byte(i)}, {1, 2, escape, byte(i)}, {escape, byte(i), 3}, {escape, escTurned, escape, byte(i), 4, 5}} {
			want, ok := unstuffed(b)
			if ok != (i == flagTurned || i == escTurned) {
				t.Fatalf("the test's own way takes %x: %t", b, ok)
			}
			if ok {
				gets(t, b, want)
			} else {
				refused(t, b)
			}
		}
	}
}

func TestGetEscapeAtTheEnd(t *testing.T) { // P3.2
	for _, text := range [][]byte{nil, {1}, {escTurned}, {escape}, {flag}, {escape, 1, escape}, make([]byte, 300), noise(100)} {
		b := stuffed(text)
		gets(t, b, text)
		refused(t, append(b, escape))
	}
}

func TestGetFlagAnywhere(t *testing.T) { // P3.2
	for _, text := range [][]byte{nil, {1}, {flag}, {escape}, {1, 2, 3}, {1, flag, 2, escape, 3}, noise(300)} {
		b := Put(text)
		for i := range len(b) + 1 { // the front, the middle, behind an Escape, the end
			refused(t, slices.Concat(b[:i], []byte{flag}, b[i:]))
		}
		for i := range b {
			other := bytes.Clone(b)
			other[i] = flag
			refused(t, other)
		}
	}
	refused(t, []byte{escape, flag})
	refused(t, []byte{escape, flag, flagTurned})
}

func TestGetNothingBut(t *testing.T) { // P3.2
	for n := 1; n <= 20; n++ {
		refused(t, bytes.Repeat([]byte{flag}, n))
		refused(t, bytes.Repeat([]byte{escape}, n))
		gets(t, bytes.Repeat([]byte{escape, escTurned}, n), bytes.Repeat([]byte{escape}, n))
		gets(t, bytes.Repeat([]byte{escape, flagTurned}, n), bytes.Repeat([]byte{flag}, n))
	}
}

func TestGetMany(t *testing.T) { // P3.2
	taken := 0
	for _, b := range texts() {
		want, ok := unstuffed(b)
		if !ok {
			refused(t, b)
			continue
		}
		gets(t, b, want)
		taken++
	}
	if taken < 1000 {
		t.Fatal("too few are taken:", taken)
	}
}

func TestSize(t *testing.T) { // P3.3
	for _, c := range []struct {
		b    []byte
		want int
	}{
		{nil, 0}, {[]byte{}, 0}, {[]byte{1}, 1}, {[]byte{flag}, 2}, {[]byte{escape}, 2},
		{[]byte{flag, 1}, 3}, {[]byte{flagTurned, escTurned}, 2}, {[]byte{flag, escape, flag}, 6},
	} {
		if got := Size(c.b); got != c.want {
			t.Errorf("Size(%x) = %d, not %d", c.b, got, c.want)
		}
	}
	for _, b := range texts() {
		if got := Size(b); got != len(stuffed(b)) || got != len(Put(b)) {
			t.Fatalf("Size(%x) = %d", b, got)
		}
	}
}

func TestPlainExamples(t *testing.T) { // P3.3
	const yes, no = true, false
	for _, c := range []struct {
		b    []byte
		want []bool
	}{
		{nil, nil},
		{[]byte{}, nil},
		{[]byte{1, escape, flagTurned, 2}, []bool{yes, no, no, yes}},
		{[]byte{1}, []bool{yes}},
		{[]byte{flag}, []bool{no}},
		{[]byte{escape}, []bool{no}},
		{[]byte{flagTurned, escTurned}, []bool{yes, yes}},
		{[]byte{flag, 1, flag}, []bool{no, yes, no}},                     // a Flag takes nothing along
		{[]byte{escape, 1, 2}, []bool{no, no, yes}},                      // whatever that is
		{[]byte{escape, flag, 2}, []bool{no, no, yes}},                   // a Flag, too
		{[]byte{escape, escape, 2}, []bool{no, no, yes}},                 // an Escape that is itself taken along
		{[]byte{escape, escape, escape, 2}, []bool{no, no, no, no}},      // but the third one isn't
		{[]byte{escape, escape, escape, escape, 2}, []bool{4: yes}},      // nor does the fourth
		{[]byte{1, escape}, []bool{yes, no}},                             // nothing to take along
		{[]byte{escape, escTurned, escape, 3, 4}, []bool{4: yes}},        // two in a row
		{[]byte{flag, escape, flag, flag, 5}, []bool{4: yes}},            // Flags about an Escape
		{bytes.Repeat([]byte{flag}, 9), make([]bool, 9)},                 // nothing but flags
		{bytes.Repeat([]byte{escape}, 9), make([]bool, 9)},               // nothing but escapes
		{append(bytes.Repeat([]byte{escape}, 9), 7, 8), []bool{10: yes}}, // the ninth takes 7 along
	} {
		if got := Plain(c.b); !slices.Equal(got, c.want) {
			t.Errorf("Plain(%x) = %t, not %t", c.b, got, c.want)
		}
	}
}

func TestPlainMany(t *testing.T) { // P3.3
	for _, b := range texts() {
		if len(b) > 5000 { // plainly takes too long over it
			continue
		}
		if got := Plain(b); !slices.Equal(got, plainly(b)) {
			t.Fatalf("Plain(%x) = %t", b, got)
		}
	}
}

func TestPlainOfPut(t *testing.T) { // P3.3
	for _, text := range texts() {
		b := Put(text)
		plain := 0
		for i, p := range Plain(b) {
			if p {
				plain++
			} else if b[i] != escape && (i == 0 || b[i-1] != escape) {
				t.Fatalf("Plain(%x) says no at %d", b, i)
			}
		}
		if plain != 2*len(text)-len(b) {
			t.Fatalf("Plain(%x) says yes %d times", b, plain)
		}
	}
}

func TestPutThenGot(t *testing.T) { // P3.4
	for _, b := range texts() {
		put := Put(b)
		if bytes.IndexByte(put, flag) >= 0 {
			t.Fatalf("Put(%x) has a flag: %x", b, put)
		}
		if len(put) > 2*len(b) || len(put) < len(b) {
			t.Fatalf("Put(%x) has %d bytes", b, len(put))
		}
		gets(t, put, b)
		gets(t, Put(put), put)
	}
}

func TestGotThenPut(t *testing.T) { // P3.4
	for _, b := range texts() {
		got, e := Get(b)
		if e != api.OK {
			continue
		}
		if put := Put(got); !bytes.Equal(put, b) {
			t.Fatalf("Put(Get(%x)) = %x", b, put)
		}
	}
}

func TestPutApart(t *testing.T) { // P3.4
	seen := map[string][]byte{}
	for _, b := range words(5, []byte{escape, flag, escTurned, flagTurned, 1}) {
		put := string(Put(b))
		if other, ok := seen[put]; ok {
			t.Fatalf("Put(%x) and Put(%x) are the same", b, other)
		}
		seen[put] = b
	}
}

func TestErrorBesideNothing(t *testing.T) { // P3.2, rule 2
	long := append(noise(100), 1, 2, 3)
	for _, tail := range [][]byte{{flag}, {escape}, {escape, 1}, {escape, escape}, {escape, flag}, {escape, flagTurned ^ 0xff, 1}} {
		if got, e := Get(append(Put(long), tail...)); got != nil || e != api.ErrEscape {
			t.Fatalf("behind it %x: %x, %d", tail, got, e)
		}
	}
}

func TestHandedInStays(t *testing.T) { // rule 3
	for _, b := range [][]byte{{}, {1, 2, 3}, {flag, escape}, {escape, flagTurned, 1, 2}, {escape, 1}, {1, flag}, {escape}, noise(100), Put(noise(100))} {
		handed, stays := spare(b)
		Put(handed)
		Get(handed)
		Size(handed)
		Plain(handed)
		if !stays() {
			t.Fatalf("%x was changed", b)
		}
	}
}

func TestAnsweredIsNew(t *testing.T) { // rule 3
	for _, b := range [][]byte{{1, 2, 3}, {flag, escape}, {escape, flagTurned, 1, 2}, noise(100), Put(noise(100))} {
		handed, stays := spare(b)
		put := Put(handed)
		overwrite(put)
		got, _ := Get(handed)
		overwrite(got)
		if !stays() {
			t.Fatalf("%x shares with what is answered", b)
		}
	}
}

func TestAnsweredEachTime(t *testing.T) { // rules 3 and 4
	b := Put(append(noise(100), flag, escape, 1))
	put, plain, size := Put(b), Plain(b), Size(b)
	got, e := Get(b)
	wasPut, wasGot, wasPlain := bytes.Clone(put), bytes.Clone(got), slices.Clone(plain)
	handed := bytes.Clone(b)
	Put(handed)
	Get(handed)
	Plain(handed)
	overwrite(handed)
	overwrite(Put(b))
	again, _ := Get(b)
	overwrite(again)
	for i, other := 0, Plain(b); i < len(other); i++ {
		other[i] = !other[i]
	}
	if e != api.OK || !bytes.Equal(put, wasPut) || !bytes.Equal(got, wasGot) || !slices.Equal(plain, wasPlain) {
		t.Fatal("an answer is another one behind later calls")
	}
	if !bytes.Equal(Put(b), wasPut) || !slices.Equal(Plain(b), wasPlain) || Size(b) != size {
		t.Fatal("the same call answers otherwise")
	}
	gets(t, b, wasGot)
}
