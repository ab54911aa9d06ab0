package edit_test

import (
	"bytes"
	"encoding/hex"
	"hash/crc32"
	"kedge/api"
	"kedge/crc"
	"kedge/deframe"
	"kedge/edit"
	"kedge/frame"
	"math"
	"slices"
	"testing"
)

// The numbers that the document names, written out, so that the tests hold whatever api says.
const (
	put     = 0
	ins     = 1
	del     = 2
	cut     = 3
	flag    = 0x7e
	escape  = 0x7d
	maxWire = 512
)

// one is short for an edit.
type one = api.Edit

// kinds are those that there are.
var kinds = []int{put, ins, del, cut}

// odd are the numbers next to those that mean something, and such as become these if they are cut short.
var odd = []int{math.MinInt, math.MinInt + 1, math.MinInt32, -1 << 32, -257, -256, -255, -4, -3, -2, -1, 0, 1, 2, 3, 4, 5, 6, 7, 8, 254, 255, 256, 257, 258, 259, maxWire - 1, maxWire, maxWire + 1, 1 << 16, math.MaxInt32, 1 << 31, 1 << 32, 1<<32 + 1, 1<<32 + 2, 1<<32 + 3, math.MaxInt - 1, math.MaxInt}

// named are the bytes that mean something, those that stand for them, their neighbours, and the ends.
var named = []byte{0, 1, 0x20, 0x5d, 0x5e, 0x7c, escape, flag, 0x7f, 0xff}

// edited is what P6.1 says of one edit, put together anew each time.
func edited(b []byte, e one) []byte {
	n := len(b)
	inside := e.At >= 0 && e.At < n
	behind := e.At == n
	switch {
	case e.Kind == put && inside:
		return slices.Concat(b[:e.At], []byte{e.B}, b[e.At+1:])
	case e.Kind == ins && (inside || behind) && n < maxWire:
		return slices.Concat(b[:e.At], []byte{e.B}, b[e.At:])
	case e.Kind == del && inside:
		return slices.Concat(b[:e.At], b[e.At+1:])
	case e.Kind == cut && (inside || behind):
		return slices.Clone(b[:e.At])
	}
	return b
}

// allEdited is what P6.1 says of edits one behind the other.
func allEdited(b []byte, l []one) []byte {
	for _, e := range l {
		b = edited(b, e)
	}
	return b
}

// makes fails the test if the edits don't make this of b.
func makes(t *testing.T, b, want []byte, l ...one) {
	t.Helper()
	if got := edit.Do(b, l...); !bytes.Equal(got, want) {
		t.Fatalf("Do(%x, %v) = %x, not %x", b, l, got, want)
	}
}

// asSaid fails the test if the edits don't make of b what the chapter says, all at once or one by one.
func asSaid(t *testing.T, b []byte, l ...one) {
	t.Helper()
	makes(t, b, allEdited(b, l), l...)
	step := b
	for _, e := range l {
		makes(t, step, edited(step, e), e)
		step = edit.Do(step, e)
	}
	makes(t, step, allEdited(b, l))
}

// numbers answers a function that tells numbers that look like noise, the same ones in each run.
func numbers(begin int) func() int {
	x := uint64(begin)
	return func() int {
		x = x*6364136223846793005 + 1442695040888963407
		return int(x >> 33)
	}
}

// crowd is n bytes that look like noise, of those in from.
func crowd(n int, from []byte) []byte {
	next := numbers(n)
	b := make([]byte, n)
	for i := range b {
		b[i] = from[next()%len(from)]
	}
	return b
}

// noise is n bytes that look like noise.
func noise(n int) []byte {
	all := make([]byte, 256)
	for i := range all {
		all[i] = byte(i)
	}
	return crowd(n, all)
}

// short are all texts of up to n bytes, of those in from.
func short(n int, from []byte) [][]byte {
	all := [][]byte{nil}
	last := all
	for range n {
		var more [][]byte
		for _, b := range last {
			for _, x := range from {
				more = append(more, append(bytes.Clone(b), x))
			}
		}
		all = append(all, more...)
		last = more
	}
	return all
}

// wrap is the frame of b.
func wrap(t *testing.T, b []byte) []byte {
	t.Helper()
	w, e := frame.Wrap(crc.New(), b)
	if e != api.OK {
		t.Fatal(e)
	}
	return w
}

// row is the frames of these bodies, one behind the other.
func row(t *testing.T, bodies ...[]byte) []byte {
	t.Helper()
	var w []byte
	for _, b := range bodies {
		w = append(w, wrap(t, b)...)
	}
	return w
}

// overwrite puts other bytes in all of b's memory, up to its capacity.
func overwrite(b []byte) {
	b = b[:cap(b)]
	for i := range b {
		b[i] ^= 0xff
	}
}

// unmade are the tables that crc.New did not make.
func unmade() []*crc.Table {
	return []*crc.Table{nil, new(crc.Table), {}}
}

func TestExample(t *testing.T) { // P6.1, P6.2
	makes(t, []byte{1, 2, 3}, []byte{1, 9, 2}, one{Kind: ins, At: 1, B: 9}, one{Kind: del, At: 3})
	w := []byte{flag, 1, 2, flag}
	if !edit.Mild(w, one{Kind: put, At: 1, B: 5}) {
		t.Fatal("at 1 it isn't mild")
	}
	if edit.Mild(w, one{Kind: put, At: 0, B: 5}) {
		t.Fatal("at 0 it is mild")
	}
}

func TestOneEditWrittenOut(t *testing.T) { // P6.1
	b := []byte{1, 2, 3}
	for _, k := range []struct {
		e    one
		want []byte
	}{
		{one{Kind: put, At: -1, B: 9}, b},
		{one{Kind: put, At: 0, B: 9}, []byte{9, 2, 3}},
		{one{Kind: put, At: 1, B: 9}, []byte{1, 9, 3}},
		{one{Kind: put, At: 2, B: 9}, []byte{1, 2, 9}},
		{one{Kind: put, At: 3, B: 9}, b},
		{one{Kind: put, At: 4, B: 9}, b},
		{one{Kind: put, At: 1, B: 2}, b},
		{one{Kind: ins, At: -1, B: 9}, b},
		{one{Kind: ins, At: 0, B: 9}, []byte{9, 1, 2, 3}},
		{one{Kind: ins, At: 1, B: 9}, []byte{1, 9, 2, 3}},
		{one{Kind: ins, At: 2, B: 9}, []byte{1, 2, 9, 3}},
		{one{Kind: ins, At: 3, B: 9}, []byte{1, 2, 3, 9}},
		{one{Kind: ins, At: 4, B: 9}, b},
		{one{Kind: del, At: -1, B: 9}, b},
		{one{Kind: del, At: 0, B: 9}, []byte{2, 3}},
		{one{Kind: del, At: 1, B: 9}, []byte{1, 3}},
		{one{Kind: del, At: 2, B: 9}, []byte{1, 2}},
		{one{Kind: del, At: 3, B: 9}, b},
		{one{Kind: del, At: 4, B: 9}, b},
		{one{Kind: cut, At: -1, B: 9}, b},
		{one{Kind: cut, At: 0, B: 9}, nil},
		{one{Kind: cut, At: 1, B: 9}, []byte{1}},
		{one{Kind: cut, At: 2, B: 9}, []byte{1, 2}},
		{one{Kind: cut, At: 3, B: 9}, b},
		{one{Kind: cut, At: 4, B: 9}, b},
		{one{Kind: -1, At: 1, B: 9}, b},
		{one{Kind: 4, At: 1, B: 9}, b},
	} {
		makes(t, b, k.want, k.e)
	}
}

func TestNoBytes(t *testing.T) { // P6.1
	for _, b := range [][]byte{nil, {}} {
		makes(t, b, nil)
		makes(t, b, nil, one{Kind: put, B: 9})
		makes(t, b, []byte{9}, one{Kind: ins, B: 9})
		makes(t, b, nil, one{Kind: ins, At: 1, B: 9})
		makes(t, b, nil, one{Kind: ins, At: -1, B: 9})
		makes(t, b, nil, one{Kind: del})
		makes(t, b, nil, one{Kind: cut})
		makes(t, b, nil, one{Kind: cut, At: 1})
		makes(t, b, nil, one{Kind: cut, At: -1})
		makes(t, b, nil, one{Kind: put}, one{Kind: del}, one{Kind: cut}, one{Kind: 7})
		makes(t, b, []byte{8, 7}, one{Kind: ins, B: 7}, one{Kind: ins, B: 8}, one{Kind: put, At: 2, B: 1})
	}
}

func TestNoEdits(t *testing.T) { // P6.1
	for n := range 20 {
		makes(t, noise(n), noise(n))
		makes(t, noise(n), noise(n), []one{}...)
		makes(t, noise(100*n), noise(100*n), nil...)
	}
}

func TestEveryKindAtEveryPlace(t *testing.T) { // P6.1
	for n := range 9 {
		b := noise(n)
		for _, kind := range append(odd, kinds...) {
			for at := -3; at < n+4; at++ {
				for _, x := range named {
					asSaid(t, b, one{Kind: kind, At: at, B: x})
				}
			}
		}
	}
}

func TestOddKinds(t *testing.T) { // P6.1
	b := []byte{1, 2, 3, 4}
	for _, kind := range odd {
		if kind < put || kind > cut {
			for at := range len(b) + 1 {
				makes(t, b, b, one{Kind: kind, At: at, B: 9})
			}
		}
	}
}

func TestOddPlaces(t *testing.T) { // P6.1
	for _, n := range []int{0, 1, 2, 5, 255, 256, 257, 300, maxWire - 1, maxWire, maxWire + 1, 700} {
		b := noise(n)
		for _, at := range odd {
			for _, kind := range kinds {
				asSaid(t, b, one{Kind: kind, At: at, B: 9})
				if at < 0 || at > n {
					makes(t, b, b, one{Kind: kind, At: at, B: 9})
				}
			}
		}
	}
}

func TestEveryByte(t *testing.T) { // P6.1
	for i := range 256 {
		x := byte(i)
		makes(t, []byte{1, 2, 3}, []byte{1, x, 3}, one{Kind: put, At: 1, B: x})
		makes(t, []byte{1, 2, 3}, []byte{1, x, 2, 3}, one{Kind: ins, At: 1, B: x})
		makes(t, []byte{1, x, 3}, []byte{1, 3}, one{Kind: del, At: 1, B: x})
		makes(t, []byte{1, x, 3}, []byte{1, x}, one{Kind: cut, At: 2, B: x})
		makes(t, []byte{x, x, x}, []byte{x, 0, x}, one{Kind: put, At: 1})
	}
}

func TestInsNearMaxWire(t *testing.T) { // P6.1
	for _, n := range []int{maxWire - 2, maxWire - 1, maxWire, maxWire + 1, 2 * maxWire, 5000} {
		b := noise(n)
		for _, at := range []int{-1, 0, 1, n / 2, n - 1, n, n + 1} {
			e := one{Kind: ins, At: at, B: ^b[n/2]}
			asSaid(t, b, e)
			asSaid(t, b, e, e, e)
			if n >= maxWire {
				makes(t, b, b, e)
				makes(t, b, b, e, e)
			}
		}
	}
	full := noise(maxWire)
	makes(t, full[1:], full, one{Kind: ins, B: full[0]})
	makes(t, full[:maxWire-1], full, one{Kind: ins, At: maxWire - 1, B: full[maxWire-1]})
	makes(t, full[1:], full, one{Kind: ins, B: full[0]}, one{Kind: ins, B: 1}, one{Kind: ins, At: maxWire, B: 1})
}

func TestOthersBeyondMaxWire(t *testing.T) { // P6.1
	for _, n := range []int{maxWire - 1, maxWire, maxWire + 1, 600, 3000} {
		b := noise(n)
		for _, at := range []int{0, 1, maxWire - 2, maxWire - 1, maxWire, maxWire + 1, n - 1, n, n + 1} {
			for _, kind := range []int{put, del, cut} {
				asSaid(t, b, one{Kind: kind, At: at, B: 9})
			}
		}
	}
	b := noise(600)
	makes(t, b, b[:599], one{Kind: cut, At: 599})
	makes(t, b, b[1:], one{Kind: del})
	makes(t, b, append(bytes.Clone(b[:599]), 9), one{Kind: put, At: 599, B: 9})
}

func TestManyIns(t *testing.T) { // P6.1
	var l []one
	for i := range 600 {
		l = append(l, one{Kind: ins, At: i, B: byte(i % 251)})
	}
	want := make([]byte, maxWire)
	for i := range want {
		want[i] = byte(i % 251)
	}
	makes(t, nil, want, l...)
	ahead := make([]one, 600)
	for i := range ahead {
		ahead[i] = one{Kind: ins, B: byte(i % 251)}
	}
	slices.Reverse(want)
	makes(t, nil, want, ahead...)
}

// How many bytes there are is asked at each edit anew.
func TestInsWhereBytesAreGone(t *testing.T) { // P6.1
	in := one{Kind: ins, At: 1, B: 9}
	b := noise(maxWire + 2)
	out := one{Kind: del}
	makes(t, b, b, in)
	makes(t, b, b[1:], out, in)
	makes(t, b, b[2:], out, out, in)
	makes(t, b, slices.Concat(b[3:4], []byte{9}, b[4:]), out, out, out, in)
	makes(t, b, slices.Concat(b[3:4], []byte{9}, b[4:]), out, out, in, out, in, in)
	makes(t, b, slices.Concat(b[:1], []byte{9}, b[1:maxWire-1]), one{Kind: cut, At: maxWire - 1}, in, in)
	makes(t, b, b[:maxWire], one{Kind: cut, At: maxWire}, in)
	makes(t, b, []byte{b[0], 9, 9}, one{Kind: cut, At: 1}, in, in)
}

func TestSeveralWrittenOut(t *testing.T) { // P6.1
	b := []byte{1, 2, 3, 4}
	for _, k := range []struct {
		l    []one
		want []byte
	}{
		{[]one{{Kind: del, At: 1}, {Kind: put, At: 1, B: 9}}, []byte{1, 9, 4}}, // a place is one of those that are there by then
		{[]one{{Kind: ins, At: 1, B: 8}, {Kind: put, At: 1, B: 9}}, []byte{1, 9, 2, 3, 4}},
		{[]one{{Kind: put, At: 1, B: 9}, {Kind: del, At: 1}}, []byte{1, 3, 4}},
		{[]one{{Kind: put, At: 1, B: 8}, {Kind: put, At: 1, B: 9}}, []byte{1, 9, 3, 4}},
		{[]one{{Kind: cut, At: 2}, {Kind: put, At: 2, B: 9}}, []byte{1, 2}},
		{[]one{{Kind: cut, At: 2}, {Kind: ins, At: 2, B: 9}}, []byte{1, 2, 9}},
		{[]one{{Kind: cut, At: 2}, {Kind: ins, At: 3, B: 9}}, []byte{1, 2}},
		{[]one{{Kind: cut, At: 2}, {Kind: cut, At: 3}}, []byte{1, 2}}, // what is gone stays gone
		{[]one{{Kind: cut, At: 3}, {Kind: cut, At: 1}}, []byte{1}},
		{[]one{{Kind: cut, At: 0}, {Kind: ins, At: 0, B: 9}, {Kind: ins, At: 0, B: 8}}, []byte{8, 9}},
		{[]one{{Kind: ins, At: 4, B: 5}, {Kind: ins, At: 5, B: 6}, {Kind: put, At: 5, B: 7}}, []byte{1, 2, 3, 4, 5, 7}},
		{[]one{{Kind: del}, {Kind: del}, {Kind: del}, {Kind: del}, {Kind: del}}, nil},
		{[]one{{Kind: del, At: 3}, {Kind: del, At: 3}}, []byte{1, 2, 3}},
		{[]one{{Kind: del, At: 3}, {Kind: ins, At: 3, B: 9}}, []byte{1, 2, 3, 9}},
		{[]one{{Kind: del, At: 0}, {Kind: ins, At: 3, B: 9}, {Kind: cut, At: 4}}, []byte{2, 3, 4, 9}},
		{[]one{{Kind: put, At: 4, B: 9}, {Kind: put, At: -1, B: 9}, {Kind: 4}, {Kind: put, At: 3, B: 9}}, []byte{1, 2, 3, 9}}, // what does nothing ends nothing
		{[]one{{Kind: cut, At: 5}, {Kind: ins, At: 5, B: 9}, {Kind: del, At: 4}, {Kind: -1}, {Kind: del, At: 0}}, []byte{2, 3, 4}},
	} {
		makes(t, b, k.want, k.l...)
		asSaid(t, b, k.l...)
	}
}

func TestAllShortRowsOfEdits(t *testing.T) { // P6.1
	var all []one
	for kind := -1; kind < 5; kind++ {
		for at := -1; at < 4; at++ {
			all = append(all, one{Kind: kind, At: at, B: byte(10 + at)})
		}
	}
	for n := range 3 {
		b := noise(n)
		for _, x := range all {
			for _, y := range all {
				for _, z := range all {
					l := []one{x, y, z}
					makes(t, b, allEdited(b, l), l...)
				}
			}
		}
	}
}

func TestManyEdits(t *testing.T) { // P6.1
	for begin := range 300 {
		next := numbers(begin)
		b := noise(next() % 700)
		l := make([]one, next()%200)
		n := len(b)
		for i := range l {
			l[i] = one{Kind: next()%6 - 1, At: next()%(n+4) - 2, B: byte(next())}
			if l[i].Kind == cut && next()%8 > 0 { // else there is soon nothing left
				l[i].At = n - next()%5
			}
			n = len(allEdited(b, l[:i+1]))
		}
		asSaid(t, b, l...)
	}
}

func TestManyEditsOfMuch(t *testing.T) { // P6.1
	b := noise(100000)
	var l []one
	for i := range 1000 {
		l = append(l, one{Kind: put, At: 100 * i, B: byte(i)}, one{Kind: ins, At: i, B: 1}, one{Kind: del, At: 50 * i}, one{Kind: 4})
	}
	makes(t, b, allEdited(b, l), l...)
}

// within tells whether all places lie within so many side by side.
func within(l []one, wide int) bool {
	for _, x := range l {
		for _, y := range l {
			if x.At-y.At >= wide {
				return false
			}
		}
	}
	return true
}

// plainly are the places of w that hold what is neither a flag nor part of an escape: what stands behind an Escape is gone over with it.
func plainly(w []byte) map[int]bool {
	plain := map[int]bool{}
	for i := 0; i < len(w); i++ {
		switch w[i] {
		case escape:
			i++
		case flag:
		default:
			plain[i] = true
		}
	}
	return plain
}

// gentle is what P6.2 says.
func gentle(w []byte, l []one) bool {
	plain := plainly(w)
	for _, e := range l {
		if e.Kind != put || !plain[e.At] || e.B == flag || e.B == escape {
			return false
		}
	}
	return within(l, 4)
}

// isMild fails the test if Mild doesn't answer so.
func isMild(t *testing.T, want bool, w []byte, l ...one) {
	t.Helper()
	if got := edit.Mild(w, l...); got != want {
		t.Fatalf("Mild(%x, %v) = %v", w, l, got)
	}
}

func TestMildOfNoEdits(t *testing.T) { // P6.2
	for _, w := range [][]byte{nil, {}, {flag}, {escape}, {0}, {flag, flag}, {flag, 1, 2, flag}, noise(1000)} {
		isMild(t, true, w)
		isMild(t, true, w, []one{}...)
	}
}

func TestMildOfOtherKinds(t *testing.T) { // P6.2
	w := []byte{flag, 1, 2, 3, 4, 5, flag}
	fine := one{Kind: put, At: 2, B: 9}
	for _, kind := range odd {
		for _, at := range append(odd, 2, 3) {
			e := one{Kind: kind, At: at, B: 9}
			isMild(t, gentle(w, []one{e}), w, e)
			if kind != put {
				isMild(t, false, w, e)
				isMild(t, false, w, e, fine)
				isMild(t, false, w, fine, e)
				isMild(t, false, w, fine, e, fine)
				isMild(t, false, nil, e)
			}
		}
	}
}

func TestMildPlaces(t *testing.T) { // P6.2
	w := []byte{7, flag, 1, escape, 0x5e, 2, escape, 0x5d, escape, escape, 3, escape, flag, 4, 0x5d, 0x5e, escape}
	plain := []int{0, 2, 5, 10, 13, 14, 15}
	for at := -5; at < len(w)+5; at++ {
		for i := range 256 {
			x := byte(i)
			isMild(t, slices.Contains(plain, at) && x != flag && x != escape, w, one{Kind: put, At: at, B: x})
		}
	}
	for _, at := range odd {
		isMild(t, slices.Contains(plain, at), w, one{Kind: put, At: at, B: 9})
		isMild(t, false, nil, one{Kind: put, At: at, B: 9})
		isMild(t, false, []byte{flag, flag}, one{Kind: put, At: at, B: 9})
	}
}

func TestMildOfOneNotMild(t *testing.T) { // P6.2
	w := []byte{flag, 1, 2, escape, 0x5d, 3, flag}
	fine := []one{{Kind: put, At: 1, B: 9}, {Kind: put, At: 2, B: 8}}
	isMild(t, true, w, fine...)
	for _, e := range []one{
		{Kind: put, At: 0, B: 9}, {Kind: put, At: 3, B: 9}, {Kind: put, At: 4, B: 9}, {Kind: put, At: 6, B: 9}, {Kind: put, At: 7, B: 9}, {Kind: put, At: -1, B: 9},
		{Kind: put, At: 1, B: flag}, {Kind: put, At: 1, B: escape}, {Kind: put, At: 5, B: 9}, {Kind: cut, At: 7}, {Kind: del, At: 1}, {Kind: ins, At: 1}, {Kind: -1, At: 1}, {Kind: 4, At: 1},
	} {
		isMild(t, false, w, append(fine[:2:2], e)...)
		isMild(t, false, w, append([]one{e}, fine...)...)
		isMild(t, false, w, fine[0], e, fine[1])
	}
}

func TestMildWithinFour(t *testing.T) { // P6.2
	w := wrap(t, []byte("abcdefghijklmnopqrst"))
	at := func(places ...int) []one {
		var l []one
		for _, place := range places {
			l = append(l, one{Kind: put, At: place, B: 9})
		}
		return l
	}
	for i := range 12 {
		base := i + 1
		for _, l := range [][]int{{0}, {0, 0}, {0, 1}, {0, 2}, {0, 3}, {3, 0}, {0, 1, 2, 3}, {3, 2, 1, 0}, {1, 3, 0, 2}, {2, 0, 3, 1}, {0, 3, 0, 3}, {3, 3, 3, 0}} {
			isMild(t, true, w, at(moved(l, base)...)...)
		}
		for _, l := range [][]int{{0, 4}, {4, 0}, {0, 1, 2, 3, 4}, {4, 3, 2, 1, 0}, {2, 0, 4}, {2, 4, 0}, {1, 4, 2, 0}, {3, 0, 1, 4}, {0, 2, 4}, {0, 3, 6}, {3, 0, 6}, {3, 6, 0}, {0, 4, 0}, {0, 0, 0, 4, 4}, {0, 5}, {0, 8}} {
			isMild(t, false, w, at(moved(l, base)...)...)
		}
	}
}

// moved are these places, so many further.
func moved(places []int, by int) []int {
	var l []int
	for _, place := range places {
		l = append(l, place+by)
	}
	return l
}

func TestMildOfPairsAndTriples(t *testing.T) { // P6.2
	for _, w := range [][]byte{
		{flag, 1, 2, 3, 4, 5, 6, 7, flag},
		{flag, 1, escape, 0x5e, 4, 5, escape, 0x5d, 8, flag},
		{1, 2, 3, 4, 5, 6},
		{flag, flag, escape, escape, escape, flag, 1, 2, escape},
		nil,
	} {
		for i := -1; i < len(w)+1; i++ {
			for j := -1; j < len(w)+1; j++ {
				for k := -1; k < len(w)+1; k++ {
					l := []one{{Kind: put, At: i, B: 8}, {Kind: put, At: j, B: 8}, {Kind: put, At: k, B: 9}}
					isMild(t, gentle(w, l), w, l...)
					isMild(t, gentle(w, l[:2]), w, l[:2]...)
				}
			}
		}
	}
}

func TestMildOfWhatChangesNothing(t *testing.T) { // P6.2
	w := []byte{flag, 1, escape, 0x5e, 2, 3, 4, 5, flag}
	for i, x := range w {
		isMild(t, i == 1 || i > 3 && i < 8, w, one{Kind: put, At: i, B: x})
	}
	isMild(t, false, w, one{Kind: put, At: 1, B: 1}, one{Kind: put, At: 5, B: 3})
}

func TestMildOfMuch(t *testing.T) { // P6.2
	for _, n := range []int{maxWire - 1, maxWire, maxWire + 1, 100000} {
		w := make([]byte, n)
		for _, at := range []int{0, n / 2, n - 1, n, n + 1} {
			isMild(t, at < n, w, one{Kind: put, At: at, B: 9})
		}
		isMild(t, false, w, one{Kind: put, B: 9}, one{Kind: put, At: n - 1, B: 9})
		isMild(t, false, append([]byte{escape}, w...), one{Kind: put, At: 1, B: 9})
		isMild(t, true, w, slices.Repeat([]one{{Kind: put, At: 5, B: 1}, {Kind: put, At: 8, B: 2}}, n)...)
	}
}

// forges fails the test if Forged doesn't answer so.
func forges(t *testing.T, want bool, first, w []byte) {
	t.Helper()
	if got := edit.Forged(crc.New(), first, w); got != want {
		t.Fatalf("Forged(%x, %x) = %v", first, w, got)
	}
}

func TestForgedWrittenOut(t *testing.T) { // P6.3
	empty := []byte{flag, 0, 0, 0, 0, flag}
	ab := []byte{flag, 'a', 'b', 0x6d, 0x48, 0x83, 0x9e, flag}
	forges(t, false, nil, nil)
	forges(t, false, empty, nil)
	forges(t, true, nil, empty) // one of no bytes is found, too
	forges(t, false, empty, empty)
	forges(t, true, empty, ab)
	forges(t, true, ab, empty)
	forges(t, false, ab, ab)
	forges(t, true, []byte{1, 2, 3}, ab)
	forges(t, false, ab, []byte{1, 2, 3})
	forges(t, false, ab, ab[:7])
	forges(t, false, ab, ab[1:])
	forges(t, true, ab[1:], ab)
	forges(t, true, ab[:7], ab)
	forges(t, false, ab, append([]byte{9}, ab...)) // other bytes, but the same is found
	forges(t, false, append([]byte{9}, ab...), append(bytes.Clone(ab), 9))
	forges(t, true, ab, append(bytes.Clone(ab), ab...)) // more of the same
	forges(t, true, append(bytes.Clone(ab), ab...), ab) // less
	forges(t, false, append(bytes.Clone(ab), ab[1:]...), append(bytes.Clone(ab), ab...))
	forges(t, true, append(bytes.Clone(ab), empty...), append(bytes.Clone(empty), ab...)) // in another order
}

func TestForgedOfRows(t *testing.T) { // P6.3
	a, b, c := []byte("a"), []byte("b"), []byte{flag, escape}
	lists := [][][]byte{
		nil, {nil}, {a}, {b}, {c}, {nil, nil}, {a, a}, {a, b}, {b, a}, {a, nil}, {nil, a}, {a, b, c}, {a, c, b}, {c, b, a}, {b, c, a}, {b, a, c}, {c, a, b}, {a, b, c, a}, {a, a, a}, {[]byte("ab")}, {[]byte("ba")}, {[]byte("a\x00")}, {[]byte("\x00a")}, {make([]byte, 1)}, {make([]byte, 2)}, {make([]byte, 96)}, {make([]byte, 95)},
	}
	for i, first := range lists {
		for j, w := range lists {
			want := i != j && len(w) > 0
			forges(t, want, row(t, first...), row(t, w...))
			forges(t, want, spoiled(t, first), row(t, w...))
			forges(t, want, row(t, first...), spoiled(t, w))
			forges(t, want, spoiled(t, first), spoiled(t, w))
		}
	}
}

// spoiled is a row of frames with what isn't found ahead of each, and behind the last one.
func spoiled(t *testing.T, bodies [][]byte) []byte {
	t.Helper()
	w := []byte{1, 2, escape}
	for i, b := range bodies {
		w = append(append(w, flag, byte(i), escape), wrap(t, b)...)
	}
	return append(w, flag, 1, 2, flag, 0, 0, 0, 0)
}

func TestForgedOfOneByteElse(t *testing.T) { // P6.3
	for _, b := range [][]byte{{1}, []byte("abcdef"), noise(96), crowd(50, named)} {
		w := wrap(t, b)
		for i := range b {
			other := bytes.Clone(b)
			other[i] ^= 1
			forges(t, true, w, wrap(t, other))
			forges(t, true, wrap(t, other), w)
			forges(t, true, w, wrap(t, b[:i]))
			forges(t, false, w, w[:i])
			forges(t, false, w, w[i+1:])
		}
		forges(t, false, w, bytes.Clone(w))
		forges(t, true, w, row(t, b, b))
		forges(t, false, w, slices.Concat(w, w[1:5]))
	}
}

// A frame that is too long is none.
func TestForgedOfTooLong(t *testing.T) { // P6.3
	b := make([]byte, 97)
	long := slices.Concat([]byte{flag}, crc.New().Put(b), []byte{flag})
	forges(t, false, nil, long)
	forges(t, false, wrap(t, b[1:]), long)
	forges(t, true, long, wrap(t, b[1:]))
}

func TestForgedWithoutTable(t *testing.T) { // P6.3
	a, b := wrap(t, []byte("a")), wrap(t, []byte("b"))
	for _, c := range unmade() {
		for _, first := range [][]byte{nil, a, b, {1, 2}} {
			for _, w := range [][]byte{nil, a, b, {flag, 0, 0, 0, 0, flag}, row(t, nil, nil), noise(1000)} {
				if edit.Forged(c, first, w) {
					t.Fatalf("Forged of no table: %x, %x", first, w)
				}
			}
		}
	}
}

func TestForgedByTheTableHandedIn(t *testing.T) { // P6.3
	c, a := crc.New(), wrap(t, []byte("a"))
	var none crc.Table
	copied := *c
	for range 3 {
		if edit.Forged(&none, nil, a) || !edit.Forged(&copied, nil, a) || !edit.Forged(c, nil, a) {
			t.Fatal("it isn't told by the table that is handed in")
		}
	}
	if *c != *crc.New() {
		t.Fatal("the table was changed")
	}
}

// differ are the fewest edits, rising, that make b of a, of as many bytes.
func differ(a, b []byte) []one {
	var l []one
	for i := range a {
		if a[i] != b[i] {
			l = append(l, one{Kind: put, At: i, B: b[i]})
		}
	}
	return l
}

// written are the edits that write b anew.
func written(b []byte) []one {
	l := []one{{Kind: cut}}
	for i := range b {
		l = append(l, one{Kind: ins, At: i, B: b[i]})
	}
	return l
}

// liesBetween fails the test if these aren't the edits between a and b, or don't make b of a.
func liesBetween(t *testing.T, a, b []byte, want []one) {
	t.Helper()
	got := edit.Between(a, b)
	if !slices.Equal(got, want) {
		t.Fatalf("Between(%x, %x) = %v, not %v", a, b, got, want)
	}
	if len(a) == len(b) || len(b) <= maxWire {
		makes(t, a, b, got...)
	}
}

func TestBetweenWrittenOut(t *testing.T) { // P6.4, P6.6
	liesBetween(t, nil, nil, nil)
	liesBetween(t, nil, []byte{}, nil)
	liesBetween(t, []byte{}, nil, nil)
	liesBetween(t, []byte{1}, nil, []one{{Kind: cut}})
	liesBetween(t, nil, []byte{1}, []one{{Kind: cut}, {Kind: ins, B: 1}})
	liesBetween(t, []byte{1, 2, 3}, []byte{1, 2, 3}, nil)
	liesBetween(t, []byte{1, 2, 3}, []byte{4, 2, 3}, []one{{Kind: put, B: 4}})
	liesBetween(t, []byte{1, 2, 3}, []byte{1, 2, 4}, []one{{Kind: put, At: 2, B: 4}})
	liesBetween(t, []byte{1, 2, 3}, []byte{3, 2, 1}, []one{{Kind: put, At: 0, B: 3}, {Kind: put, At: 2, B: 1}})
	liesBetween(t, []byte{1, 2, 3}, []byte{2, 3, 1}, []one{{Kind: put, At: 0, B: 2}, {Kind: put, At: 1, B: 3}, {Kind: put, At: 2, B: 1}})
	liesBetween(t, []byte{1, 2, 3}, []byte{1, 2}, []one{{Kind: cut}, {Kind: ins, At: 0, B: 1}, {Kind: ins, At: 1, B: 2}}) // also where one cut would do
	liesBetween(t, []byte{1, 2}, []byte{1, 2, 3}, []one{{Kind: cut}, {Kind: ins, At: 0, B: 1}, {Kind: ins, At: 1, B: 2}, {Kind: ins, At: 2, B: 3}})
	liesBetween(t, []byte{flag, escape}, []byte{escape, flag}, []one{{Kind: put, At: 0, B: escape}, {Kind: put, At: 1, B: flag}})
}

func TestBetweenShortTexts(t *testing.T) { // P6.4, P6.6
	all := short(4, []byte{0, 1, flag})
	for _, a := range all {
		for _, b := range all {
			if len(a) == len(b) {
				liesBetween(t, a, b, differ(a, b))
			} else {
				liesBetween(t, a, b, written(b))
			}
		}
	}
}

func TestBetweenLongTexts(t *testing.T) { // P6.4, P6.6
	for _, n := range []int{5, 31, 64, 255, 256, 257, maxWire - 1, maxWire, maxWire + 1, 3000} {
		a, b, c := noise(n), crowd(n, named), bytes.Clone(noise(n))
		c[n-1]++
		for _, x := range [][]byte{a, b, c, make([]byte, n)} {
			for _, y := range [][]byte{a, b, c, make([]byte, n)} {
				liesBetween(t, x, y, differ(x, y))
			}
			liesBetween(t, x, a[1:], written(a[1:]))
			liesBetween(t, a[1:], x, written(x))
			liesBetween(t, x, noise(n+1), written(noise(n+1)))
			liesBetween(t, nil, x, written(x))
			liesBetween(t, x, nil, written(nil))
		}
	}
}

// Beyond MaxWire an EdIns does nothing, so of what is written anew there is no more than that.
func TestBetweenBeyondMaxWire(t *testing.T) { // P6.1, P6.4
	for _, n := range []int{maxWire + 1, 2000} {
		b := noise(n)
		for _, a := range [][]byte{nil, {1}, b[1:], noise(n + 1)} {
			makes(t, a, b[:maxWire], edit.Between(a, b)...)
		}
	}
}

func TestBetweenFrames(t *testing.T) { // P6.6
	all := [][]byte{nil, {1}}
	for _, n := range []int{0, 1, 2, 5, 64, 96} {
		all = append(all, wrap(t, noise(n)), wrap(t, crowd(n, named)), wrap(t, make([]byte, n)), wrap(t, bytes.Repeat([]byte{flag}, n)))
	}
	for _, a := range all {
		for _, b := range all {
			makes(t, a, b, edit.Between(a, b)...)
			makes(t, b, a, edit.Between(b, a)...)
		}
	}
}

// frames are those of many bodies, with escapes next to one another among them, in the body and in the sum.
func frames(t *testing.T) [][]byte {
	t.Helper()
	var all [][]byte
	bodies := [][]byte{nil, {0}, {flag}, {escape}, {escape, flag, 1, 2, escape, escape, 3}, []byte("abc"), {1, escape, 2, flag, 3, escape, 4, 5, flag, flag, 6, escape, escape, escape, 7}, make([]byte, 9), crowd(12, named)}
	for _, b := range bodies {
		all = append(all, wrap(t, b))
	}
	return append(all, wrap(t, sumEscaped(t)))
}

// sumEscaped is a body in whose sum all bytes but one are Escape or Flag.
func sumEscaped(t *testing.T) []byte {
	t.Helper()
	for i := range 1 << 24 {
		b := []byte{byte(i), byte(i >> 8), byte(i >> 16)}
		n := 0
		sum := crc32.ChecksumIEEE(b)
		for range 4 {
			if x := byte(sum); x == flag || x == escape {
				n++
			}
			sum >>= 8
		}
		if n == 3 {
			return b
		}
	}
	t.Fatal("there is none")
	return nil
}

// notForged fails the test if edits that are mild make another frame of w.
func notForged(t *testing.T, c *crc.Table, w []byte, l ...one) {
	t.Helper()
	if !edit.Mild(w, l...) {
		return
	}
	spoilt := edit.Do(w, l...)
	found, sent := deframe.All(c, spoilt), deframe.All(c, w)
	if len(found) > 0 && !slices.EqualFunc(found, sent, bytes.Equal) || edit.Forged(c, w, spoilt) {
		t.Fatalf("%x, mildly %v, is forged: %x", w, l, found)
	}
	if !bytes.Equal(spoilt, w) && len(found) > 0 {
		t.Fatalf("%x, mildly %v, is found: %x", w, l, found)
	}
}

func TestSpoiltByOneByte(t *testing.T) { // P6.5
	c := crc.New()
	all := append(frames(t), wrap(t, noise(96)), wrap(t, crowd(96, named)), wrap(t, crowd(60, []byte{0, escape, flag})))
	for _, w := range all {
		for at := -1; at < len(w)+1; at++ {
			for i := range 256 {
				for kind := -1; kind < 5; kind++ {
					notForged(t, c, w, one{Kind: kind, At: at, B: byte(i)})
				}
			}
		}
	}
}

func TestSpoiltByTwoBytes(t *testing.T) { // P6.5
	c := crc.New()
	for _, w := range frames(t) {
		for i := range w {
			for j := range w {
				for _, x := range named {
					for _, y := range named {
						notForged(t, c, w, one{At: i, B: x}, one{At: j, B: y})
					}
				}
			}
		}
	}
}

func TestSpoiltByManyBytes(t *testing.T) { // P6.5
	c := crc.New()
	next := numbers(5)
	mild, all := 0, append(frames(t), wrap(t, noise(64)), wrap(t, crowd(64, named)))
	for _, w := range all {
		for at := range w {
			for range 300 {
				l := make([]one, 2+next()%4)
				for i := range l {
					l[i] = one{At: at + next()%4, B: byte(next())}
				}
				notForged(t, c, w, l...)
				if edit.Mild(w, l...) {
					mild++
				}
			}
		}
	}
	if mild < 5000 {
		t.Fatalf("no more than %d of them were mild", mild)
	}
}

// Each run of four plain bytes, with any bytes put over them at once.
func TestSpoiltByFourBytes(t *testing.T) { // P6.5
	c := crc.New()
	next := numbers(4)
	w := wrap(t, []byte("abcdefghijkl"))
	plain := plainly(w)
	for at := 1; plain[at] && plain[at+1] && plain[at+2] && plain[at+3]; at++ {
		for range 5000 {
			l := make([]one, 4)
			for i := range l {
				l[i] = one{At: at + i, B: byte(next()) | 0x80} // so that it is neither of the two
			}
			isMild(t, true, w, l...)
			notForged(t, c, w, l...)
			if spoilt := edit.Do(w, l...); len(deframe.All(c, spoilt)) > 0 && !bytes.Equal(spoilt, w) {
				t.Fatalf("%x is found", spoilt)
			}
		}
	}
}

// Within five places side by side a sum may be fooled: so that is not mild.
func TestFiveBytesForge(t *testing.T) { // P6.2, P6.3
	w := wrap(t, []byte("abcdefgh"))
	fooled := []byte{0x41, 0x06, 0x71, 0xdb, 0x01} // what the sums are made by, the lowest bit first
	for at := 1; at < 8; at++ {
		var l []one
		for i, x := range fooled {
			l = append(l, one{At: at + i, B: w[at+i] ^ x})
		}
		if x := edit.Do(w, l...); slices.Contains(x[1:len(x)-1], flag) || slices.Contains(x, escape) {
			t.Fatalf("%x has what isn't plain", x)
		}
		isMild(t, false, w, l...)
		forges(t, true, w, edit.Do(w, l...))
		slices.Reverse(l)
		isMild(t, false, w, l...)
		forges(t, true, w, edit.Do(w, l...))
		isMild(t, true, w, l[1:]...)
		forges(t, false, w, edit.Do(w, l[1:]...))
		isMild(t, true, w, l[:4]...)
		forges(t, false, w, edit.Do(w, l[:4]...))
	}
}

// A frame that is carried within a frame comes out when a byte becomes a Flag: so that is not mild.
func TestFlagForges(t *testing.T) { // P6.2, P6.3
	inner := crc.New().Put([]byte("xyz"))
	w := wrap(t, slices.Concat([]byte{1, 2}, inner, []byte{3, 4}))
	begin, end := one{At: 2, B: flag}, one{At: 3 + len(inner), B: flag}
	forges(t, true, w, edit.Do(w, begin, end))
	isMild(t, false, w, begin, end)
	head := wrap(t, slices.Concat(inner, []byte{1})) // here one edit is enough
	end = one{At: 1 + len(inner), B: flag}
	forges(t, true, head, edit.Do(head, end))
	isMild(t, false, head, end)
}

func TestHandedInStays(t *testing.T) { // rule 3
	c := crc.New()
	w := wrap(t, []byte("abcdefgh"))
	for n := range len(w) + 1 {
		for _, kind := range []int{-1, put, ins, del, cut, 4} {
			for at := -1; at < n+2; at++ {
				room := append(bytes.Clone(w), 0x5a, 0x5a, 0x5a, 0x5a)
				was := bytes.Clone(room)
				l := []one{{Kind: kind, At: at, B: 0xa5}, {Kind: ins, At: at, B: 0xa5}, {Kind: kind, At: at, B: 0xa5}, {Kind: 99}}
				wasEdits := slices.Clone(l)
				edit.Do(room[:n], l[:3]...)
				edit.Do(room[:n], l[:1]...)
				edit.Mild(room[:n], l[:3]...)
				edit.Mild(room[:n], one{At: at, B: 1}, one{At: at, B: 1})
				edit.Forged(c, room[:n], w)
				edit.Forged(c, w, room[:n])
				edit.Between(room[:n], w)
				edit.Between(w, room[:n])
				if !bytes.Equal(room, was) {
					t.Fatalf("%x became %x: %d, %d", was, room, kind, at)
				}
				if !slices.Equal(l, wasEdits) {
					t.Fatalf("the edits %v became %v", wasEdits, l)
				}
			}
		}
	}
}

func TestEditsHandedInStay(t *testing.T) { // rule 3
	w := wrap(t, []byte("abcdefgh"))
	for _, l := range [][]one{
		{{At: 4, B: 1}, {At: 1, B: 2}, {At: 3, B: 3}, {At: 1, B: 2}},
		{{At: 9, B: 1}, {At: 1, B: 2}, {At: 0, B: flag}, {Kind: del, At: 3, B: 7}},
		{{Kind: 9, At: 3}, {Kind: cut, At: 7, B: 4}, {Kind: ins, At: 6, B: 5}, {Kind: del, At: 2, B: 6}, {Kind: put, At: -4}},
	} {
		was := slices.Clone(l)
		for n := range len(l) + 1 { // what stands behind those that are handed in stays, too
			edit.Do(w, l[:n]...)
			edit.Mild(w, l[:n]...)
			if !slices.Equal(l, was) {
				t.Fatalf("the edits %v became %v", was, l)
			}
		}
	}
}

// rows of edits, such as do nothing among them.
func rows(n int) [][]one {
	all := [][]one{nil, {{Kind: 9}}, {{Kind: put, At: n}}, {{Kind: put, At: -1}}, {{Kind: ins, At: n + 1}}, {{Kind: del, At: n}}, {{Kind: cut, At: n}}, {{Kind: cut, At: n + 1}}, {{Kind: cut}, {Kind: ins, B: 1}}}
	for _, kind := range kinds {
		for at := range n + 1 {
			all = append(all, []one{{Kind: kind, At: at, B: 1}}, []one{{Kind: kind, At: at, B: 1}, {Kind: ins, At: 0, B: 2}}, []one{{Kind: ins, At: at, B: 1}, {Kind: kind, At: at, B: 2}})
		}
	}
	return all
}

func TestAnsweredIsNew(t *testing.T) { // rule 3
	for _, n := range []int{0, 1, 2, 9, 600} {
		for _, l := range rows(min(n, 9)) {
			room := append(noise(n), 1, 2, 3, 4)
			was := bytes.Clone(room)
			got := edit.Do(room[:n], l...)
			want := bytes.Clone(got)
			overwrite(got)
			if !bytes.Equal(room, was) {
				t.Fatalf("the answer of Do(%x, %v) shares memory with what was handed in", was[:n], l)
			}
			got = edit.Do(room[:n], l...)
			if !bytes.Equal(got, want) {
				t.Fatalf("Do(%x, %v) = %x behind a change of what was answered", was[:n], l, got)
			}
			again := edit.Do(room[:n], l...)
			overwrite(room)
			overwrite(again)
			if !bytes.Equal(got, want) {
				t.Fatalf("Do(%x, %v) is kept, or shares memory with another answer", was[:n], l)
			}
		}
	}
}

func TestEditsBetweenAreNew(t *testing.T) { // rule 3
	a, b := noise(20), crowd(20, named)
	for _, k := range []struct {
		b    []byte
		want []one
	}{{b, differ(a, b)}, {b[1:], written(b[1:])}, {nil, written(nil)}, {a, nil}} {
		got, other := edit.Between(a, k.b), edit.Between(a, k.b)
		got = got[:cap(got)]
		for i := range got {
			got[i] = one{Kind: 7, At: 7, B: 7}
		}
		if !slices.Equal(other, k.want) {
			t.Fatal("two answers share memory")
		}
		if got := edit.Between(a, k.b); !slices.Equal(got, k.want) {
			t.Fatalf("Between = %v behind a change of what was answered", got)
		}
	}
}

func TestEachCallAlone(t *testing.T) { // rule 4
	c := crc.New()
	a, b := wrap(t, []byte("a")), wrap(t, []byte("b"))
	l := []one{{Kind: ins, At: 1, B: 9}, {Kind: cut, At: 5}, {Kind: del, At: 2}}
	want := hex.EncodeToString(allEdited(a, l))
	for range 3 {
		if got := edit.Do(a, l...); hex.EncodeToString(got) != want {
			t.Fatalf("Do = %x, not %s", got, want)
		}
		isMild(t, true, a, one{At: 1, B: 9})
		isMild(t, false, a, one{At: 0, B: 9})
		if !edit.Forged(c, a, b) || edit.Forged(c, a, a) || edit.Forged(nil, a, b) {
			t.Fatal("Forged")
		}
		liesBetween(t, a, b, differ(a, b))
		liesBetween(t, a, nil, written(nil))
	}
}
