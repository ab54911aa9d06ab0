package octet

import (
	"bytes"
	"math"
	"strings"
	"testing"
)

// numbers are the ends of each width, and some between.
func numbers() []uint64 {
	l := []uint64{0, 1, 258, 0x0102030405060708, 0xf0e0d0c0b0a09080, math.MaxUint64}
	for k := range 64 {
		l = append(l, 1<<k, 1<<k-1, 1<<k+1)
	}
	return l
}

// lists are all lists of at most so many bytes out of few.
func lists(most int) [][]byte {
	all := [][]byte{nil}
	row := [][]byte{nil}
	for range most {
		var next [][]byte
		for _, b := range row {
			for _, x := range []byte{0, 1, 127, 128, 255} {
				next = append(next, append(bytes.Clone(b), x))
			}
		}
		all = append(all, next...)
		row = next
	}
	return all
}

// spare answers b with room behind it in which a guard stands, and a function that tells whether b and the guard are as they were.
func spare(b []byte) ([]byte, func() bool) {
	whole := append(append([]byte{0xa5}, b...), 0x5a, 0x5a, 0x5a, 0x5a)
	was := bytes.Clone(whole)
	return whole[1 : 1+len(b)], func() bool { return bytes.Equal(whole, was) }
}

// overwrite puts other bytes in all of b's memory, up to its capacity.
func overwrite(b []byte) {
	b = b[:cap(b)]
	for i := range b {
		b[i] ^= 0xff
	}
}

func TestPut(t *testing.T) { // P1.1
	for _, c := range []struct {
		n    uint64
		wide int
		want []byte
	}{
		{258, 2, []byte{1, 2}},
		{258, 1, []byte{2}},
		{258, 3, []byte{0, 1, 2}},
		{0, 1, []byte{0}},
		{0, 8, []byte{0, 0, 0, 0, 0, 0, 0, 0}},
		{0x0102030405060708, 8, []byte{1, 2, 3, 4, 5, 6, 7, 8}},
		{0x0102030405060708, 7, []byte{2, 3, 4, 5, 6, 7, 8}},
		{0x0102030405060708, 4, []byte{5, 6, 7, 8}},
		{0x0102030405060708, 1, []byte{8}},
		{math.MaxUint64, 8, []byte{255, 255, 255, 255, 255, 255, 255, 255}},
		{1 << 63, 8, []byte{128, 0, 0, 0, 0, 0, 0, 0}},
		{1 << 63, 7, []byte{0, 0, 0, 0, 0, 0, 0}},
	} {
		if got := Put(c.n, c.wide); !bytes.Equal(got, c.want) {
			t.Errorf("Put(%#x, %d) = %v, want %v", c.n, c.wide, got, c.want)
		}
	}
}

func TestPutWidthThatMayNotBe(t *testing.T) { // P1.1
	for _, wide := range []int{0, 9, 10, 16, 64, -1, -8, math.MaxInt, math.MinInt} {
		if got := Put(math.MaxUint64, wide); len(got) != 0 {
			t.Errorf("Put of width %d = %v, want none", wide, got)
		}
	}
}

func TestNumber(t *testing.T) { // P1.2
	for _, c := range []struct {
		b    []byte
		want uint64
	}{
		{nil, 0},
		{[]byte{}, 0},
		{[]byte{7}, 7},
		{[]byte{1, 2}, 258},
		{[]byte{0, 0, 1, 2}, 258},
		{[]byte{1, 0}, 256},
		{[]byte{1, 2, 3, 4, 5, 6, 7}, 0x01020304050607},
		{[]byte{1, 2, 3, 4, 5, 6, 7, 8}, 0x0102030405060708},
		{[]byte{255, 255, 255, 255, 255, 255, 255, 255}, math.MaxUint64},
		{[]byte{1, 2, 3, 4, 5, 6, 7, 8, 9}, 0},
		{[]byte{0, 1, 2, 3, 4, 5, 6, 7, 8}, 0},
		{[]byte{0, 0, 0, 0, 0, 0, 0, 0, 1}, 0},
		{bytes.Repeat([]byte{1}, 100), 0},
	} {
		if got := Number(c.b); got != c.want {
			t.Errorf("Number(%v) = %#x, want %#x", c.b, got, c.want)
		}
	}
}

func TestJoin(t *testing.T) { // P1.3
	for _, c := range []struct {
		parts [][]byte
		want  []byte
	}{
		{nil, nil},
		{[][]byte{}, nil},
		{[][]byte{nil}, nil},
		{[][]byte{nil, {}, nil}, nil},
		{[][]byte{{1}}, []byte{1}},
		{[][]byte{{1}, {2, 3}}, []byte{1, 2, 3}},
		{[][]byte{{2, 3}, {1}}, []byte{2, 3, 1}},
		{[][]byte{nil, {1}, {}, {2}, nil}, []byte{1, 2}},
		{[][]byte{{1}, {1}, {1}}, []byte{1, 1, 1}},
	} {
		if got := Join(c.parts...); !bytes.Equal(got, c.want) {
			t.Errorf("Join(%v) = %v, want %v", c.parts, got, c.want)
		}
	}
}

func TestCut(t *testing.T) { // P1.3
	for _, c := range []struct {
		b           []byte
		n           int
		first, rest []byte
		ok          bool
	}{
		{[]byte{1, 2, 3}, 0, nil, []byte{1, 2, 3}, true},
		{[]byte{1, 2, 3}, 1, []byte{1}, []byte{2, 3}, true},
		{[]byte{1, 2, 3}, 2, []byte{1, 2}, []byte{3}, true},
		{[]byte{1, 2, 3}, 3, []byte{1, 2, 3}, nil, true},
		{[]byte{1, 2, 3}, 4, nil, nil, false},
		{[]byte{1, 2, 3}, -1, nil, nil, false},
		{[]byte{1, 2, 3}, math.MaxInt, nil, nil, false},
		{[]byte{1, 2, 3}, math.MinInt, nil, nil, false},
		{nil, 0, nil, nil, true},
		{[]byte{}, 0, nil, nil, true},
		{nil, 1, nil, nil, false},
		{[]byte{}, 1, nil, nil, false},
		{nil, -1, nil, nil, false},
		{make([]byte, 2, 9), 3, nil, nil, false}, // the room behind the bytes is no byte of them
	} {
		first, rest, ok := Cut(c.b, c.n)
		if !bytes.Equal(first, c.first) || !bytes.Equal(rest, c.rest) || ok != c.ok {
			t.Errorf("Cut(%v, %d) = %v, %v, %v, want %v, %v, %v", c.b, c.n, first, rest, ok, c.first, c.rest, c.ok)
		}
	}
}

func TestSame(t *testing.T) { // P1.3
	for _, c := range []struct {
		a, b []byte
		want bool
	}{
		{nil, nil, true},
		{nil, []byte{}, true},
		{[]byte{}, nil, true},
		{[]byte{1, 2}, []byte{1, 2}, true},
		{[]byte{1, 2}, []byte{1, 3}, false},
		{[]byte{1, 2}, []byte{3, 2}, false},
		{[]byte{1, 2}, []byte{2, 1}, false},
		{[]byte{1}, []byte{1, 0}, false},
		{[]byte{1, 0}, []byte{1}, false},
		{nil, []byte{0}, false},
		{[]byte{0}, nil, false},
	} {
		if got := Same(c.a, c.b); got != c.want {
			t.Errorf("Same(%v, %v) = %v, want %v", c.a, c.b, got, c.want)
		}
	}
}

func TestOrder(t *testing.T) { // P1.4
	for _, c := range []struct {
		a, b []byte
		want int
	}{
		{nil, nil, 0},
		{nil, []byte{}, 0},
		{nil, []byte{0}, -1},
		{[]byte{1}, []byte{1, 0}, -1},
		{[]byte{1}, []byte{1}, 0},
		{[]byte{1, 2}, []byte{1, 3}, -1},
		{[]byte{2}, []byte{1, 9}, 1},
		{[]byte{1, 9, 9}, []byte{2}, -1},
		{[]byte{0, 5}, []byte{0, 4, 9}, 1},
		{[]byte{127}, []byte{128}, -1},
		{[]byte{0}, []byte{255}, -1},
	} {
		if got := Order(c.a, c.b); got != c.want {
			t.Errorf("Order(%v, %v) = %d, want %d", c.a, c.b, got, c.want)
		}
		if got := Order(c.b, c.a); got != -c.want {
			t.Errorf("Order(%v, %v) = %d, want %d", c.b, c.a, got, -c.want)
		}
	}
}

func TestOrderIsThatOfTexts(t *testing.T) { // P1.3, P1.4
	all := lists(3)
	for _, a := range all {
		for _, b := range all {
			if got, want := Order(a, b), strings.Compare(string(a), string(b)); got != want {
				t.Fatalf("Order(%v, %v) = %d, want %d", a, b, got, want)
			}
			if got, want := Same(a, b), string(a) == string(b); got != want {
				t.Fatalf("Same(%v, %v) = %v, want %v", a, b, got, want)
			}
		}
	}
}

func TestHex(t *testing.T) { // P1.5
	for _, c := range []struct {
		b    []byte
		want string
	}{
		{nil, ""},
		{[]byte{}, ""},
		{[]byte{0}, "00"},
		{[]byte{10, 255}, "0aff"},
		{[]byte{0x01, 0x23, 0x45, 0x67, 0x89, 0xab, 0xcd, 0xef}, "0123456789abcdef"},
		{[]byte{0xf0, 0x0f}, "f00f"},
	} {
		if got := Hex(c.b); got != c.want {
			t.Errorf("Hex(%v) = %q, want %q", c.b, got, c.want)
		}
	}
}

func TestUnhex(t *testing.T) { // P1.5
	for _, c := range []struct {
		s    string
		want []byte
		ok   bool
	}{
		{"", nil, true},
		{"00", []byte{0}, true},
		{"0aff", []byte{10, 255}, true},
		{"0123456789abcdef", []byte{0x01, 0x23, 0x45, 0x67, 0x89, 0xab, 0xcd, 0xef}, true},
		{"0", nil, false},
		{"0af", nil, false},
		{"0A", nil, false},
		{"A0", nil, false},
		{"0aFF", nil, false},
		{"0g", nil, false},
		{"g0", nil, false},
		{"0aff0g", nil, false},
		{"0x0a", nil, false},
		{" 0a", nil, false},
		{"0a ", nil, false},
		{" 0a ", nil, false},
		{"0a 0b", nil, false},
		{"-1", nil, false},
		{"+1", nil, false},
		{"\x00\x00", nil, false},
		{"\xff\xff", nil, false},
		{"\u0661\u0662", nil, false}, // digits of another script
		{"\uff11", nil, false},
	} {
		got, ok := Unhex(c.s)
		if !bytes.Equal(got, c.want) || ok != c.ok {
			t.Errorf("Unhex(%q) = %v, %v, want %v, %v", c.s, got, ok, c.want, c.ok)
		}
	}
}

func TestUnhexOfAllPairs(t *testing.T) { // P1.5
	for high := range 256 {
		for low := range 256 {
			s := string([]byte{byte(high), byte(low)})
			h, l := strings.IndexByte("0123456789abcdef", byte(high)), strings.IndexByte("0123456789abcdef", byte(low))
			want := h >= 0 && l >= 0
			got, ok := Unhex(s)
			if ok != want || !ok && len(got) != 0 || ok && !bytes.Equal(got, []byte{byte(16*h + l)}) {
				t.Fatalf("Unhex(%q) = %v, %v", s, got, ok)
			}
		}
	}
}

func TestNumberOfWhatWasPut(t *testing.T) { // P1.6
	for _, n := range numbers() {
		for wide := 1; wide <= 8; wide++ {
			b := Put(n, wide)
			want := n
			if wide < 8 {
				want = n % (1 << (8 * wide))
			}
			if got := Number(b); len(b) != wide || got != want {
				t.Fatalf("Number(Put(%#x, %d)) = %#x, want %#x", n, wide, got, want)
			}
			if again := Put(Number(b), len(b)); !bytes.Equal(again, b) {
				t.Fatalf("Put(Number(%v), %d) = %v", b, len(b), again)
			}
		}
	}
}

func TestCutOfWhatWasJoined(t *testing.T) { // P1.6
	all := lists(2)
	for _, a := range all {
		for _, b := range all {
			first, rest, ok := Cut(Join(a, b), len(a))
			if !ok || !Same(first, a) || !Same(rest, b) {
				t.Fatalf("Cut(Join(%v, %v), %d) = %v, %v, %v", a, b, len(a), first, rest, ok)
			}
		}
	}
}

func TestJoinOfWhatWasCut(t *testing.T) { // P1.6
	for _, b := range lists(4) {
		for n := range len(b) + 1 {
			first, rest, ok := Cut(b, n)
			if !ok || len(first) != n || !Same(Join(first, rest), b) {
				t.Fatalf("Join(Cut(%v, %d)) = %v, %v, %v", b, n, first, rest, ok)
			}
		}
	}
}

func TestUnhexOfHex(t *testing.T) { // P1.6
	var whole []byte
	for x := range 256 {
		whole = append(whole, byte(x))
	}
	for _, b := range append(lists(3), whole) {
		s := Hex(b)
		if got, ok := Unhex(s); len(s) != 2*len(b) || !ok || !Same(got, b) {
			t.Fatalf("Unhex(Hex(%v)) = %v, %v", b, got, ok)
		}
		if got, ok := Unhex(s); !ok || Hex(got) != s {
			t.Fatalf("Hex(Unhex(%q)) is another text", s)
		}
	}
}

func TestWhatIsHandedInStays(t *testing.T) { // rule 3
	a, aStays := spare([]byte{1, 2, 3})
	b, bStays := spare([]byte{4, 5})
	none, noneStays := spare(nil)
	parts := [][]byte{a, none, b}
	Number(a)
	Join(parts...)
	Join(parts[:1]...)
	for n := -1; n <= 4; n++ {
		Cut(a, n)
	}
	Cut(none, 0)
	Same(a, b)
	Order(a, b)
	Hex(a)
	if !aStays() || !bStays() || !noneStays() {
		t.Error("bytes that were handed in are other ones")
	}
	if len(parts) != 3 || &parts[0][0] != &a[0] || len(parts[1]) != 0 || &parts[2][0] != &b[0] {
		t.Error("the list of parts is another one")
	}
}

func TestJoinedIsNewMemory(t *testing.T) { // rule 3
	for _, c := range [][][]byte{{{1, 2, 3}}, {{1, 2}, {3}}, {nil, {1, 2, 3}}, {{1, 2, 3}, nil}} {
		var parts [][]byte
		var checks []func() bool
		for _, p := range c {
			part, stays := spare(p)
			parts, checks = append(parts, part), append(checks, stays)
		}
		first, again := Join(parts...), Join(parts...)
		overwrite(first)
		if !bytes.Equal(again, []byte{1, 2, 3}) {
			t.Errorf("two answers of Join share memory: %v", again)
		}
		for i, stays := range checks {
			if !stays() {
				t.Errorf("what was joined shares memory with part %d of %v", i, c)
			}
		}
	}
}

func TestJoinedIsNotKept(t *testing.T) { // rule 3
	p := []byte{1, 2, 3}
	got := Join(p)
	overwrite(p)
	if !bytes.Equal(got, []byte{1, 2, 3}) {
		t.Errorf("the answer went along with the part: %v", got)
	}
}

func TestCutIsNewMemory(t *testing.T) { // rule 3
	for n := range 4 {
		b, stays := spare([]byte{1, 2, 3})
		first, rest, _ := Cut(b, n)
		overwrite(first)
		if !stays() || !bytes.Equal(rest, b[n:]) {
			t.Errorf("cut at %d: the first bytes share memory with others", n)
		}
		overwrite(rest)
		if !stays() {
			t.Errorf("cut at %d: the other bytes share memory with what was handed in", n)
		}
	}
}

func TestCutIsNotKept(t *testing.T) { // rule 3
	b := []byte{1, 2, 3}
	first, rest, _ := Cut(b, 1)
	overwrite(b)
	if !bytes.Equal(first, []byte{1}) || !bytes.Equal(rest, []byte{2, 3}) {
		t.Errorf("the answers went along with what was handed in: %v, %v", first, rest)
	}
}

func TestPutAndUnhexAreNewMemory(t *testing.T) { // rule 3
	overwrite(Put(258, 2))
	if got := Put(258, 2); !bytes.Equal(got, []byte{1, 2}) {
		t.Errorf("Put(258, 2) = %v behind another answer's change", got)
	}
	b, _ := Unhex("0aff")
	overwrite(b)
	if got, ok := Unhex("0aff"); !ok || !bytes.Equal(got, []byte{10, 255}) {
		t.Errorf("Unhex(\"0aff\") = %v, %v behind another answer's change", got, ok)
	}
}
