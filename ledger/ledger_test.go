package ledger_test

import (
	"kedge/ledger"
	"slices"
	"testing"
)

// The numbers that the chapter names, written out.
const (
	half = 9223372036854775808  // 2^63
	most = 18446744073709551615 // 2^64 - 1
)

// firsts are numbers of questions that are open at first: few, many, and such as are others if they are cut short or have a sign.
var firsts = []uint64{
	0, 1, 2, 3, 4, 5, 8, 100, 127, 128, 254, 255, 256, 257, 65534, 65535, 65536, 65537,
	1<<31 - 2, 1<<31 - 1, 1 << 31, 1<<31 + 1, 1<<32 - 2, 1<<32 - 1, 1 << 32, 1<<32 + 1, 1<<53 - 1, 1 << 53, 1<<53 + 1,
	half - 2, half - 1, half, half + 1, most - 1<<32, most - 1<<31, most - 65536, most - 256, most - 5, most - 4, most - 3, most - 2, most - 1, most,
}

// twin is a ledger, and beside it what the chapter says of it, counted apart: how many were open at first, were asked, heard, and are marked; and whether it was spent ever.
type twin struct {
	t                           *testing.T
	l                           *ledger.Ledger
	first, asked, heard, marked uint64
	spent                       bool
	acts                        []byte
}

// opened is a ledger with so many open questions.
func opened(t *testing.T, first uint64) *twin {
	t.Helper()
	x := &twin{t: t, l: ledger.New(first), first: first, marked: first, spent: first == most}
	if x.l == nil {
		t.Fatalf("New(%d) is nil", first)
	}
	x.holds()
	return x
}

// open is how many questions are open, by the counts.
func (x *twin) open() uint64 {
	return x.first + x.asked - x.heard
}

// asks are numbers to be asked for with Enough: about what is marked, and open, and the ends.
func (x *twin) asks() []uint64 {
	m, o := x.marked, x.open()
	return []uint64{
		0, 1, 2, m - 2, m - 1, m, m + 1, m + 2, o - 1, o, o + 1, 1<<32 - 1, 1 << 32, 1 << 53, half - 1, half, half + 1, most - 2, most - 1, most,
	}
}

// holds fails the test if the ledger isn't what the counts say.
func (x *twin) holds() {
	if n := x.l.Out(); n != x.open() {
		x.t.Fatalf("New(%d), %s: Out() = %d, not %d", x.first, x.acts, n, x.open())
	}
	if n := x.l.Marked(); n != x.marked {
		x.t.Fatalf("New(%d), %s: Marked() = %d, not %d", x.first, x.acts, n, x.marked)
	}
	if s := x.l.Spent(); s != x.spent {
		x.t.Fatalf("New(%d), %s: Spent() = %v", x.first, x.acts, s)
	}
	for _, n := range x.asks() {
		if want := !x.spent && n > x.marked; x.l.Enough(n) != want {
			x.t.Fatalf("New(%d), %s: Enough(%d) = %v, with %d marked", x.first, x.acts, n, !want, x.marked)
		}
	}
}

// ask asks, and is counted.
func (x *twin) ask() bool {
	x.acts = append(x.acts, 'a')
	want := !x.spent
	if got := x.l.Ask(); got != want {
		x.t.Fatalf("New(%d), %s: Ask() = %v", x.first, x.acts, got)
	}
	if want {
		x.asked++
		x.spent = x.open() == most
	}
	x.holds()
	return want
}

// hear hears, and is counted.
func (x *twin) hear() bool {
	x.acts = append(x.acts, 'h')
	want := !x.spent && x.open() > 0
	if got := x.l.Hear(); got != want {
		x.t.Fatalf("New(%d), %s: Hear() = %v", x.first, x.acts, got)
	}
	if want {
		x.heard++
	}
	x.holds()
	return want
}

// mark marks, and is counted.
func (x *twin) mark() {
	x.acts = append(x.acts, 'm')
	x.l.Mark()
	if !x.spent {
		x.marked = x.open()
	}
	x.holds()
}

// do does acts that are told by letters.
func (x *twin) do(acts string) {
	for _, a := range acts {
		switch a {
		case 'a':
			x.ask()
		case 'h':
			x.hear()
		case 'm':
			x.mark()
		}
	}
}

// is fails the test if these are not the answers.
func (x *twin) is(out, marked uint64, spent bool) {
	x.t.Helper()
	if x.l.Out() != out || x.l.Marked() != marked || x.l.Spent() != spent {
		x.t.Fatalf("New(%d), %s: %d, %d, %v, not %d, %d, %v", x.first, x.acts, x.l.Out(), x.l.Marked(), x.l.Spent(), out, marked, spent)
	}
}

// drawn answers a function that tells numbers that look like noise, below n, the same ones in each run.
func drawn(begin int) func(n int) int {
	x := uint64(begin)
	return func(n int) int {
		x = x*6364136223846793005 + 1442695040888963407
		return int(x>>33) % n
	}
}

func TestExamples(t *testing.T) { // P17.1, P17.2
	l := ledger.New(2)
	if l.Enough(2) || !l.Enough(3) {
		t.Fatal(l.Enough(2), l.Enough(3))
	}
	l = ledger.New(18446744073709551614)
	if l.Spent() || !l.Ask() || !l.Spent() {
		t.Fatal(l.Out(), l.Spent())
	}
}

func TestWrittenOut(t *testing.T) { // P17.1, P17.2
	for _, c := range []struct {
		first       uint64
		acts        string
		out, marked uint64
		spent       bool
	}{
		{0, "", 0, 0, false},
		{0, "a", 1, 0, false},
		{0, "h", 0, 0, false},
		{0, "m", 0, 0, false},
		{0, "ha", 1, 0, false},
		{0, "hhhaam", 2, 2, false},
		{0, "aaamh", 2, 3, false},
		{0, "aahmm", 1, 1, false},
		{0, "amhm", 0, 0, false},
		{0, "amhmh", 0, 0, false},
		{1, "a", 2, 1, false},
		{1, "h", 0, 1, false},
		{1, "hh", 0, 1, false},
		{1, "hhm", 0, 0, false},
		{2, "hm", 1, 1, false},
		{2, "aaaa", 6, 2, false},
		{255, "am", 256, 256, false},
		{256, "hm", 255, 255, false},
		{65535, "am", 65536, 65536, false},
		{4294967295, "a", 4294967296, 4294967295, false},
		{4294967296, "hmh", 4294967294, 4294967295, false},
		{9223372036854775807, "am", 9223372036854775808, 9223372036854775808, false},
		{9223372036854775808, "hm", 9223372036854775807, 9223372036854775807, false},
		{18446744073709551612, "am", 18446744073709551613, 18446744073709551613, false},
		{18446744073709551613, "a", 18446744073709551614, 18446744073709551613, false},
		{18446744073709551613, "aa", 18446744073709551615, 18446744073709551613, true},
		{18446744073709551613, "amam", 18446744073709551615, 18446744073709551614, true},
		{18446744073709551613, "aaahm", 18446744073709551615, 18446744073709551613, true},
		{18446744073709551614, "", 18446744073709551614, 18446744073709551614, false},
		{18446744073709551614, "a", 18446744073709551615, 18446744073709551614, true},
		{18446744073709551614, "haha", 18446744073709551614, 18446744073709551614, false},
		{18446744073709551614, "hmaa", 18446744073709551615, 18446744073709551613, true},
		{18446744073709551615, "", 18446744073709551615, 18446744073709551615, true},
		{18446744073709551615, "ahm", 18446744073709551615, 18446744073709551615, true},
	} {
		x := opened(t, c.first)
		x.do(c.acts)
		x.is(c.out, c.marked, c.spent)
	}
}

func TestNewOfEachCount(t *testing.T) { // P17.1, P17.2
	for _, n := range firsts {
		l := ledger.New(n)
		if l == nil || l.Out() != n || l.Marked() != n || l.Spent() != (n == most) {
			t.Fatalf("New(%d): %d, %d, %v", n, l.Out(), l.Marked(), l.Spent())
		}
		opened(t, n).is(n, n, n == most)
	}
	for n := range uint64(1000) {
		opened(t, n).is(n, n, false)
		opened(t, most-1-n).is(most-1-n, most-1-n, false)
	}
	for i := range 63 {
		opened(t, 1<<i).is(1<<i, 1<<i, false)
		opened(t, most-1<<i).is(most-1<<i, most-1<<i, false)
	}
}

// The first calls, of each first count.
func TestFirstCalls(t *testing.T) { // P17.1
	for _, n := range firsts {
		if got := opened(t, n).ask(); got != (n < most) {
			t.Fatal(n, got)
		}
		if got := opened(t, n).hear(); got != (n > 0 && n < most) {
			t.Fatal(n, got)
		}
		x := opened(t, n)
		x.mark()
		x.is(n, n, n == most)
	}
}

// Who asks often enough is spent, and not ahead of that.
func TestAskUntilItIsSpent(t *testing.T) { // P17.1, P17.3
	for n := range 70 {
		x := opened(t, most-uint64(n))
		for i := range n {
			x.is(most-uint64(n-i), most-uint64(n), false)
			if !x.ask() {
				t.Fatal(n, i)
			}
		}
		x.is(most, most-uint64(n), true)
		for range 5 {
			x.do("amahm")
			x.is(most, most-uint64(n), true)
		}
	}
}

// The last Ask but one leaves all calls as they are, the last one none.
func TestAboutTheLastAsk(t *testing.T) { // P17.1, P17.2
	x := opened(t, most-2)
	if !x.ask() || x.l.Spent() || !x.l.Enough(most-1) || !x.l.Enough(most) {
		t.Fatal(x.l.Out(), x.l.Spent())
	}
	if !x.hear() || !x.ask() {
		t.Fatal(x.l.Out())
	}
	x.mark()
	x.is(most-1, most-1, false)
	if x.l.Enough(most-1) || !x.l.Enough(most) {
		t.Fatal("Enough")
	}
	if !x.ask() || !x.l.Spent() || x.l.Enough(most) || x.ask() || x.hear() {
		t.Fatal(x.l.Out(), x.l.Spent())
	}
	x.is(most, most-1, true)
}

// As often as are open one hears, and no more often; what was not heard is as if it had not been tried.
func TestHearUntilNoneIsOpen(t *testing.T) { // P17.1, P17.3, rule 2
	for n := range 70 {
		x := opened(t, uint64(n))
		for i := range n {
			x.is(uint64(n-i), uint64(n), false)
			if !x.hear() {
				t.Fatal(n, i)
			}
		}
		for range 5 {
			if x.hear() {
				t.Fatal(n)
			}
			x.is(0, uint64(n), false)
		}
		if !x.ask() || !x.hear() || x.hear() {
			t.Fatal(n)
		}
		x.is(0, uint64(n), false)
		x.mark()
		x.is(0, 0, false)
	}
}

// Who asked hears that many more.
func TestHearWhatWasAsked(t *testing.T) { // P17.1, P17.3
	for first := range uint64(9) {
		for asked := range uint64(20) {
			x := opened(t, first)
			for range asked {
				x.ask()
			}
			x.is(first+asked, first, false)
			for range first + asked {
				if !x.hear() {
					t.Fatal(first, asked)
				}
			}
			if x.hear() {
				t.Fatal(first, asked)
			}
		}
	}
}

// Many are asked and heard, with no other call between.
func TestManyAtOnce(t *testing.T) { // P17.1, P17.3
	const many = 300000
	for _, first := range []uint64{0, 1, half - many/2, most - many - 1} {
		l := ledger.New(first)
		for range many {
			if !l.Ask() {
				t.Fatal(l.Out())
			}
		}
		if l.Out() != first+many || l.Marked() != first || l.Spent() {
			t.Fatal(first, l.Out(), l.Marked(), l.Spent())
		}
		l.Mark()
		for range many {
			if !l.Hear() {
				t.Fatal(l.Out())
			}
		}
		if l.Out() != first || l.Marked() != first+many || l.Spent() {
			t.Fatal(first, l.Out(), l.Marked(), l.Spent())
		}
	}
}

// A mark is what was open when it was set, whatever is asked and heard behind it, until it is set again.
func TestMark(t *testing.T) { // P17.1, P17.2
	for _, first := range firsts {
		x := opened(t, first)
		for _, acts := range []string{"m", "mm", "aam", "mm", "hm", "hhhm", "mmm", "aahm", "ahm"} {
			x.do(acts)
			if !x.spent && x.l.Marked() != x.l.Out() {
				t.Fatalf("New(%d), %s: %d are marked, %d open", first, x.acts, x.l.Marked(), x.l.Out())
			}
			was := x.l.Marked()
			x.do("haahhha")
			if x.l.Marked() != was {
				t.Fatalf("New(%d), %s: %d are marked, not %d", first, x.acts, x.l.Marked(), was)
			}
		}
	}
}

// Where none is open, none is marked.
func TestMarkOfNoneOpen(t *testing.T) { // P17.1, P17.2
	for n := range uint64(5) {
		x := opened(t, n)
		for range n {
			x.hear()
		}
		x.mark()
		x.is(0, 0, false)
		if x.l.Enough(0) || !x.l.Enough(1) {
			t.Fatal(n)
		}
		x.mark()
		x.is(0, 0, false)
	}
}

// Of one that is spent the mark stays what it was, though more are open by then.
func TestMarkOfOneThatIsSpent(t *testing.T) { // P17.1, P17.3
	for n := uint64(1); n < 5; n++ {
		x := opened(t, most-n)
		for range n {
			x.ask()
		}
		for range 3 {
			x.mark()
			x.is(most, most-n, true)
		}
	}
	x := opened(t, most)
	x.mark()
	x.is(most, most, true)
}

// What is enough hangs on what is marked, not on what is open by then.
func TestEnough(t *testing.T) { // P17.2
	for _, m := range firsts {
		if m == most {
			continue
		}
		for _, acts := range []string{"", "h", "hh", "hhhh", "ha", "hah"} {
			x := opened(t, m)
			x.do(acts)
			for _, n := range []uint64{m + 1, max(m+1, half), most - 1, most} {
				if x.l.Enough(n) != (n > m) {
					t.Fatalf("New(%d), %s: Enough(%d) = %v", m, acts, n, n <= m)
				}
			}
			for _, n := range []uint64{0, m / 2, m - min(m, 1), m} {
				if x.l.Enough(n) {
					t.Fatalf("New(%d), %s: Enough(%d)", m, acts, n)
				}
			}
		}
	}
}

// What is enough, of each small number, and of each small mark that comes from Asks and Hears.
func TestEnoughOfSmallNumbers(t *testing.T) { // P17.2
	for m := range uint64(30) {
		for _, x := range []*twin{opened(t, m), opened(t, 0), opened(t, 30)} {
			for x.open() < m {
				x.ask()
			}
			for x.open() > m {
				x.hear()
			}
			x.mark()
			x.do("aha")
			for n := range uint64(33) {
				if x.l.Enough(n) != (n > m) {
					t.Fatalf("%d are marked, and Enough(%d) = %v", m, n, n <= m)
				}
			}
		}
	}
}

// Nothing is enough of one that is spent, and it was ahead of that.
func TestNothingIsEnoughOfOneThatIsSpent(t *testing.T) { // P17.2, P17.3
	x, y := opened(t, most-1), opened(t, most)
	if !x.l.Enough(most) {
		t.Fatal("Enough")
	}
	x.ask()
	for _, n := range append(slices.Clone(firsts), most-1, most) {
		if x.l.Enough(n) || y.l.Enough(n) {
			t.Fatal(n)
		}
	}
}

// Asking how it stands changes nothing.
func TestAskingHowItStands(t *testing.T) { // P17.2
	for _, first := range firsts {
		for _, acts := range []string{"", "a", "h", "aam", "hmah"} {
			x := opened(t, first)
			x.do(acts)
			for range 50 {
				x.holds()
			}
			x.do("hma")
		}
	}
}

// Each row of up to seven acts, from counts about the ends and the middle.
func TestEachShortRow(t *testing.T) { // P17.1 to P17.3
	for _, first := range []uint64{0, 1, 2, 3, half - 1, half, most - 4, most - 3, most - 2, most - 1, most} {
		rows := []string{""}
		for range 7 {
			var longer []string
			for _, r := range rows {
				longer = append(longer, r+"a", r+"h", r+"m")
			}
			rows = longer
		}
		for _, r := range rows {
			opened(t, first).do(r)
		}
	}
}

// mix does so many acts that are drawn; of those that are no Mark up asks and 8 - up hears in eight.
func (x *twin) mix(next func(int) int, n, up int) {
	for range n {
		switch {
		case next(6) == 0:
			x.mark()
		case next(8) < up:
			x.ask()
		default:
			x.hear()
		}
	}
}

func TestManyActs(t *testing.T) { // P17.1 to P17.3
	for seed := range 60 {
		next := drawn(seed)
		for _, first := range firsts {
			opened(t, first).mix(next, 60, 1+seed%7)
		}
	}
}

// Walks that go up and down in turn, so that none is open now and then.
func TestLongWalks(t *testing.T) { // P17.1 to P17.3
	for seed := range 30 {
		next := drawn(1000 + seed)
		for _, first := range []uint64{0, 1, 9, 1<<32 - 5, half, most - 400, most - 20} {
			x := opened(t, first)
			for i := range 12 {
				x.mix(next, 40, []int{6, 2, 4, 1}[i%4])
			}
		}
	}
}

// What is open is what was open at first, and what was asked, without what was heard: by the answers alone.
func TestWhatIsOpen(t *testing.T) { // P17.3
	for seed := range 100 {
		next := drawn(seed)
		for _, first := range []uint64{0, 1, 5, 77, half - 3, most - 300, most - 10, most - 1, most} {
			l := ledger.New(first)
			var asked, heard uint64
			for range 150 {
				switch next(5) {
				case 0, 1:
					if l.Ask() {
						asked++
					}
				case 2, 3:
					if l.Hear() {
						heard++
					}
				default:
					l.Mark()
				}
				if l.Out()+heard != first+asked {
					t.Fatalf("New(%d), asked %d, heard %d: Out() = %d", first, asked, heard, l.Out())
				}
			}
			if first < half && (asked == 0 || heard == 0) {
				t.Fatal(first, asked, heard)
			}
		}
	}
}

// What is spent stays so, as it is, whatever is done: each call's answer is what it was.
func TestSpentStaysSo(t *testing.T) { // P17.3
	for n := range uint64(8) {
		for seed := range 20 {
			next := drawn(seed)
			x := opened(t, most-n)
			for !x.l.Spent() {
				x.mix(next, 1, 6)
			}
			out, marked := x.l.Out(), x.l.Marked()
			if out != most {
				t.Fatal(out)
			}
			for range 100 {
				switch next(4) {
				case 0:
					if x.l.Ask() {
						t.Fatal("Ask")
					}
				case 1:
					if x.l.Hear() {
						t.Fatal("Hear")
					}
				case 2:
					x.l.Mark()
				default:
					if x.l.Enough(marked+1) || x.l.Enough(most) || x.l.Enough(0) {
						t.Fatal("Enough")
					}
				}
				if x.l.Out() != out || x.l.Marked() != marked || !x.l.Spent() {
					t.Fatal(x.l.Out(), x.l.Marked(), x.l.Spent())
				}
			}
		}
	}
}

// unmade are the ledgers that New did not make.
func unmade() []*ledger.Ledger {
	return []*ledger.Ledger{nil, new(ledger.Ledger), {}}
}

// nothing fails the test if the ledger, which New did not make, tells anything.
func nothing(t *testing.T, l *ledger.Ledger) {
	t.Helper()
	if !l.Spent() || l.Out() != 0 || l.Marked() != 0 {
		t.Fatal(l.Spent(), l.Out(), l.Marked())
	}
	for _, n := range firsts {
		if l.Enough(n) {
			t.Fatal(n)
		}
	}
}

// Each call as the first one, and each behind each other one.
func TestUnmade(t *testing.T) { // P17.1, P17.2, rules 1 and 2
	calls := []func(l *ledger.Ledger) bool{
		(*ledger.Ledger).Ask,
		(*ledger.Ledger).Hear,
		func(l *ledger.Ledger) bool { l.Mark(); return false },
		func(l *ledger.Ledger) bool { return l.Enough(0) || l.Enough(1) || l.Enough(most) },
		func(l *ledger.Ledger) bool { return l.Out() != 0 },
		func(l *ledger.Ledger) bool { return l.Marked() != 0 },
		func(l *ledger.Ledger) bool { return !l.Spent() },
	}
	for i := range unmade() {
		for first, f := range calls {
			for second, g := range calls {
				l := unmade()[i]
				for range 3 {
					if f(l) || g(l) {
						t.Fatal(i, first, second)
					}
				}
				nothing(t, l)
			}
		}
	}
	for _, l := range unmade() {
		nothing(t, l)
		for range 300 {
			if l.Ask() || l.Hear() {
				t.Fatal("it asks, or hears")
			}
			l.Mark()
		}
		nothing(t, l)
	}
}

// A ledger that is a part of something else, and that nobody made, is no other than one of its own.
func TestUnmadeInside(t *testing.T) { // P17.1, P17.2, rule 1
	var s struct {
		before uint64
		l      ledger.Ledger
		after  uint64
	}
	for range 3 {
		s.l.Mark()
		if s.l.Ask() || s.l.Hear() || s.before != 0 || s.after != 0 {
			t.Fatal(s.before, s.after)
		}
		nothing(t, &s.l)
	}
}

// Two ledgers have nothing to do with one another, nor with one that nobody made.
func TestTwoLedgers(t *testing.T) { // rule 4
	x, y, z := opened(t, 3), opened(t, most-20), opened(t, 3)
	next := drawn(7)
	for i := range 200 {
		x.mix(next, 1, 5)
		y.mix(next, 1, 6)
		if i%3 == 0 {
			z.mix(next, 1, 2)
		}
		for _, l := range unmade() {
			l.Ask()
			l.Mark()
			nothing(t, l)
		}
		opened(t, 3).is(3, 3, false)
		x.holds()
		y.holds()
		z.holds()
	}
}

// What is answered hangs on the calls so far alone.
func TestTheSameTwice(t *testing.T) { // rule 4
	run := func(first uint64) []uint64 {
		x := opened(t, first)
		next := drawn(5)
		var all []uint64
		for range 200 {
			x.mix(next, 1, 4)
			all = append(all, x.l.Out(), x.l.Marked())
		}
		return all
	}
	for _, first := range firsts {
		if !slices.Equal(run(first), run(first)) {
			t.Fatal(first)
		}
	}
}
