package ring_test

import (
	"fmt"
	"kedge/api"
	"kedge/ring"
	"math"
	"math/big"
	"slices"
	"testing"
)

// The numbers that the chapter names, written out, so that the tests hold whatever api says.
const (
	maxMod   = 65536
	maxLife  = 4096
	maxWide  = 64
	farthest = 1152921504606846976 // 2^60
)

// The errors that the chapter names, written out.
const (
	fine      api.Errno = 0
	errWindow api.Errno = 220
	errMod    api.Errno = 221
	errLife   api.Errno = 222
)

// small are ints about 0 that Check's numbers have for bounds, far are ints far outside of all bounds; among those are such as may be if they are cut short, have no sign, or are doubled.
var (
	small = []int{-3, -2, -1, 0, 1, 2, 3, 4, 5, 31, 32, 33, 62, 63, 64, 65, 66, 127, 128, 129, 255, 256, 257, 4094, 4095, 4096, 4097, 4098, 8191, 8192, 8193, 8320, 8321, 8322, 32767, 32768, 32769, 65534, 65535, 65536, 65537, 65538}
	far   = []int{
		1 << 17, 1<<24 + 1, math.MaxInt32 - 1, math.MaxInt32, 1 << 31, 1<<31 + 1, 1<<32 - 1, 1 << 32, 1<<32 + 1, 1<<32 + 2, 1<<32 + 64, 1<<32 + 4096, 1<<32 + 65535, 1<<32 + 65536, 1 << 53, 1<<60 - 1, 1 << 60, 1<<60 + 1, 1 << 62, 1<<62 + 1, 1<<62 + 9, math.MaxInt - 65536, math.MaxInt - 1, math.MaxInt,
		-63, -64, -65, -255, -256, -4095, -4096, -4097, -65535, -65536, -65537, math.MinInt32, math.MinInt32 + 1, math.MinInt32 - 1, -1 << 32, 1 - 1<<32, 64 - 1<<32, -1 << 53, -1 << 60, -1 << 62, 1 - 1<<62, math.MinInt + 65536, math.MinInt + 9, math.MinInt + 2, math.MinInt + 1, math.MinInt,
	}
)

// ints are all of those.
func ints() []int {
	return slices.Concat(small, far)
}

// drawn answers a function that tells ints that look like noise, the same ones in each run.
func drawn(begin int) func() int {
	x := uint64(begin)
	return func() int {
		x = x*6364136223846793005 + 1442695040888963407
		y := x ^ x>>29
		return int(y * 0x9e3779b97f4a7c15)
	}
}

// below answers a function that tells numbers from 0 on that are below n.
func below(begin int) func(n int) int {
	next := drawn(begin)
	return func(n int) int {
		return int(uint64(next()) >> 1 % uint64(n))
	}
}

// left is what is left of a by m, from 0 on, reckoned with numbers of any size; m is above 0.
func left(a *big.Int, m int) int {
	return int(new(big.Int).Mod(a, big.NewInt(int64(m))).Int64())
}

// leftOf is what is left of a place.
func leftOf(place, m int) int {
	return left(big.NewInt(int64(place)), m)
}

// checked is what P22.1 says of a window, a number and a life, held against numbers of any size.
func checked(w, m, l int) api.Errno {
	if l <= 0 || l >= 4097 {
		return errLife
	}
	lesser := maxWide
	if l < lesser {
		lesser = l
	}
	if w <= 0 || w >= lesser+1 {
		return errWindow
	}
	twice := new(big.Int).Add(big.NewInt(int64(w)), big.NewInt(int64(l)))
	twice.Add(twice, twice)
	if big.NewInt(int64(m)).Cmp(twice) <= 0 || m >= 65537 {
		return errMod
	}
	return fine
}

// checks fails the test if Check does not tell what checked does.
func checks(t *testing.T, w, m, l int) {
	t.Helper()
	if got, want := ring.Check(w, m, l), checked(w, m, l); got != want {
		t.Fatalf("Check(%d, %d, %d) = %d, not %d", w, m, l, got, want)
	}
}

// answer is what Near answers.
type answer struct {
	place int
	ok    bool
}

// near is what Near answers.
func near(base, span, seq, m int) answer {
	place, ok := ring.Near(base, span, seq, m)
	return answer{place, ok}
}

// nearBy is what P22.2 says of Near, of numbers that may be: a count from base on, and beside it its number, which begins anew behind the last one.
func nearBy(base, span, seq, m int) answer {
	number := leftOf(base, m)
	for place := base; span > 0; span-- {
		if number == seq {
			return answer{place, true}
		}
		place++
		number++
		if number == m {
			number = 0
		}
	}
	return answer{}
}

// isNear fails the test if Near does not answer that.
func isNear(t *testing.T, base, span, seq, m int, want answer) {
	t.Helper()
	if got := near(base, span, seq, m); got != want {
		t.Fatalf("Near(%d, %d, %d, %d) = %v, not %v", base, span, seq, m, got, want)
	}
}

// isAhead fails the test if Ahead does not answer that.
func isAhead(t *testing.T, from, to, m, want int) {
	t.Helper()
	if got := ring.Ahead(from, to, m); got != want {
		t.Fatalf("Ahead(%d, %d, %d) = %d, not %d", from, to, m, got, want)
	}
}

// isMod fails the test if Mod does not answer that.
func isMod(t *testing.T, place, m, want int) {
	t.Helper()
	if got := ring.Mod(place, m); got != want {
		t.Fatalf("Mod(%d, %d) = %d, not %d", place, m, got, want)
	}
}

func TestExamples(t *testing.T) { // P22.1, P22.2
	if ring.Check(1, 5, 1) != api.OK || ring.Check(1, 4, 1) != api.ErrMod {
		t.Fatal(ring.Check(1, 5, 1), ring.Check(1, 4, 1))
	}
	isNear(t, 7, 3, 0, 8, answer{8, true})
}

func TestTheErrorsOfApi(t *testing.T) { // P22.1
	if api.OK != fine || api.ErrWindow != errWindow || api.ErrMod != errMod || api.ErrLife != errLife {
		t.Fatal(api.OK, api.ErrWindow, api.ErrMod, api.ErrLife)
	}
	if api.MaxMod != maxMod || api.MaxLife != maxLife || api.MaxWide != maxWide {
		t.Fatal(api.MaxMod, api.MaxLife, api.MaxWide)
	}
}

func TestCheckWrittenOut(t *testing.T) { // P22.1
	for _, c := range []struct {
		w, m, l int
		want    api.Errno
	}{
		{1, 5, 1, fine},
		{1, 4, 1, errMod},
		{1, 3, 1, errMod},
		{1, 6, 1, fine},
		{1, 65536, 1, fine},
		{1, 65537, 1, errMod},
		{2, 65536, 1, errWindow},
		{1, 6, 2, errMod},
		{1, 7, 2, fine},
		{2, 8, 2, errMod},
		{2, 9, 2, fine},
		{3, 65536, 2, errWindow},
		{1, 8, 3, errMod},
		{1, 9, 3, fine},
		{3, 12, 3, errMod},
		{3, 13, 3, fine},
		{63, 252, 63, errMod},
		{63, 253, 63, fine},
		{64, 65536, 63, errWindow},
		{63, 254, 64, errMod},
		{63, 255, 64, fine},
		{64, 256, 64, errMod},
		{64, 257, 64, fine},
		{65, 65536, 64, errWindow},
		{64, 258, 65, errMod},
		{64, 259, 65, fine},
		{65, 65536, 65, errWindow},
		{66, 65536, 66, errWindow},
		{1, 8194, 4096, errMod},
		{1, 8195, 4096, fine},
		{64, 8320, 4096, errMod},
		{64, 8321, 4096, fine},
		{64, 65535, 4096, fine},
		{64, 65536, 4096, fine},
		{64, 65537, 4096, errMod},
		{65, 65536, 4096, errWindow},
		{64, 65536, 4097, errLife},
		{1, 65536, 4097, errLife},
		{64, 8318, 4095, errMod},
		{64, 8319, 4095, fine},
		{1, 5, 0, errLife},
		{0, 5, 0, errLife},
		{1, 5, -1, errLife},
		{0, 5, 1, errWindow},
		{-1, 5, 1, errWindow},
		{0, 1, 1, errWindow},
		{1, 0, 1, errMod},
		{1, -5, 1, errMod},
		{1, math.MinInt, 1, errMod},
		{1, math.MaxInt, 1, errMod},
		{1, 5, math.MinInt, errLife},
		{1, 5, math.MaxInt, errLife},
		{math.MinInt, 5, 1, errWindow},
		{math.MaxInt, 5, 1, errWindow},
		{0, 0, 0, errLife},
		{math.MaxInt, math.MaxInt, math.MaxInt, errLife},
		{math.MinInt, math.MinInt, math.MinInt, errLife},
	} {
		if got := ring.Check(c.w, c.m, c.l); got != c.want {
			t.Errorf("Check(%d, %d, %d) = %d, not %d", c.w, c.m, c.l, got, c.want)
		}
	}
}

// All that is small, and some of what is not.
func TestCheckOfSmallNumbers(t *testing.T) { // P22.1
	for l := -3; l <= 20; l++ {
		for w := -3; w <= 22; w++ {
			for m := -10; m <= 90; m++ {
				checks(t, w, m, l)
			}
		}
	}
}

// Each life there is, with the least and the greatest window of it, and those outside.
func TestCheckEachLife(t *testing.T) { // P22.1
	for l := 1; l <= maxLife; l++ {
		widest := l
		if l > 64 {
			widest = 64
		}
		for _, w := range []int{1, (widest + 1) / 2, widest} {
			for _, m := range []int{2*w + 2*l + 1, 2*w + 2*l + 2, 65535, 65536} {
				if got := ring.Check(w, m, l); got != fine {
					t.Fatalf("Check(%d, %d, %d) = %d", w, m, l, got)
				}
			}
			for _, m := range []int{2*w + 2*l, 2*w + 2*l - 1, w + l, 0, 65537} {
				if got := ring.Check(w, m, l); got != errMod {
					t.Fatalf("Check(%d, %d, %d) = %d", w, m, l, got)
				}
			}
		}
		for _, w := range []int{0, -1, widest + 1, widest + 2} {
			for _, m := range []int{65536, 2*w + 2*l + 1, 0} {
				if got := ring.Check(w, m, l); got != errWindow {
					t.Fatalf("Check(%d, %d, %d) = %d", w, m, l, got)
				}
			}
		}
	}
}

// Of each life all windows that there may be are counted, and of each window all numbers.
func TestCheckHowMany(t *testing.T) { // P22.1
	for _, l := range []int{1, 2, 3, 5, 8, 31, 62, 63, 64, 65, 66, 127, 128, 255, 256, 1000, 4095, 4096} {
		windows := 0
		for w := -70; w < 300; w++ {
			switch ring.Check(w, 65536, l) {
			case fine:
				windows++
			case errWindow:
			default:
				t.Fatal(w, l)
			}
		}
		if windows != min(l, 64) {
			t.Fatal(l, windows)
		}
	}
	for _, c := range [][2]int{{1, 1}, {1, 2}, {2, 2}, {1, 64}, {64, 64}, {1, 4096}, {64, 4096}, {17, 300}} {
		numbers := 0
		for m := -5; m < 70000; m++ {
			if ring.Check(c[0], m, c[1]) == fine {
				numbers++
			}
		}
		if numbers != 65536-2*c[0]-2*c[1] {
			t.Fatal(c, numbers)
		}
	}
}

// Each window and each life there are, about the least number that they may have.
func TestCheckTheLeastNumber(t *testing.T) { // P22.1
	for w := 1; w <= 64; w++ {
		for l := w; l <= 4096; l += 1 + l/9 {
			least := 1
			for range w + l {
				least += 2
			}
			for i := -3; i <= 3; i++ {
				want := fine
				if i < 0 {
					want = errMod
				}
				if got := ring.Check(w, least+i, l); got != want {
					t.Fatalf("Check(%d, %d, %d) = %d, not %d", w, least+i, l, got, want)
				}
			}
		}
	}
}

// All ints about the bounds, and far from them, with one another.
func TestCheckOfAnyInts(t *testing.T) { // P22.1, rules 1, 2 and 5
	for _, w := range ints() {
		for _, m := range ints() {
			for _, l := range ints() {
				checks(t, w, m, l)
			}
		}
	}
	next := drawn(3)
	for range 20000 {
		checks(t, next(), next(), next())
		checks(t, next()>>57, next()>>46, next()>>50)
		checks(t, next()>>58, next()>>47, next()>>58)
	}
}

// Two or three of them are wrong at once: the one that the chapter names first is told.
func TestCheckWhichError(t *testing.T) { // P22.1, rule 2
	lives := []int{0, -1, 4097, 4098, 1 << 32, 1<<32 + 1, math.MinInt, math.MaxInt}
	windows := []int{0, -1, 65, 66, 1 << 32, 1<<32 + 1, math.MinInt, math.MaxInt}
	numbers := []int{0, -1, 1, 2, 4, 8, 65537, 1 << 32, 1<<32 + 9, math.MinInt, math.MaxInt}
	for _, l := range lives {
		for _, m := range append(slices.Clone(numbers), 65536) {
			for _, w := range append(slices.Clone(windows), 1, 64) {
				if got := ring.Check(w, m, l); got != errLife {
					t.Fatalf("Check(%d, %d, %d) = %d", w, m, l, got)
				}
			}
		}
	}
	for _, l := range []int{1, 2, 63, 64, 65, 4096} {
		for _, w := range append(slices.Clone(windows), l+1) {
			for _, m := range append(slices.Clone(numbers), 65536) {
				if got := ring.Check(w, m, l); got != errWindow {
					t.Fatalf("Check(%d, %d, %d) = %d", w, m, l, got)
				}
			}
		}
	}
	// The window and the life may be, and 9 numbers would be enough.
	for _, m := range append(slices.Clone(numbers), 8) {
		if got := ring.Check(2, m, 2); got != errMod {
			t.Fatalf("Check(2, %d, 2) = %d", m, got)
		}
	}
}

// A window that is too wide for its life alone, and one that is too wide for all.
func TestCheckTheLesserOne(t *testing.T) { // P22.1
	for l := 1; l <= 200; l++ {
		for w := 1; w <= 200; w++ {
			want := fine
			if w > l || w > 64 {
				want = errWindow
			}
			if got := ring.Check(w, 65536, l); got != want {
				t.Fatalf("Check(%d, 65536, %d) = %d, not %d", w, l, got, want)
			}
		}
	}
}

func TestModWrittenOut(t *testing.T) { // P22.2
	for _, c := range []struct{ place, m, want int }{
		{0, 1, 0}, {1, 1, 0}, {-1, 1, 0}, {math.MaxInt, 1, 0}, {math.MinInt, 1, 0},
		{0, 2, 0}, {1, 2, 1}, {2, 2, 0}, {3, 2, 1}, {-1, 2, 1}, {-2, 2, 0}, {-3, 2, 1},
		{math.MaxInt, 2, 1}, {math.MinInt, 2, 0}, {math.MinInt + 1, 2, 1},
		{0, 8, 0}, {1, 8, 1}, {7, 8, 7}, {8, 8, 0}, {9, 8, 1}, {-1, 8, 7}, {-7, 8, 1}, {-8, 8, 0}, {-9, 8, 7},
		{math.MaxInt, 8, 7}, {math.MinInt, 8, 0}, {math.MinInt + 1, 8, 1},
		{0, 3, 0}, {1, 3, 1}, {2, 3, 2}, {3, 3, 0}, {4, 3, 1}, {-1, 3, 2}, {-2, 3, 1}, {-3, 3, 0}, {-4, 3, 2},
		{math.MaxInt, 3, 1}, {math.MinInt, 3, 1}, {math.MinInt + 1, 3, 2}, {math.MinInt + 2, 3, 0},
		{math.MaxInt, 10, 7}, {math.MinInt, 10, 2}, {-7, 10, 3}, {123456789, 1000, 789}, {-123456789, 1000, 211},
		{65535, 65536, 65535}, {65536, 65536, 0}, {65537, 65536, 1}, {-1, 65536, 65535}, {-65536, 65536, 0}, {-65537, 65536, 65535},
		{65536, 65537, 65536}, {-1, 65537, 65536}, {1 << 32, 65537, 1}, {1 << 32, 65536, 0}, {1<<32 + 5, 1 << 32, 5},
		{0, math.MaxInt, 0}, {1, math.MaxInt, 1}, {math.MaxInt - 1, math.MaxInt, math.MaxInt - 1}, {math.MaxInt, math.MaxInt, 0},
		{-1, math.MaxInt, math.MaxInt - 1}, {-math.MaxInt, math.MaxInt, 0}, {math.MinInt, math.MaxInt, math.MaxInt - 1}, {math.MinInt + 2, math.MaxInt, 1},
		{math.MaxInt, math.MaxInt - 1, 1}, {math.MinInt, math.MaxInt - 1, math.MaxInt - 3}, {math.MinInt, 1 << 62, 0}, {math.MinInt + 1, 1 << 62, 1}, {-1, 1 << 62, 1<<62 - 1},
		{0, 0, 0}, {1, 0, 0}, {-1, 0, 0}, {9, 0, 0}, {math.MaxInt, 0, 0}, {math.MinInt, 0, 0},
		{0, -1, 0}, {1, -1, 0}, {-1, -1, 0}, {math.MaxInt, -1, 0}, {math.MinInt, -1, 0},
		{9, -8, 0}, {-9, -8, 0}, {7, math.MinInt, 0}, {-7, math.MinInt, 0}, {math.MinInt + 1, math.MinInt, 0}, {math.MaxInt, math.MinInt, 0},
	} {
		isMod(t, c.place, c.m, c.want)
	}
}

// A count up and one down from place 0, with numbers that begin anew.
func TestModOfSmallPlaces(t *testing.T) { // P22.2
	for _, m := range []int{1, 2, 3, 4, 5, 6, 7, 8, 9, 10, 15, 16, 17, 63, 64, 65, 100, 255, 256, 257, 1000, 4096, 8321, 65535, 65536, 65537, 100000} {
		up, down := 0, 0
		for place := range 3*m + 50 {
			isMod(t, place, m, up)
			isMod(t, -place, m, down)
			if up++; up == m {
				up = 0
			}
			if down--; down < 0 {
				down = m - 1
			}
		}
	}
}

func TestModAboutEachNumber(t *testing.T) { // P22.2
	for m := 2; m <= 3000; m++ {
		isMod(t, 0, m, 0)
		isMod(t, 1, m, 1)
		isMod(t, m-1, m, m-1)
		isMod(t, m, m, 0)
		isMod(t, m+1, m, 1)
		isMod(t, 2*m-1, m, m-1)
		isMod(t, 2*m, m, 0)
		isMod(t, -1, m, m-1)
		isMod(t, 1-m, m, 1)
		isMod(t, -m, m, 0)
		isMod(t, -m-1, m, m-1)
		isMod(t, -2*m, m, 0)
	}
}

// Any ints, held against what is left where there is no greatest one.
func TestModOfAnyInts(t *testing.T) { // P22.2, rules 1 and 5
	one := func(place, m int) {
		t.Helper()
		want := 0
		if m > 0 {
			want = leftOf(place, m)
		}
		isMod(t, place, m, want)
	}
	for _, place := range ints() {
		for _, m := range ints() {
			one(place, m)
		}
	}
	next := drawn(1)
	for range 20000 {
		one(next(), next())
		one(next(), next()>>32)
		one(next(), next()>>47)
		one(next()>>32, next()>>57)
		one(next()>>50, next()>>50)
	}
}

// One more is one number more, or the first one behind the last one; m more is the same number.
func TestModOfTheNextPlace(t *testing.T) { // P22.2
	next := below(2)
	for _, from := range []int{math.MinInt, -1 << 60, -1 << 32, -70000, -9, 0, 7, 1 << 31, 1<<32 - 9, 1<<60 - 9, math.MaxInt - 200000} {
		for range 200 {
			m := 1 + next(70000)
			place := from + next(1000)
			number := ring.Mod(place, m)
			if number < 0 || number >= m {
				t.Fatal(place, m, number)
			}
			for range 50 {
				place++
				number++
				if number == m {
					number = 0
				}
				isMod(t, place, m, number)
				isMod(t, place+m, m, number)
			}
		}
	}
}

// What is left of what is left is itself.
func TestModTwice(t *testing.T) { // P22.2
	for _, place := range ints() {
		for _, m := range ints() {
			one := ring.Mod(place, m)
			isMod(t, one, m, one)
		}
	}
}

func TestNearWrittenOut(t *testing.T) { // P22.2
	const last = farthest + maxMod - 1 // the last place that there may be
	none := answer{}
	for _, c := range []struct {
		base, span, seq, m int
		want               answer
	}{
		{7, 3, 0, 8, answer{8, true}},
		{7, 1, 0, 8, none},
		{7, 2, 0, 8, answer{8, true}},
		{7, 3, 7, 8, answer{7, true}},
		{7, 1, 7, 8, answer{7, true}},
		{7, 0, 7, 8, none},
		{7, 3, 1, 8, answer{9, true}},
		{7, 3, 2, 8, none},
		{7, 3, 6, 8, none},
		{7, 8, 6, 8, answer{14, true}},
		{7, 7, 6, 8, none},
		{7, 100, 6, 8, answer{14, true}},
		{7, 100, 8, 8, none},
		{7, 100, 15, 8, none},
		{7, 100, -1, 8, none},
		{7, 100, -8, 8, none},
		{0, 1, 0, 1, answer{0, true}},
		{0, 5, 0, 1, answer{0, true}},
		{9, 5, 0, 1, answer{9, true}},
		{9, 5, 1, 1, none},
		{9, 5, -1, 1, none},
		{9, 0, 0, 1, none},
		{0, 1, 0, 5, answer{0, true}},
		{0, 1, 1, 5, none},
		{0, 2, 1, 5, answer{1, true}},
		{0, 5, 4, 5, answer{4, true}},
		{0, 4, 4, 5, none},
		{0, 65536, 65535, 65536, answer{65535, true}},
		{0, 65535, 65535, 65536, none},
		{1, 65536, 0, 65536, answer{65536, true}},
		{1, 65535, 0, 65536, none},
		{5, 65537, 5, 65536, none},
		{5, 65536, 5, 65537, none},
		{5, -1, 5, 65536, none},
		{5, 5, 5, 0, none},
		{5, 5, 0, 0, none},
		{5, 5, 0, -1, none},
		{5, 5, 5, -8, none},
		{-1, 5, 7, 8, none},
		{-1, 5, 0, 8, none},
		{-8, 9, 0, 8, none},
		{farthest - 1, 1, 7, 8, answer{farthest - 1, true}},
		{farthest - 1, 2, 0, 8, answer{farthest, true}},
		{farthest - 1, 1, 0, 8, none},
		{farthest, 1, 0, 8, answer{farthest, true}},
		{farthest, 8, 7, 8, answer{farthest + 7, true}},
		{farthest, 65536, 65535, 65536, answer{last, true}},
		{farthest, 65535, 65535, 65536, none},
		{farthest, 65536, 0, 1, answer{farthest, true}},
		{farthest + 1, 1, 1, 8, none},
		{farthest + 1, 8, 0, 8, none},
		{farthest + 1, 65536, 0, 1, none},
		{math.MaxInt, 1, 7, 8, none},
		{math.MaxInt, 9, 0, 8, none},
		{math.MinInt, 1, 0, 8, none},
		{math.MinInt, 65536, 0, 1, none},
		{3, math.MaxInt, 3, 8, none},
		{3, math.MinInt, 3, 8, none},
		{3, 5, 3, math.MaxInt, none},
		{3, 5, 3, math.MinInt, none},
		{3, 5, math.MaxInt, 8, none},
		{3, 5, math.MinInt, 8, none},
	} {
		isNear(t, c.base, c.span, c.seq, c.m, c.want)
	}
}

// All that is small.
func TestNearOfSmallNumbers(t *testing.T) { // P22.2
	for m := 1; m <= 9; m++ {
		for base := range 21 {
			for span := range 22 {
				for seq := -10; seq <= 20; seq++ {
					isNear(t, base, span, seq, m, nearBy(base, span, seq, m))
				}
			}
		}
	}
}

// someBases are places from which on one may look, at the edges and between.
var someBases = []int{0, 1, 2, 7, 63, 64, 255, 256, 257, 4095, 65534, 65535, 65536, 65537, 1<<31 - 2, 1<<31 - 1, 1 << 31, 1<<32 - 5, 1<<32 - 1, 1 << 32, 1<<32 + 1, 1 << 40, 1<<53 - 1, 1<<53 + 1, 1<<59 + 12345, farthest - 65536, farthest - 2, farthest - 1, farthest}

// Each number from each of these places: just as far as it is ahead one needs to look, and the place is no other one with a longer look.
func TestNearEachNumber(t *testing.T) { // P22.2
	for _, m := range []int{1, 2, 3, 5, 8, 9, 64, 257, 1000} {
		for _, base := range someBases {
			for i := range m {
				place := base + i
				seq := leftOf(place, m)
				isNear(t, base, i, seq, m, answer{})
				for _, span := range []int{i + 1, i + 2, m, m + 1, i + m, i + m + 1, 2*m + 3, 65535, 65536} {
					if span > i {
						isNear(t, base, span, seq, m, answer{place, true})
					}
				}
			}
		}
	}
}

// Spans at the edges, of numbers at the edges.
func TestNearAtTheEdges(t *testing.T) { // P22.2
	next := below(4)
	for _, m := range []int{1, 2, 3, 255, 256, 257, 4096, 8321, 32768, 65534, 65535, 65536} {
		for _, base := range someBases {
			first := leftOf(base, m)
			seqs := []int{0, 1, m - 2, m - 1, m, m + 1, -1, -m, first - 1, first, first + 1, first - m, first + m, next(m), next(m)}
			for _, seq := range seqs {
				for _, span := range []int{0, 1, 2, m - 1, m, m + 1, 65535, 65536} {
					if span <= maxMod {
						isNear(t, base, span, seq, m, nearBy(base, span, seq, m))
					}
				}
			}
		}
	}
}

// The last place that the span reaches, and the one behind it.
func TestNearTheLastPlace(t *testing.T) { // P22.2
	for _, m := range []int{2, 3, 8, 65, 256, 5000, 65535, 65536} {
		for _, base := range someBases {
			for _, span := range []int{1, 2, 3, 64, 65, m - 1, m} {
				if span < 1 || span > m {
					continue
				}
				last := base + span - 1
				isNear(t, base, span, leftOf(last, m), m, answer{last, true})
				if span < m {
					isNear(t, base, span, leftOf(last+1, m), m, answer{})
				}
				isNear(t, base, span-1, leftOf(last, m), m, answer{})
				isNear(t, base, span, leftOf(base, m), m, answer{base, true})
				if base > 0 && span < m {
					isNear(t, base, span, leftOf(base-1, m), m, answer{})
				}
			}
		}
	}
}

// Of several places with that number it is the first one.
func TestNearTheFirstOfSeveral(t *testing.T) { // P22.2
	for _, m := range []int{1, 2, 3, 7, 8, 100} {
		for _, base := range someBases {
			for turns := 2; turns < 6; turns++ {
				for i := range m {
					isNear(t, base, turns*m, leftOf(base+i, m), m, answer{base + i, true})
				}
			}
			isNear(t, base, maxMod, leftOf(base, m), m, answer{base, true})
			isNear(t, base, maxMod, leftOf(base+m-1, m), m, answer{base + m - 1, true})
		}
	}
}

// A number that no place has is none's, whatever place has it if it is cut short, or what is left of it is taken.
func TestNearOfNoSuchNumber(t *testing.T) { // P22.2, rules 2 and 5
	for _, m := range []int{1, 2, 3, 8, 64, 255, 256, 257, 65535, 65536} {
		var seqs []int
		for _, seq := range append(ints(), m, m+1, 2*m-1, 2*m, -m, 1-m, 1<<32+m-1, 1<<32, math.MinInt+m) {
			if seq < 0 || seq >= m {
				seqs = append(seqs, seq)
			}
		}
		for _, base := range []int{0, 5, 65535, 1<<32 + 3, farthest} {
			for _, seq := range seqs {
				for _, span := range []int{0, 1, m, maxMod} {
					isNear(t, base, span, seq, m, answer{})
				}
			}
		}
	}
}

// One of them may not be, and it is none, though what is left of it would be near.
func TestNearOfWhatMayNotBe(t *testing.T) { // P22.2, rules 1, 2 and 5
	for _, base := range ints() {
		if base < 0 || base > farthest {
			for _, m := range []int{1, 2, 8, 65536} {
				for seq := range min(m, 10) {
					for _, span := range []int{0, 1, 2, 8, 9, 65536} {
						isNear(t, base, span, seq, m, answer{})
					}
				}
				isNear(t, base, 65536, leftOf(base, m), m, answer{})
				isNear(t, base, 1, leftOf(base, m), m, answer{})
			}
		}
	}
	for _, span := range ints() {
		if span < 0 || span > maxMod {
			for _, base := range someBases {
				for _, m := range []int{1, 2, 8, 65536} {
					isNear(t, base, span, leftOf(base, m), m, answer{})
					isNear(t, base, span, leftOf(base+1, m), m, answer{})
				}
			}
		}
	}
	for _, m := range ints() {
		if m < 1 || m > maxMod {
			for _, base := range someBases {
				for _, span := range []int{0, 1, 2, 65536} {
					for _, seq := range []int{0, 1, -1, base, ring.Mod(base, m), base % 65536, m} {
						isNear(t, base, span, seq, m, answer{})
					}
				}
			}
		}
	}
}

// The bounds themselves, one at a time: at them it is told, beyond them not.
func TestNearAboutItsBounds(t *testing.T) { // P22.2
	for i := range 5 {
		isNear(t, i, 1, i, 8, answer{i, true})
		isNear(t, -i-1, 1, 7-i, 8, answer{})
		isNear(t, -i-1, maxMod, 0, 8, answer{})
		isNear(t, farthest-i, 1, leftOf(-i, 8), 8, answer{farthest - i, true})
		isNear(t, farthest+1+i, 1, leftOf(1+i, 8), 8, answer{})
		isNear(t, 9, maxMod-i, 1, 8, answer{9, true})
		isNear(t, 9, maxMod+1+i, 1, 8, answer{})
		isNear(t, 9, -1-i, 1, 8, answer{})
		isNear(t, 9, 1, 9, maxMod-i, answer{9, true})
		isNear(t, 9, 1, 9, maxMod+1+i, answer{})
		isNear(t, 9, 1, 0, 1+i-5, answer{})
		isNear(t, 9, 5, 0, 1+i, nearBy(9, 5, 0, 1+i))
	}
	for m := 1; m <= 5; m++ {
		if got := near(9, 5, 0, m); !got.ok {
			t.Fatal(m, got)
		}
	}
}

// Any ints at all: it ends, and where they may be it is what a count tells.
func TestNearOfAnyInts(t *testing.T) { // P22.2, rules 1, 2 and 5
	edges := []int{math.MinInt, math.MinInt + 1, -1 << 32, -65536, -1, 0, 1, 2, 7, 65535, 65536, 65537, 1<<32 + 1, farthest - 1, farthest, farthest + 1, math.MaxInt - 1, math.MaxInt}
	one := func(base, span, seq, m int) {
		t.Helper()
		var want answer
		if base >= 0 && base <= farthest && span >= 0 && span <= maxMod && m >= 1 && m <= maxMod {
			want = nearBy(base, span, seq, m)
		}
		isNear(t, base, span, seq, m, want)
	}
	for _, base := range edges {
		for _, span := range edges {
			for _, seq := range edges {
				for _, m := range edges {
					one(base, span, seq, m)
				}
			}
		}
	}
	next := drawn(6)
	for range 3000 {
		one(next(), next(), next(), next())
		one(next()>>2, next()>>54, next()>>56, next()>>55)
		one(next()>>3, next()>>52, next()>>47, next()>>47)
		one(next()>>40, next()>>47, next()>>50, next()>>50)
	}
}

// What is near is at most span - 1 behind base, has that number, and no place between them has.
func TestNearIsWhatItSays(t *testing.T) { // P22.2
	next := below(8)
	found := 0
	for range 3000 {
		m := 1 + next(1+next(300))
		base, span, seq := next(1+next(farthest)), next(1+next(400)), next(m)
		got := near(base, span, seq, m)
		if !got.ok {
			for i := range span {
				if ring.Mod(base+i, m) == seq {
					t.Fatal(base, span, seq, m, base+i)
				}
			}
			continue
		}
		found++
		if got.place < base || got.place >= base+span || ring.Mod(got.place, m) != seq || got.place-base != ring.Ahead(base, seq, m) {
			t.Fatal(base, span, seq, m, got)
		}
	}
	if found < 500 || found > 2900 {
		t.Fatal(found)
	}
}

func TestAheadWrittenOut(t *testing.T) { // P22.2
	for _, c := range []struct{ from, to, m, want int }{
		{7, 1, 8, 2}, {1, 7, 8, 6}, {7, 7, 8, 0}, {7, 8, 8, 1}, {8, 7, 8, 7}, {7, 15, 8, 0}, {15, 7, 8, 0}, {7, 16, 8, 1}, {16, 7, 8, 7},
		{0, 0, 1, 0}, {0, 1, 1, 0}, {5, 3, 1, 0}, {-5, 3, 1, 0}, {math.MinInt, math.MaxInt, 1, 0},
		{0, 1, 2, 1}, {1, 0, 2, 1}, {0, 2, 2, 0}, {3, 0, 2, 1},
		{-1, 0, 8, 1}, {0, -1, 8, 7}, {-1, -1, 8, 0}, {-9, -1, 8, 0}, {-1, -2, 8, 7}, {-2, -1, 8, 1}, {-3, 3, 5, 1}, {3, -3, 5, 4}, {-1, 1, 65536, 2},
		{0, 65535, 65536, 65535}, {65535, 0, 65536, 1}, {65536, 0, 65536, 0}, {1, 0, 65536, 65535},
		{math.MinInt, math.MaxInt, 8, 7}, {math.MaxInt, math.MinInt, 8, 1}, {math.MinInt, math.MaxInt, 3, 0}, {math.MaxInt, math.MinInt, 3, 0}, {math.MinInt, math.MaxInt, 10, 5}, {math.MaxInt, math.MinInt, 10, 5},
		{math.MinInt, math.MinInt, 7, 0}, {math.MaxInt, math.MaxInt, 7, 0}, {math.MinInt, math.MinInt + 1, 7, 1}, {math.MaxInt, math.MaxInt - 1, 7, 6},
		{0, math.MaxInt, 7, 0}, {math.MaxInt, 0, 7, 0}, {0, math.MinInt, 7, 6}, {math.MinInt, 0, 7, 1}, {-1, math.MaxInt, 10, 8}, {1, math.MinInt, 10, 1},
		{0, math.MaxInt, math.MaxInt, 0}, {1, 0, math.MaxInt, math.MaxInt - 1}, {0, -1, math.MaxInt, math.MaxInt - 1}, {-1, 0, math.MaxInt, 1}, {0, math.MaxInt - 1, math.MaxInt, math.MaxInt - 1}, {math.MaxInt - 1, 0, math.MaxInt, 1},
		{math.MinInt, math.MaxInt, math.MaxInt, 1}, {math.MaxInt, math.MinInt, math.MaxInt, math.MaxInt - 1}, {-2, math.MaxInt - 1, math.MaxInt, 1},
		{0, 5, 0, 0}, {5, 0, 0, 0}, {0, 5, -1, 0}, {0, 5, -8, 0}, {5, 0, -8, 0}, {0, 5, math.MinInt, 0}, {math.MinInt, 5, math.MinInt, 0}, {math.MaxInt, math.MinInt, 0, 0}, {math.MaxInt, math.MinInt, -1, 0},
	} {
		isAhead(t, c.from, c.to, c.m, c.want)
	}
}

// One is added to from until its number is to's: all that is small.
func TestAheadOfSmallPlaces(t *testing.T) { // P22.2
	for m := 1; m <= 12; m++ {
		for from := -30; from <= 30; from++ {
			for to := -30; to <= 30; to++ {
				often := 0
				for place := from; leftOf(place, m) != leftOf(to, m); place++ {
					often++
				}
				isAhead(t, from, to, m, often)
			}
		}
	}
}

// Any ints, held against a difference that may be greater than any int.
func TestAheadOfAnyInts(t *testing.T) { // P22.2, rules 1 and 5
	one := func(from, to, m int) {
		t.Helper()
		want := 0
		if m > 0 {
			want = left(new(big.Int).Sub(big.NewInt(int64(to)), big.NewInt(int64(from))), m)
		}
		isAhead(t, from, to, m, want)
	}
	numbers := []int{math.MinInt, math.MinInt + 1, -1 << 32, -65536, -2, -1, 0, 1, 2, 3, 5, 7, 8, 10, 64, 255, 256, 257, 8321, 65535, 65536, 65537, math.MaxInt32, 1 << 32, 1<<32 + 15, 1 << 60, 1<<62 - 1, 1 << 62, 1<<62 + 1, math.MaxInt - 1, math.MaxInt}
	for _, from := range ints() {
		for _, to := range ints() {
			for _, m := range numbers {
				one(from, to, m)
			}
		}
	}
	next := drawn(9)
	for range 10000 {
		one(next(), next(), next())
		one(next(), next(), next()>>40)
		one(next(), next(), next()>>47)
		one(next()>>50, next()>>50, next()>>52)
	}
}

// Ahead there, and ahead back, are all numbers once, or none.
func TestAheadAndBack(t *testing.T) { // P22.2
	next := below(11)
	for _, m := range []int{1, 2, 3, 8, 64, 257, 65536, 1<<40 + 7, math.MaxInt} {
		for _, from := range ints() {
			for range 20 {
				to := next(math.MaxInt) - next(math.MaxInt)
				there, back := ring.Ahead(from, to, m), ring.Ahead(to, from, m)
				if there < 0 || there >= m || back < 0 || back >= m {
					t.Fatal(from, to, m, there, back)
				}
				if there == 0 && back != 0 || there != 0 && back != m-there || (there == 0) != (ring.Mod(from, m) == ring.Mod(to, m)) {
					t.Fatal(from, to, m, there, back)
				}
			}
			isAhead(t, from, from, m, 0)
			isAhead(t, from, ring.Mod(from, m), m, 0)
			isAhead(t, ring.Mod(from, m), from, m, 0)
		}
	}
}

// One ahead, one behind, and as many as there are numbers.
func TestAheadByFew(t *testing.T) { // P22.2
	for _, m := range []int{2, 3, 8, 64, 257, 65535, 65536, 100000, 1 << 40} {
		for _, from := range []int{math.MinInt + 1<<42, -1 << 50, -65537, -65536, -9, -8, -1, 0, 1, 7, 8, 9, 65535, 65536, 1 << 32, farthest, math.MaxInt - 1<<42} {
			isAhead(t, from, from, m, 0)
			isAhead(t, from, from+1, m, 1)
			isAhead(t, from, from-1, m, m-1)
			isAhead(t, from, from+m-1, m, m-1)
			isAhead(t, from, from+m, m, 0)
			isAhead(t, from, from-m, m, 0)
			isAhead(t, from, from+m+1, m, 1)
			isAhead(t, from, from-m-1, m, m-1)
			isAhead(t, from, from+2*m, m, 0)
		}
	}
}

// setting is a window, a number and a life.
type setting struct{ w, m, l int }

// fits is the settings that Check takes, of windows and lives at the edges and between: the least number of each, found by asking, and some greater ones.
func fits(t *testing.T) []setting {
	var all []setting
	for _, l := range []int{1, 2, 3, 4, 5, 7, 8, 15, 31, 62, 63, 64, 65, 66, 100, 128, 255, 500, 1000, 4095, 4096} {
		for _, w := range []int{1, 2, 3, 4, 7, 8, 31, 63, 64} {
			if ring.Check(w, maxMod, l) != fine {
				continue
			}
			least := -2
			for ring.Check(w, least, l) != fine {
				least++
			}
			if least != 2*w+2*l+1 {
				t.Fatal(w, l, least)
			}
			for _, m := range []int{least, least + 1, least + 2, 2 * least, maxMod - 1, maxMod} {
				if ring.Check(w, m, l) != fine {
					t.Fatal(w, m, l)
				}
				all = append(all, setting{w, m, l})
			}
		}
	}
	return all
}

// somePlaces are places that a message may have, small ones, and such as numbers begin anew at.
func somePlaces(s setting) []int {
	places := []int{0, 1, 2, s.w - 1, s.w, s.w + 1, s.l - 1, s.l, s.l + 1, s.w + s.l - 1, s.w + s.l, s.w + s.l + 1, 2*s.w + s.l, s.m - 1, s.m, s.m + 1, 3*s.m - 1, 3 * s.m, 1<<32 - 1, 1 << 32, farthest - 1, farthest}
	return places
}

// Of a place no other place from w + l ahead of it to 2 w + l behind it has its number.
func TestEnough(t *testing.T) { // P22.3
	settings := fits(t)
	if len(settings) < 500 {
		t.Fatal(len(settings))
	}
	for _, s := range settings {
		for _, p := range somePlaces(s) {
			number := ring.Mod(p, s.m)
			for q := max(0, p-s.w-s.l); q <= p+2*s.w+s.l; q++ {
				if q != p && ring.Mod(q, s.m) == number {
					t.Fatalf("%+v: the places %d and %d are both %d", s, p, q, number)
				}
			}
		}
	}
}

// All places of small windows and lives, and all numbers that are enough for them.
func TestEnoughOfSmallNumbers(t *testing.T) { // P22.3
	found := 0
	for l := -1; l <= 7; l++ {
		for w := -1; w <= 8; w++ {
			for m := -1; m <= 40; m++ {
				if ring.Check(w, m, l) != api.OK {
					continue
				}
				found++
				for p := range 2*m + 5 {
					for q := max(0, p-w-l); q <= p+2*w+l; q++ {
						if q != p && ring.Mod(q, m) == ring.Mod(p, m) {
							t.Fatal(w, m, l, p, q)
						}
					}
				}
			}
		}
	}
	// There are 28 such pairs of a window and a life, whose windows are 84 in all, and whose lives are 140; of each pair all of 40 numbers are enough but the first 2 (w + l).
	if found != 28*40-2*(84+140) {
		t.Fatal(found)
	}
}

// What that is good for: by its number a place that may come in is told apart from all others, at the one that takes in w places from the one that it waits for on, and at the one that sent up to w places ahead.
func TestEnoughToTellPlacesApart(t *testing.T) { // P22.2, P22.3
	for _, s := range fits(t) {
		for _, wait := range []int{0, s.w, s.w + s.l, s.m - s.w, s.m, 1<<32 - 1, farthest} {
			for q := max(0, wait-s.w-s.l); q <= wait+s.w; q++ {
				number := ring.Mod(q, s.m)
				want := answer{}
				if q >= wait {
					want = answer{q, true}
				}
				if q < wait+s.w {
					isNear(t, wait, s.w, number, s.m, want)
				}
				isNear(t, wait, s.w+1, number, s.m, want)
			}
		}
	}
}

// run is the answers of many calls, told as texts.
func run(begin int) []string {
	next := drawn(begin)
	var all []string
	for range 300 {
		a, b, c, d := next()>>52, next()>>52, next()>>57, next()>>55
		place, ok := ring.Near(a, b, c, d)
		all = append(all, fmt.Sprint(ring.Check(c, a, b), ring.Mod(a, d), place, ok, ring.Ahead(a, b, d)))
	}
	return all
}

// What is answered hangs on the arguments alone, not on what was asked ahead of it.
func TestTheSameAgain(t *testing.T) { // rule 4
	for begin := range 20 {
		one := run(begin)
		run(begin + 1)
		ring.Near(5, maxMod, -1, maxMod)
		ring.Check(0, 0, 0)
		ring.Mod(-1, 0)
		if two := run(begin); !slices.Equal(one, two) {
			t.Fatal(begin)
		}
	}
	for range 3 {
		checks(t, 1, 5, 1)
		checks(t, 1, 4, 1)
		isNear(t, 7, 3, 0, 8, answer{8, true})
		isNear(t, 7, 1, 0, 8, answer{})
		isMod(t, -1, 8, 7)
		isAhead(t, 7, 1, 8, 2)
	}
}
