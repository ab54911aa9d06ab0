package corr_test

import (
	"kedge/corr"
	"kedge/phase"
	"math"
	"slices"
	"testing"
)

var (
	nan   = math.NaN()
	inf   = math.Inf(1)
	minus = math.Copysign(0, -1)
	tiny  = math.SmallestNonzeroFloat64
	huge  = math.MaxFloat64
)

// four are the points of the kinds 0 to 3.
var four = []complex128{complex(1, 1), complex(-1, 1), complex(-1, -1), complex(1, -1)}

// odd are points of whole numbers, of which some are turned to one another and some have nothing in common.
var odd = []complex128{0, 1, -1, 1i, -1i, 2, 1 + 1i, -1 + 1i, -1 - 1i, 1 - 1i, 2 + 1i, 1 + 2i, 2 - 1i, -3 + 4i, 5, 100 + 100i, -100 + 100i, 100 - 100i, -100 - 100i, 100, -100i, 99 - 7i}

// strange are parts that nothing is said of sums of.
var strange = []float64{0, minus, 0.5, -0.5, tiny, -tiny, 1, 101, 1e18, 1e155, -1e155, huge, -huge, inf, -inf, nan, -nan}

// numbers answers a function that tells numbers that look like noise, the same ones in each run.
func numbers(begin int) func() int {
	x := uint64(begin)
	return func() int {
		x = x*6364136223846793005 + 1442695040888963407
		return int(x >> 33)
	}
}

// rough is n points that look like noise, their parts whole numbers from -far to far.
func rough(begin, n, far int) []complex128 {
	next := numbers(begin)
	l := make([]complex128, n)
	for i := range l {
		l[i] = complex(float64(next()%(2*far+1)-far), float64(next()%(2*far+1)-far))
	}
	return l
}

// kinds is n points of the four kinds that look like noise.
func kinds(begin, n int) []complex128 {
	next := numbers(begin)
	l := make([]complex128, n)
	for i := range l {
		l[i] = four[next()%4]
	}
	return l
}

// rows answers all rows of at most n points of these.
func rows(of []complex128, n int) [][]complex128 {
	all := [][]complex128{nil}
	last := all
	for range n {
		var longer [][]complex128
		for _, l := range last {
			for _, z := range of {
				longer = append(longer, append(slices.Clone(l), z))
			}
		}
		all = append(all, longer...)
		last = longer
	}
	return all
}

// parts is z's parts, as whole numbers.
func parts(z complex128) (int, int) {
	return int(real(z)), int(imag(z))
}

// quarter is z turned by k right angles, by whole numbers.
func quarter(z complex128, k int) complex128 {
	re, im := parts(z)
	for range k {
		re, im = -im, re
	}
	return complex(float64(re), float64(im))
}

// swung is l with each point turned by k right angles, k from 0 on.
func swung(l []complex128, k int) []complex128 {
	out := slices.Clone(l)
	for i, z := range out {
		out[i] = quarter(z, k)
	}
	return out
}

// dot is P8.1's sum, by whole numbers.
func dot(a, b []complex128) complex128 {
	re, im := 0, 0
	for i := 0; i < len(a) && i < len(b); i++ {
		ar, ai := parts(a[i])
		br, bi := parts(b[i])
		re += ar*br + ai*bi
		im += ai*br - ar*bi
	}
	return complex(float64(re), float64(im))
}

// size is P8.1's sum of squares, by whole numbers.
func size(z complex128) int {
	re, im := parts(z)
	return re*re + im*im
}

// find is P8.2, place by place and turn by turn.
func find(l, mark []complex128) (int, int, bool) {
	if len(mark) == 0 {
		return 0, 0, false
	}
	for at := 0; at+len(mark) <= len(l); at++ {
		for turn := range 4 {
			if slices.Equal(l[at:at+len(mark)], swung(mark, turn)) {
				return at, turn, true
			}
		}
	}
	return 0, 0, false
}

// peak is P8.3, by the sizes of all places.
func peak(l, mark []complex128) (int, bool) {
	var all []int
	if len(mark) > 0 {
		for at := 0; at+len(mark) <= len(l); at++ {
			all = append(all, size(dot(l[at:at+len(mark)], mark)))
		}
	}
	if len(all) == 0 {
		return 0, false
	}
	return slices.Index(all, slices.Max(all)), true
}

// finds fails the test if the mark isn't found at this place, by this turn.
func finds(t *testing.T, l, mark []complex128, at, turn int) {
	t.Helper()
	if a, k, ok := corr.Find(l, mark); a != at || k != turn || !ok {
		t.Fatalf("Find(%v, %v) = %d, %d, %t, not %d, %d", l, mark, a, k, ok, at, turn)
	}
}

// misses fails the test if the mark is found, or if anything is told beside false.
func misses(t *testing.T, l, mark []complex128) {
	t.Helper()
	if a, k, ok := corr.Find(l, mark); a != 0 || k != 0 || ok {
		t.Fatalf("Find(%v, %v) = %d, %d, %t", l, mark, a, k, ok)
	}
}

// peaks fails the test if the mark doesn't fit best at this place.
func peaks(t *testing.T, l, mark []complex128, at int) {
	t.Helper()
	if a, ok := corr.Peak(l, mark); a != at || !ok {
		t.Fatalf("Peak(%v, %v) = %d, %t, not %d", l, mark, a, ok, at)
	}
}

// flat fails the test if Peak tells a place, or anything beside false.
func flat(t *testing.T, l, mark []complex128) {
	t.Helper()
	if a, ok := corr.Peak(l, mark); a != 0 || ok {
		t.Fatalf("Peak(%v, %v) = %d, %t", l, mark, a, ok)
	}
}

// sums fails the test if Dot of a and b isn't this sum, or that of b and a isn't it with the second part turned about.
func sums(t *testing.T, a, b []complex128, want complex128) {
	t.Helper()
	if z := corr.Dot(a, b); z != want {
		t.Fatalf("Dot of %d and %d points = %v, not %v", len(a), len(b), z, want)
	}
	if z := corr.Dot(b, a); z != complex(real(want), -imag(want)) {
		t.Fatalf("Dot of %d and %d points = %v, not %v turned about", len(b), len(a), z, want)
	}
}

// sameList tells whether two lists have the same points bit for bit, those that are no numbers among them.
func sameList(a, b []complex128) bool {
	return slices.EqualFunc(a, b, func(y, z complex128) bool {
		return math.Float64bits(real(y)) == math.Float64bits(real(z)) && math.Float64bits(imag(y)) == math.Float64bits(imag(z))
	})
}

// spare answers l with room behind it in which a guard stands, and a function that tells whether l and the guard are as they were.
func spare(l []complex128) ([]complex128, func() bool) {
	whole := slices.Concat([]complex128{7}, l, []complex128{8, 9, 10, 11, 12})
	was := slices.Clone(whole)
	return whole[1 : 1+len(l)], func() bool { return sameList(whole, was) }
}

// overwrite puts other points in all of l's memory, up to its capacity.
func overwrite(l []complex128) {
	l = l[:cap(l)]
	for i := range l {
		l[i] = complex(float64(100+i), -5)
	}
}

func TestExamples(t *testing.T) { // P8.1, P8.2
	sums(t, []complex128{1 + 1i}, []complex128{1 + 1i}, 2)
	finds(t, []complex128{5, 1 + 1i, 1 - 1i}, []complex128{-1 + 1i, 1 + 1i}, 1, 3)
}

func TestDotOfOnePoint(t *testing.T) { // P8.1
	for _, k := range []struct{ a, b, want complex128 }{
		{0, 0, 0}, {1, 1, 1}, {1i, 1i, 1}, {1i, 1, 1i}, {1, 1i, -1i}, {-1i, 1, -1i}, {-1, 1i, 1i},
		{1 + 1i, 1 - 1i, 2i}, {1 - 1i, 1 + 1i, -2i}, {1 + 1i, -1 - 1i, -2}, {1 + 1i, -1 + 1i, -2i},
		{3 + 4i, 3 + 4i, 25}, {3 + 4i, 3 - 4i, -7 + 24i}, {2 + 3i, 5 + 7i, 31 + 1i}, {5 + 7i, 2 + 3i, 31 - 1i}, {3, 4, 12}, {3i, 4i, 12}, {3, 4i, -12i},
		{100 + 100i, 100 + 100i, 20000}, {100 + 100i, 100 - 100i, 20000i}, {-100 - 100i, 100 + 100i, -20000}, {-100 + 100i, 100 + 100i, 20000i},
	} {
		sums(t, []complex128{k.a}, []complex128{k.b}, k.want)
	}
	for _, y := range odd {
		for _, z := range odd {
			sums(t, []complex128{y}, []complex128{z}, dot([]complex128{y}, []complex128{z}))
		}
	}
}

func TestDotOfSeveral(t *testing.T) { // P8.1
	a := []complex128{1 + 2i, -3, 4i, 5 - 6i}
	b := []complex128{2 - 1i, 1 + 1i, -7, 3 + 3i}
	// 5 i, -3 + 3 i, -28 i, -3 - 33 i.
	for n, want := range []complex128{0, 5i, -3 + 8i, -3 - 20i, -6 - 53i} {
		sums(t, a[:n], b[:n], want)
		sums(t, a, b[:n], want)
		sums(t, a[:n], b, want)
	}
}

// Points that stand at no place of the other one's do not count, whichever is the longer one.
func TestDotOfTwoLengths(t *testing.T) { // P8.1
	for n := range 25 {
		for m := range 25 {
			a, b := rough(n+1, n, 100), rough(m+99, m, 100)
			sums(t, a, b, dot(a, b))
			short := min(n, m)
			sums(t, a[:short], b[:short], dot(a, b))
		}
	}
	long, short := rough(1, 400, 100), rough(2, 1, 100)
	sums(t, long, short, dot(long[:1], short))
	sums(t, append([]complex128{1}, slices.Repeat([]complex128{100}, 399)...), []complex128{1i}, -1i)
}

func TestDotOfNoPoints(t *testing.T) { // P8.1
	for _, none := range [][]complex128{nil, {}, odd[:0]} {
		sums(t, none, nil, 0)
		sums(t, none, []complex128{}, 0)
		sums(t, none, odd, 0)
		sums(t, none, []complex128{3 + 4i}, 0)
		sums(t, none, rough(4, 400, 100), 0)
	}
}

func TestDotOfMostPoints(t *testing.T) { // P8.1
	corners := []complex128{100 + 100i, -100 + 100i, -100 - 100i, 100 - 100i}
	for k, want := range []complex128{8000000, -8000000i, -8000000, 8000000i} {
		for from := range corners {
			sums(t, slices.Repeat(corners[from:from+1], 400), slices.Repeat(corners[(from+k)%4:][:1], 400), want)
		}
	}
	sums(t, slices.Repeat(corners, 100), slices.Repeat(corners, 100), 8000000)
	sums(t, slices.Repeat([]complex128{100}, 400), slices.Repeat([]complex128{100i}, 400), -4000000i)
	for begin := range 200 {
		a, b := rough(begin, 400, 100), rough(begin+1000, 400, 100)
		sums(t, a, b, dot(a, b))
		sums(t, a, b[:399], dot(a[:399], b))
	}
	sums(t, rough(5, 400, 1), rough(6, 400, 1), dot(rough(5, 400, 1), rough(6, 400, 1)))
}

// Each place counts, the first and the last ones, too.
func TestDotOfEachPlace(t *testing.T) { // P8.1
	for _, n := range []int{1, 2, 3, 7, 399, 400} {
		b := rough(n, n, 100)
		for at := range b {
			a := make([]complex128, n)
			a[at] = 3 - 2i
			sums(t, a, b, dot([]complex128{3 - 2i}, b[at:at+1]))
		}
	}
}

func TestDotOfRows(t *testing.T) { // P8.1
	all := rows([]complex128{0, 1, 1i, -2 + 3i}, 3)
	for _, a := range all {
		for _, b := range all {
			sums(t, a, b, dot(a, b))
		}
	}
}

func TestSize(t *testing.T) { // P8.1
	for _, k := range []struct {
		z    complex128
		want float64
	}{
		{0, 0}, {complex(minus, minus), 0}, {1, 1}, {-1, 1}, {1i, 1}, {-1i, 1}, {1 + 1i, 2}, {-1 - 1i, 2}, {3 + 4i, 25}, {-3 + 4i, 25}, {3 - 4i, 25}, {2, 4}, {-2i, 4}, {1 + 2i, 5}, {10, 100},
		{50000000, 2500000000000000}, {-50000000, 2500000000000000}, {50000000i, 2500000000000000}, {-50000000i, 2500000000000000},
		{50000000 + 50000000i, 5000000000000000}, {-50000000 + 50000000i, 5000000000000000}, {50000000 - 50000000i, 5000000000000000}, {-50000000 - 50000000i, 5000000000000000},
		{50000000 + 1i, 2500000000000001}, {1 - 50000000i, 2500000000000001}, {49999999 - 49999999i, 4999999800000002}, {-49999999 + 50000000i, 4999999900000001},
	} {
		if got := corr.Size(k.z); got != k.want {
			t.Fatal(k.z, got, k.want)
		}
	}
	for _, z := range slices.Concat(odd, rough(1, 20000, 50000000), rough(2, 2000, 100), rough(3, 200, 1)) {
		if got := corr.Size(z); got != float64(size(z)) || got < 0 {
			t.Fatal(z, got)
		}
	}
}

func TestSliced(t *testing.T) { // P8.1
	l := []complex128{0, 5 + 0.1i, -2 + 3i, -0.1 - 9i, 7 - 1i, 1i, -1, 1 + 1i}
	want := []complex128{1 + 1i, 1 + 1i, -1 + 1i, -1 - 1i, 1 - 1i, 1 + 1i, -1 + 1i, 1 + 1i}
	for n := range l {
		if got := corr.Sliced(l[:n]); !slices.Equal(got, want[:n]) {
			t.Fatal(got)
		}
	}
	for _, x := range strange {
		for _, y := range strange {
			z := complex(x, y)
			if got := corr.Sliced([]complex128{-z, z}); !slices.Equal(got, []complex128{phase.Slice(-z), phase.Slice(z)}) {
				t.Fatal(z, got)
			}
		}
	}
	many := rough(8, 40000, 3)
	got := corr.Sliced(many)
	if len(got) != len(many) {
		t.Fatal(len(got))
	}
	for i, z := range many {
		if got[i] != phase.Slice(z) {
			t.Fatal(i, z, got[i])
		}
	}
	if len(corr.Sliced(nil)) != 0 || len(corr.Sliced([]complex128{})) != 0 {
		t.Fatal("no points")
	}
	if !slices.Equal(corr.Sliced(kinds(9, 100)), kinds(9, 100)) {
		t.Fatal("the four kinds")
	}
}

func TestFindAtEachPlace(t *testing.T) { // P8.2
	for _, mark := range [][]complex128{{1 + 1i}, {2 + 1i}, {5}, {1 + 1i, -1 + 1i}, {0, 3}, {3, 0}, {1, 2i, -3}, {0, 0, 1}, {1 - 1i, 1 - 1i, -1 - 1i, 1 + 1i, 1 - 1i}, {0.5 + 0.25i, complex(tiny, -0.1)}} {
		for turn := range 4 {
			for ahead := range 6 {
				for behind := range 6 {
					seen := phase.Turn(mark, turn)
					l := slices.Concat(slices.Repeat([]complex128{9 + 8i}, ahead), seen, slices.Repeat([]complex128{9 + 8i}, behind))
					finds(t, l, mark, ahead, turn)
					misses(t, l[:ahead+len(mark)-1], mark)
					misses(t, l[ahead+1:], mark)
				}
			}
		}
	}
}

func TestFindTheFirstOfSeveral(t *testing.T) { // P8.2
	mark := []complex128{1 + 1i, -1 + 1i, 4}
	for first := range 4 {
		for second := range 4 {
			for between := range 3 {
				l := slices.Concat([]complex128{7}, swung(mark, first), slices.Repeat([]complex128{7}, between), swung(mark, second), []complex128{7})
				finds(t, l, mark, 1, first)
				finds(t, l[2:], mark, 2+between, second)
			}
		}
	}
	// A mark that begins where another one has not ended yet.
	finds(t, []complex128{2, 1, 1, 1, 2}, []complex128{1, 1, 2}, 2, 0)
	finds(t, []complex128{1, 2, 1, 2, 1}, []complex128{2, 1}, 1, 0)
	finds(t, []complex128{1, 1i, -1, -1i, 1}, []complex128{1, 1i}, 0, 0)
	finds(t, []complex128{1, 1i, -1, -1i, 1}, []complex128{-1i, 1}, 0, 1)
}

// The place counts ahead of the turn: a mark that stands turned ahead is told, not one behind that is not turned.
func TestFindTellsPlacesAheadOfTurns(t *testing.T) { // P8.2
	mark := []complex128{3, 2 + 1i}
	for turn := range 4 {
		l := slices.Concat(swung(mark, turn), mark, swung(mark, 3-turn))
		finds(t, l, mark, 0, turn)
	}
}

// Where two turns do, the lesser one is told: 0 looks the same from all sides.
func TestFindByTheLeastTurn(t *testing.T) { // P8.2
	for n := 1; n < 6; n++ {
		for ahead := range 4 {
			zeros := make([]complex128, n)
			finds(t, slices.Concat(slices.Repeat([]complex128{4}, ahead), zeros, []complex128{0, 0}), zeros, ahead, 0)
			finds(t, slices.Repeat([]complex128{complex(minus, minus)}, n), zeros, 0, 0)
			finds(t, zeros, slices.Repeat([]complex128{complex(0, minus)}, n), 0, 0)
		}
	}
	for turn := range 4 {
		mark := []complex128{0, 0, 1 - 1i, 0}
		finds(t, slices.Concat([]complex128{2, 0}, swung(mark, turn)), mark, 2, turn)
	}
	finds(t, []complex128{complex(minus, 1)}, []complex128{1}, 0, 1)
	finds(t, []complex128{complex(-1, minus)}, []complex128{1}, 0, 2)
}

// All of the mark is turned by one turn, not each point by one of its own.
func TestFindByOneTurn(t *testing.T) { // P8.2
	misses(t, []complex128{1 + 1i, 1 + 1i}, []complex128{1 + 1i, -1 + 1i})
	misses(t, []complex128{1, 1, 1i}, []complex128{1, 1, 1})
	misses(t, []complex128{1i, 1, 1}, []complex128{1, 1, 1})
	misses(t, []complex128{1, -1, 1}, []complex128{1, 1, 1})
	// Nor are points taken that stand as far from 0, or are seen in a mirror.
	misses(t, []complex128{3 + 4i, 4 + 3i, 5}, []complex128{3 - 4i, 5i})
	misses(t, []complex128{1 + 2i}, []complex128{2 + 1i})
	misses(t, []complex128{2 + 2i}, []complex128{1 + 1i})
	misses(t, []complex128{1, -1i}, []complex128{1, 1i})
}

func TestFindOfNoPoints(t *testing.T) { // P8.2
	for _, none := range [][]complex128{nil, {}, odd[:0]} {
		misses(t, none, nil)
		misses(t, nil, none)
		misses(t, none, none)
		for _, z := range odd {
			misses(t, none, []complex128{z})
			misses(t, []complex128{z}, none)
			misses(t, []complex128{z, 1, z}, none)
		}
		misses(t, none, kinds(1, 400))
		misses(t, kinds(1, 400), none)
		misses(t, make([]complex128, 9), none)
		misses(t, none, make([]complex128, 9))
	}
}

func TestFindOfAMarkAsLongOrLonger(t *testing.T) { // P8.2
	for n := 1; n < 30; n++ {
		mark := rough(n, n, 5)
		mark[0] = 5 - 3i
		for turn := range 4 {
			l := swung(mark, turn)
			finds(t, l, mark, 0, turn)
			misses(t, l[1:], mark)
			misses(t, l[:n-1], mark)
			misses(t, l, append(slices.Clone(mark), 0))
			misses(t, l, slices.Concat([]complex128{0}, mark))
			misses(t, l, slices.Concat(mark, mark))
			l[n-1]++
			misses(t, l, mark)
		}
	}
}

// A mark of which all points but the last one stand somewhere ahead, or all but the first one, or the first ones at the end.
func TestFindOfParts(t *testing.T) { // P8.2
	for n := 2; n < 12; n++ {
		mark := kinds(n, n)
		mark[0] = 3
		for turn := range 4 {
			seen := swung(mark, turn)
			begun := seen[:n-1]
			misses(t, slices.Concat(begun, []complex128{7}), mark)
			misses(t, slices.Concat([]complex128{7}, begun), mark)
			misses(t, slices.Concat([]complex128{7}, seen[1:]), mark)
			finds(t, slices.Concat(begun, []complex128{7}, seen, begun), mark, n, turn)
			finds(t, slices.Concat(begun, seen), mark, n-1, turn)
			finds(t, slices.Concat(seen[1:], swung(begun, 1), seen), mark, 2*n-2, turn)
		}
	}
	ones := slices.Repeat([]complex128{1}, 8)
	for ahead := range 9 {
		for n := range 8 {
			mark := append(slices.Clone(ones[:n]), 2)
			l := slices.Concat(ones[:ahead], []complex128{2, 1, 1})
			if n <= ahead {
				finds(t, l, mark, ahead-n, 0)
			} else {
				misses(t, l, mark)
			}
		}
	}
}

func TestFindWhatIsNotThere(t *testing.T) { // P8.2
	for _, z := range odd {
		for _, y := range odd {
			at, turn, ok := find([]complex128{z}, []complex128{y})
			if !ok {
				misses(t, []complex128{z, z, z}, []complex128{y})
			} else {
				finds(t, []complex128{z, z, z}, []complex128{y}, at, turn)
			}
		}
	}
	misses(t, odd, []complex128{1, 1})
	misses(t, kinds(1, 4096), []complex128{1 + 1i, 1})
	misses(t, kinds(1, 4096), kinds(2, 400))
	near := []complex128{complex(1, math.Nextafter(1, 2)), complex(math.Nextafter(1, 0), 1)}
	misses(t, near, four[:1])
	misses(t, four, near[:1])
}

func TestFindInRows(t *testing.T) { // P8.2
	all := rows([]complex128{0, 1, 1i, 1 + 1i}, 5)
	for _, mark := range rows([]complex128{0, 1, -1i, -1 + 1i}, 3) {
		for _, l := range all {
			at, turn, ok := find(l, mark)
			if a, k, o := corr.Find(l, mark); a != at || k != turn || o != ok {
				t.Fatal(l, mark, a, k, o)
			}
		}
	}
}

func TestFindInNoise(t *testing.T) { // P8.2
	next := numbers(4)
	for begin := range 4000 {
		l := kinds(begin, next()%60)
		mark := kinds(begin+5000, next()%6)
		if begin%3 == 0 && len(l) > 0 {
			from := next() % len(l)
			mark = swung(l[from:from+next()%(len(l)-from+1)], next()%4)
		}
		at, turn, ok := find(l, mark)
		if a, k, o := corr.Find(l, mark); a != at || k != turn || o != ok {
			t.Fatal(l, mark, a, k, o)
		}
	}
}

// What is no number is nobody's point; what is infinite is.
func TestFindOfStrangePoints(t *testing.T) { // P8.2, rule 1
	misses(t, []complex128{complex(nan, 1)}, []complex128{complex(nan, 1)})
	misses(t, []complex128{1, complex(0, nan), 1}, []complex128{1, complex(0, nan)})
	finds(t, []complex128{complex(nan, nan), 1i}, []complex128{1}, 1, 1)
	finds(t, []complex128{complex(-inf, 1)}, []complex128{complex(1, inf)}, 0, 1)
	finds(t, []complex128{complex(huge, tiny)}, []complex128{complex(-tiny, huge)}, 0, 3)
	for _, x := range strange {
		for _, y := range strange {
			l := []complex128{complex(x, y), complex(y, x), complex(x, y)}
			if _, _, ok := corr.Find(l, l); ok != (x == x && y == y) {
				t.Fatal(l)
			}
			corr.Find(l, l[1:])
			corr.Find(l[:1], l[2:])
		}
	}
}

func TestFindInMany(t *testing.T) { // P8.2
	for _, n := range []int{4095, 4096, 16384, 16385, 40000} {
		l := kinds(n, n)
		for _, at := range []int{0, 1, n / 2, n - 17, n - 16} {
			for turn := range 4 {
				mark := slices.Clone(l[at : at+16])
				mark[15] = 9
				all := slices.Clone(l)
				copy(all[at:], swung(mark, turn))
				finds(t, all, mark, at, turn)
				misses(t, l, mark)
			}
		}
	}
	ones := slices.Repeat([]complex128{1}, 16384)
	mark := append(slices.Clone(ones[:2000]), 2)
	misses(t, ones, mark)
	finds(t, append(ones, 2), mark, 16384-2000, 0)
}

func TestPeakAtEachPlace(t *testing.T) { // P8.3
	for _, mark := range [][]complex128{{1 + 1i}, {2 - 1i}, {1 + 1i, -1 + 1i, 1 - 1i}, {5, 0, 3i}, {0, 1}, {1 - 1i, 1 - 1i, -1 - 1i, 1 + 1i, 1 - 1i}} {
		for turn := range 4 {
			for ahead := range 6 {
				for behind := range 6 {
					l := slices.Concat(make([]complex128, ahead), swung(mark, turn), make([]complex128, behind))
					peaks(t, l, mark, ahead)
				}
			}
		}
	}
	for begin := range 100 {
		mark := kinds(begin, 20)
		for _, ahead := range []int{0, 1, 17, 39, 40} {
			l := slices.Concat(rough(begin, ahead, 1), swung(mark, begin%4), rough(begin+7, 40-ahead, 1))
			peaks(t, l, mark, ahead)
		}
	}
}

// Of two places at which it fits alike the first one is told; a place that fits better is told wherever it stands.
func TestPeakOfSeveral(t *testing.T) { // P8.3
	mark := []complex128{1 + 1i, -1 + 1i, 1 + 1i}
	for first := range 4 {
		for second := range 4 {
			for between := range 4 {
				gap := make([]complex128, between)
				l := slices.Concat([]complex128{0}, swung(mark, first), gap, swung(mark, second), gap)
				place, _ := peak(l, mark)
				peaks(t, l, mark, place)
				apart := slices.Concat([]complex128{0}, swung(mark, first), []complex128{0, 0}, gap, swung(mark, second), gap)
				peaks(t, apart, mark, 1)
				apart[1] *= 2
				peaks(t, apart, mark, 1)
				apart[1] /= 2
				apart[6+between] *= 2
				peaks(t, apart, mark, 6+between)
			}
		}
	}
	one := []complex128{1}
	for _, k := range []struct {
		l  []complex128
		at int
	}{
		{[]complex128{3, 3}, 0}, {[]complex128{3, 4}, 1}, {[]complex128{4, 3}, 0}, {[]complex128{1, 2, 3, 4}, 3}, {[]complex128{4, 3, 2, 1}, 0},
		{[]complex128{1, 3, 2, 3}, 1}, {[]complex128{0, -5, 5, 5i}, 1}, {[]complex128{3 + 4i, 5, -5i, 6}, 3}, {[]complex128{2, 3 + 4i, 5, -5i, 1}, 1},
		{[]complex128{0, 0, 1, 0}, 2}, {[]complex128{0, -1}, 1}, {[]complex128{3 + 3i, 4, 4i}, 0}, {[]complex128{4, 3 + 3i, 4i}, 1}, {[]complex128{3, 1 + 2i}, 0},
		{[]complex128{-2, 1}, 0}, {[]complex128{2, -3}, 1}, {[]complex128{2i, -3i}, 1}, {[]complex128{100, 99 + 15i, 99 + 14i}, 1},
	} {
		peaks(t, k.l, one, k.at)
		peaks(t, k.l, []complex128{-7i}, k.at)
	}
}

// Where nothing fits, all sizes are 0: the first place is told.
func TestPeakWhereNothingFits(t *testing.T) { // P8.3
	for n := 1; n < 9; n++ {
		for m := 1; m <= n; m++ {
			peaks(t, make([]complex128, n), make([]complex128, m), 0)
			peaks(t, make([]complex128, n), kinds(n, m), 0)
			peaks(t, kinds(m, n), make([]complex128, m), 0)
		}
	}
	peaks(t, []complex128{1, 1, 1, 1}, []complex128{1, -1}, 0)
	peaks(t, []complex128{1, 1, 1, 2}, []complex128{1, -1}, 2)
	peaks(t, []complex128{1, 1i, -1, -1i, 1, 1i}, []complex128{1, 1, 1, 1}, 0)
	peaks(t, []complex128{1, 1i, -1, -1i, 1, 1i, 1}, []complex128{1, 1, 1, 1}, 3)
}

// b's second part is turned about: without that, points that are the mark in a mirror would fit.
func TestPeakOfAMirror(t *testing.T) { // P8.3
	mark := []complex128{1, 1i, -1}
	peaks(t, []complex128{1, -1i, -1, 0, 1, 1i, -1}, mark, 4)
	peaks(t, []complex128{1, 1i, -1, 0, 1, -1i, -1}, mark, 0)
}

func TestPeakOfNoPlace(t *testing.T) { // P8.3
	for _, none := range [][]complex128{nil, {}, odd[:0]} {
		flat(t, none, nil)
		flat(t, nil, none)
		for _, z := range odd {
			flat(t, none, []complex128{z})
			flat(t, []complex128{z}, none)
			flat(t, []complex128{z, 1, z}, none)
			flat(t, []complex128{z}, []complex128{z, z})
			peaks(t, []complex128{z}, []complex128{z}, 0)
		}
		flat(t, none, kinds(1, 400))
		flat(t, kinds(1, 400), none)
		flat(t, make([]complex128, 9), none)
	}
	for n := 1; n < 30; n++ {
		l := rough(n, n, 100)
		peaks(t, l, l, 0)
		peaks(t, l, rough(n+1, n, 100), 0)
		flat(t, l[1:], l)
		flat(t, l, append(slices.Clone(l), 0))
		flat(t, l, slices.Concat(l, l))
	}
}

// Points at the end at which not all of the mark has room are no place, however well its beginning fits there.
func TestPeakOfParts(t *testing.T) { // P8.3
	mark := []complex128{1, 2, 1}
	peaks(t, []complex128{1, 2, 1, 50}, mark, 1)
	peaks(t, []complex128{1, 2, 1, 0, 50}, mark, 2)
	peaks(t, []complex128{1, 2, 1, 0, 0, 2, 3}, mark, 4)
	peaks(t, []complex128{1, 2, 1, 0, 0, 0, 90}, []complex128{100, 1, 1}, 1)
	peaks(t, []complex128{1, 0, 0, 1, 0, 100}, []complex128{1, 1, 0}, 0)
	for n := 2; n < 12; n++ {
		begun := slices.Repeat([]complex128{1}, n)
		l := slices.Concat(begun, []complex128{0}, begun[1:])
		peaks(t, l, begun, 0)
		peaks(t, slices.Concat(begun[1:], []complex128{0}, begun), begun, n)
		peaks(t, slices.Concat([]complex128{0}, begun[1:]), begun, 0)
	}
}

func TestPeakInRows(t *testing.T) { // P8.3
	all := rows([]complex128{0, 1, 1i, 2 - 1i}, 5)
	for _, mark := range rows([]complex128{0, 1, -1 + 1i, 3i}, 3) {
		for _, l := range all {
			at, ok := peak(l, mark)
			if a, o := corr.Peak(l, mark); a != at || o != ok {
				t.Fatal(l, mark, a, o)
			}
		}
	}
}

func TestPeakInNoise(t *testing.T) { // P8.3
	next := numbers(6)
	for begin := range 4000 {
		l := rough(begin, next()%60, 1+next()%4)
		mark := rough(begin+5000, next()%8, 1+next()%4)
		at, ok := peak(l, mark)
		if a, o := corr.Peak(l, mark); a != at || o != ok {
			t.Fatal(l, mark, a, o)
		}
	}
	for begin := range 20 {
		l, mark := rough(begin, 450, 100), rough(begin+90, 400, 100)
		at, _ := peak(l, mark)
		peaks(t, l, mark, at)
	}
}

func TestPeakInMany(t *testing.T) { // P8.3
	for _, n := range []int{4095, 4096, 16384, 40000} {
		for _, at := range []int{0, 1, n / 2, n - 65, n - 64} {
			l := kinds(n, n)
			mark := kinds(7, 64)
			copy(l[at:], swung(mark, at%4))
			peaks(t, l, mark, at)
			finds(t, l, mark, at, at%4)
		}
	}
}

// Nothing is said of sums of such points, but that each call ends, and that there is a place where there is room for one.
func TestSumsOfStrangePoints(t *testing.T) { // rule 1
	var all []complex128
	for _, x := range strange {
		for _, y := range strange {
			all = append(all, complex(x, y))
		}
	}
	for i := range all {
		corr.Size(all[i])
		corr.Dot(all, all[i:])
		corr.Dot(all[i:], all)
		corr.Sliced(all[i:])
		if at, ok := corr.Peak(all, all[i:]); !ok || at < 0 || at > i {
			t.Fatal(i, at, ok)
		}
		if at, ok := corr.Peak(all[i:i+1], all[i:i+1]); !ok || at != 0 {
			t.Fatal(i, at, ok)
		}
		if at, ok := corr.Peak(all, all[i:i+1]); !ok || at < 0 || at >= len(all) {
			t.Fatal(i, at, ok)
		}
	}
}

// Where a mark of n points of the four kinds is found, the size is 4 n n; nowhere else is it greater.
func TestSizeWhereFound(t *testing.T) { // P8.4
	for _, n := range []int{1, 2, 3, 4, 5, 16, 17, 64, 100, 257, 399, 400} {
		want := float64(4 * n * n)
		mark := kinds(n, n)
		for turn := range 4 {
			l := slices.Concat(kinds(n+1, 30), swung(mark, turn), kinds(n+2, 30))
			at, k, ok := corr.Find(l, mark)
			if !ok || at > 30 || at == 30 && k != turn || corr.Size(corr.Dot(l[at:], mark)) != want || corr.Size(corr.Dot(l[30:], mark)) != want {
				t.Fatal(n, turn, at, k, ok)
			}
			for from := range len(l) {
				if corr.Size(corr.Dot(l[from:], mark)) > want {
					t.Fatal(n, turn, from)
				}
			}
			peaks(t, l, mark, at)
		}
	}
	mark := slices.Repeat(four[:1], 400)
	if corr.Dot(mark, mark) != 800 || corr.Size(corr.Dot(mark, mark)) != 640000 {
		t.Fatal("400 points alike")
	}
}

// Of points of the four kinds those that are the mark, turned, and no others, have the greatest size.
func TestNoneIsGreater(t *testing.T) { // P8.4
	all := rows(four, 4)
	for _, mark := range all[1:] {
		for _, l := range all[1:] {
			if len(l) != len(mark) {
				continue
			}
			_, _, ok := corr.Find(l, mark)
			most := float64(4 * len(mark) * len(mark))
			if got := corr.Size(corr.Dot(l, mark)); ok != (got == most) || got > most {
				t.Fatal(l, mark, got, ok)
			}
		}
	}
}

// sameFromAllSides fails the test if the mark isn't found at one place by whoever looks from whichever side.
func sameFromAllSides(t *testing.T, l, mark []complex128) {
	t.Helper()
	at, turn, ok := corr.Find(l, mark)
	best, some := corr.Peak(l, mark)
	for k := range 9 {
		seen := phase.Turn(l, k-4)
		a, found, o := corr.Find(seen, mark)
		if a != at || o != ok || ok && slices.ContainsFunc(mark, func(z complex128) bool { return z != 0 }) && found != (turn+k)%4 {
			t.Fatal(l, mark, k, a, found, o)
		}
		if p, o := corr.Peak(seen, mark); p != best || o != some {
			t.Fatal(l, mark, k, p, o)
		}
		other := phase.Turn(mark, k-4)
		if a, _, o := corr.Find(l, other); a != at || o != ok {
			t.Fatal(l, other, k, a, o)
		}
		if p, o := corr.Peak(l, other); p != best || o != some {
			t.Fatal(l, other, k, p, o)
		}
	}
}

func TestFromAnotherSide(t *testing.T) { // P8.4
	next := numbers(8)
	for begin := range 300 {
		mark := kinds(begin, 1+next()%8)
		sameFromAllSides(t, slices.Concat(kinds(begin+1, next()%20), mark, kinds(begin+2, next()%20)), mark)
		sameFromAllSides(t, kinds(begin+3, next()%40), mark)
		loud := rough(begin, 1+next()%5, 3)
		sameFromAllSides(t, slices.Concat(rough(begin+1, next()%20, 3), loud, rough(begin+2, next()%20, 3)), loud)
	}
	sameFromAllSides(t, []complex128{1, 0, 0, 2}, []complex128{0, 0})
	sameFromAllSides(t, nil, four)
	sameFromAllSides(t, four, nil)
}

// What becomes of bytes is found by the points of the first ones of them, from each side.
func TestMarkOfBytes(t *testing.T) { // P8.2, P8.4
	mark := phase.Points([]byte{0x1a, 0xcf, 0xfc, 0x1d})
	sent := phase.Points([]byte{0x1a, 0xcf, 0xfc, 0x1d, 1, 2, 3})
	for turn := range 4 {
		l := slices.Concat([]complex128{0, 5i, 1 + 1i}, phase.Turn(sent, turn))
		finds(t, l, mark, 3, turn)
		peaks(t, l, mark, 3)
		if got := corr.Size(corr.Dot(l[3:], mark)); got != 4*17*17 {
			t.Fatal(got)
		}
	}
}

func TestHandedInStays(t *testing.T) { // rule 3
	for n := range 6 {
		for m := range 6 {
			mark, markKept := spare(rough(m, m, 2))
			l, kept := spare(slices.Concat(rough(n+9, n, 2), mark, rough(n+3, n, 2)))
			corr.Find(l, mark)
			corr.Peak(l, mark)
			corr.Dot(l, mark)
			corr.Dot(mark, l)
			corr.Sliced(l)
			corr.Find(mark, l)
			corr.Peak(mark, l)
			if !kept() || !markKept() {
				t.Fatal(n, m)
			}
			corr.Find(l, l)
			corr.Peak(l, l)
			corr.Dot(l, l)
			if !kept() {
				t.Fatal(n, m)
			}
		}
	}
	l, kept := spare([]complex128{complex(nan, inf), complex(minus, minus), complex(-inf, nan), complex(0, minus)})
	corr.Find(l, l[1:])
	corr.Peak(l, l[1:])
	corr.Dot(l, l[1:])
	corr.Sliced(l)
	if !kept() {
		t.Fatal("strange points")
	}
}

func TestSlicedIsNewMemory(t *testing.T) { // rule 3
	for n := range 9 {
		for _, points := range [][]complex128{kinds(n, n), rough(n, n, 9)} {
			l, kept := spare(points)
			got := corr.Sliced(l)
			want := slices.Clone(got)
			overwrite(corr.Sliced(l))
			if !kept() || !slices.Equal(got, want) {
				t.Fatal(n)
			}
			overwrite(l)
			if !slices.Equal(got, want) {
				t.Fatal(n)
			}
		}
	}
}

// Nothing of one call is kept for the next one, though its points change where they stand.
func TestSameCallsSameAnswers(t *testing.T) { // rules 3 and 4
	l := []complex128{5, 1 + 1i, 1 - 1i, 7}
	mark := []complex128{-1 + 1i, 1 + 1i}
	for range 3 {
		finds(t, l, mark, 1, 3)
		peaks(t, l, mark, 2)
		sums(t, l, mark, -3-5i)
		misses(t, l[:2], mark)
		flat(t, l[:1], mark)
		mark[0], l[2] = 9, 2+2i
		misses(t, l, mark)
		peaks(t, l, mark, 0)
		sums(t, l, mark, 47)
		mark[0], l[2] = -1+1i, 1-1i
	}
}
