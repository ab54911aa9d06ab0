package phase_test

import (
	"bytes"
	"kedge/api"
	"kedge/phase"
	"math"
	"slices"
	"testing"
)

// The numbers that the document names, written out, so that the tests hold whatever api says.
const (
	maxIn    = 4096
	errLong  = api.Errno(2)
	errPoint = api.Errno(70)
	far      = 1 << 40
)

var (
	nan   = math.NaN()
	inf   = math.Inf(1)
	minus = math.Copysign(0, -1)
	tiny  = math.SmallestNonzeroFloat64
	huge  = math.MaxFloat64
)

// four are the points of the kinds 0 to 3.
var four = []complex128{complex(1, 1), complex(-1, 1), complex(-1, -1), complex(1, -1)}

// odd are numbers far and near, and such as become small ones if they are cut short.
var odd = []int{math.MinInt, math.MinInt + 1, math.MinInt + 2, math.MinInt + 3, math.MinInt32 - 1, math.MinInt32, -1 << 40, -1<<32 - 1, -1 << 32, -257, -256, -255, -9, -8, -7, -6, -5, -4, -3, -2, -1, 0, 1, 2, 3, 4, 5, 6, 7, 8, 9, 10, 11, 254, 255, 256, 257, 258, 259, 1 << 16, math.MaxInt32, 1 << 31, 1 << 32, 1<<32 + 1, 1<<32 + 2, 1<<32 + 3, 1 << 40, math.MaxInt - 3, math.MaxInt - 2, math.MaxInt - 1, math.MaxInt}

// wholes are parts that are told.
var wholes = []float64{0, minus, 1, -1, 2, -2, 3, 255, 256, -256, 65535, math.MaxInt32, math.MinInt32, 1 << 31, 1 << 32, -1 << 32, 1<<32 + 1, far - 1, far, 1 - far, -far}

// others are parts that are not told: no whole numbers, too far from 0, infinite ones, and none.
var others = []float64{
	0.5, -0.5, 1.5, -1.5, 0.25, 0.999999, 1.000001, tiny, -tiny, 1e-300, 255.5, far - 0.5, 0.5 - far,
	math.Nextafter(1, 0), math.Nextafter(1, 2), math.Nextafter(-1, 0), math.Nextafter(-1, -2),
	far + 1, -far - 1, math.Nextafter(far, inf), math.Nextafter(far, 0), math.Nextafter(-far, -inf), math.Nextafter(-far, 0),
	far + 0.5, -far - 0.5, 2 * far, -2 * far, 1 << 53, 1 << 62, 1 << 63, -1 << 63, 1 << 64, -1 << 64, 1<<64 + 1<<20, 1e300, -1e300, huge, -huge,
	inf, -inf, nan, -nan, math.Float64frombits(0x7ff0000000000001), math.Float64frombits(0xfff8000000000001),
}

// strangers are points of no kind.
func strangers() []complex128 {
	l := []complex128{0, 1, -1, 1i, -1i, 2, 2 + 2i, -2 + 2i, 1 + 2i, 2 + 1i, -1 + 2i, 1 - 2i, -3 - 1i, 3 + 1i, 0.5 + 0.5i, 0.6 + 0.8i, -0.8 + 0.6i, complex(math.Sqrt2, 0), complex(0, -math.Sqrt2), complex(math.Sqrt2/2, math.Sqrt2/2), 257 + 1i, 1 + 257i, 1<<32 + 1 + 1i}
	for _, x := range others {
		for _, y := range []float64{1, -1, 0, x} {
			l = append(l, complex(x, y), complex(y, x), complex(-x, y), complex(y, -x))
		}
	}
	for _, x := range []float64{0, minus, 2, -2, 3, far} {
		for _, y := range []float64{1, -1, x} {
			l = append(l, complex(x, y), complex(y, x))
		}
	}
	return l
}

// numbers answers a function that tells numbers that look like noise, the same ones in each run.
func numbers(begin int) func() int {
	x := uint64(begin)
	return func() int {
		x = x*6364136223846793005 + 1442695040888963407
		return int(x >> 33)
	}
}

// noise is n bytes that look like noise.
func noise(n int) []byte {
	next := numbers(n)
	b := make([]byte, n)
	for i := range b {
		b[i] = byte(next())
	}
	return b
}

// path is the points that tell b, if the first is of this kind: by sums of what each two bits say.
func path(first int, b []byte) []complex128 {
	kind := first
	l := []complex128{four[kind]}
	for _, x := range b {
		for _, bits := range []byte{x / 64, x / 16 % 4, x / 4 % 4, x % 4} {
			kind = (kind + int(bits)) % 4
			l = append(l, four[kind])
		}
	}
	return l
}

// swung is l with each point turned by k right angles, as P7.3 says, k from 0 to 3.
func swung(l []complex128, k int) []complex128 {
	out := slices.Clone(l)
	for i := range out {
		for range k {
			out[i] *= 1i
		}
	}
	return out
}

// modulo is k modulo 4, from 0 on.
func modulo(k int) int {
	return (k%4 + 4) % 4
}

// alike tells whether two floats are the same number, or both none.
func alike(a, b float64) bool {
	return a == b || a != a && b != b
}

// sameList tells whether two lists have the same points, those that are no numbers among them.
func sameList(a, b []complex128) bool {
	return slices.EqualFunc(a, b, func(y, z complex128) bool {
		return alike(real(y), real(z)) && alike(imag(y), imag(z))
	})
}

// tells fails the test if Bytes of l isn't b.
func tells(t *testing.T, l []complex128, b []byte) {
	t.Helper()
	if got, e := phase.Bytes(l); e != api.OK || !bytes.Equal(got, b) {
		t.Fatalf("Bytes(%v) = %x, %d, not %x", l, got, e, b)
	}
}

// refused fails the test if Bytes of l isn't this error, and nothing else.
func refused(t *testing.T, l []complex128, want api.Errno) {
	t.Helper()
	if got, e := phase.Bytes(l); e != want || len(got) != 0 {
		t.Fatalf("Bytes of %d points = %x, %d, not %d", len(l), got, e, want)
	}
}

// spare answers l with room behind it in which a guard stands, and a function that tells whether l and the guard are as they were.
func spare(l []complex128) ([]complex128, func() bool) {
	whole := slices.Concat([]complex128{7}, l, []complex128{8, 9, 10, 11, 12})
	was := slices.Clone(whole)
	return whole[1 : 1+len(l)], func() bool { return sameList(whole, was) }
}

// overwrite puts other points in all of l's memory, up to its capacity.
func overwrite(l []complex128) {
	l = l[:cap(l)]
	for i := range l {
		l[i] = complex(float64(100+i), -5)
	}
}

func TestExample(t *testing.T) { // P7.2, P7.4
	l := phase.Points([]byte{27})
	want := []int{0, 0, 1, 3, 2}
	if len(l) != len(want) {
		t.Fatal(l)
	}
	for i, z := range l {
		if k, ok := phase.Kind(z); !ok || k != want[i] {
			t.Fatal(i, z, k, ok)
		}
	}
	tells(t, l, []byte{27})
}

func TestOf(t *testing.T) { // P7.1
	if phase.Of(0, 0) != 0 || phase.Of(3, -4) != 3-4i || phase.Of(-1, 0) != -1 || phase.Of(0, 1) != 1i {
		t.Fatal("small parts")
	}
	for _, re := range odd {
		for _, im := range odd {
			z := phase.Of(re, im)
			if real(z) != float64(re) || imag(z) != float64(im) {
				t.Fatal(re, im, z)
			}
		}
	}
}

func TestPartsOfWholeNumbers(t *testing.T) { // P7.1
	for _, x := range wholes {
		for _, y := range wholes {
			re, im, ok := phase.Parts(complex(x, y))
			if !ok || float64(re) != x || float64(im) != y {
				t.Fatal(x, y, re, im, ok)
			}
		}
	}
}

func TestPartsOfOthers(t *testing.T) { // P7.1, rule 5
	for _, x := range others {
		for _, y := range append(wholes, others...) {
			for _, z := range []complex128{complex(x, y), complex(y, x)} {
				if re, im, ok := phase.Parts(z); ok || re != 0 || im != 0 {
					t.Fatal(z, re, im, ok)
				}
			}
		}
	}
}

func TestPartsAtTheBound(t *testing.T) { // P7.1
	for _, k := range []struct {
		z      complex128
		re, im int
		ok     bool
	}{
		{complex(1099511627776, 0), 1099511627776, 0, true},
		{complex(0, 1099511627776), 0, 1099511627776, true},
		{complex(-1099511627776, 5), -1099511627776, 5, true},
		{complex(5, -1099511627776), 5, -1099511627776, true},
		{complex(1099511627775, -1099511627775), 1099511627775, -1099511627775, true},
		{complex(1099511627777, 0), 0, 0, false},
		{complex(0, 1099511627777), 0, 0, false},
		{complex(-1099511627777, 5), 0, 0, false},
		{complex(5, -1099511627777), 0, 0, false},
		{complex(minus, minus), 0, 0, true},
		{complex(minus, 4), 0, 4, true},
	} {
		if re, im, ok := phase.Parts(k.z); re != k.re || im != k.im || ok != k.ok {
			t.Fatal(k.z, re, im, ok)
		}
	}
}

func TestPartsOfWhatOfMade(t *testing.T) { // P7.1
	for _, re := range odd {
		for _, im := range odd {
			inside := re >= -far && re <= far && im >= -far && im <= far
			x, y, ok := phase.Parts(phase.Of(re, im))
			if ok != inside || ok && (x != re || y != im) || !ok && (x != 0 || y != 0) {
				t.Fatal(re, im, x, y, ok)
			}
		}
	}
	next := numbers(3)
	for range 20000 {
		re, im := next()*next()%far, -next()*next()%far
		if x, y, ok := phase.Parts(phase.Of(re, im)); !ok || x != re || y != im {
			t.Fatal(re, im, x, y, ok)
		}
	}
}

func TestKindWrittenOut(t *testing.T) { // P7.2
	for want, z := range four {
		if k, ok := phase.Kind(z); k != want || !ok {
			t.Fatal(z, k, ok)
		}
		ahead := four[(want+3)%4]
		if k, ok := phase.Kind(ahead * 1i); k != want || !ok {
			t.Fatal(ahead, k, ok)
		}
		if k, ok := phase.Kind(phase.Of(int(real(z)), int(imag(z)))); k != want || !ok {
			t.Fatal(z, k, ok)
		}
	}
}

func TestNoKind(t *testing.T) { // P7.2, rule 5
	for _, z := range strangers() {
		if k, ok := phase.Kind(z); ok || k != 0 {
			t.Fatal(z, k, ok)
		}
	}
	for re := -4; re < 5; re++ {
		for im := -4; im < 5; im++ {
			k, ok := phase.Kind(phase.Of(re, im))
			if ok != (re*re == 1 && im*im == 1) || k != max(0, slices.Index(four, phase.Of(re, im))) {
				t.Fatal(re, im, k, ok)
			}
		}
	}
}

func TestKindOfNeighbours(t *testing.T) { // P7.2
	for _, z := range four {
		for _, x := range []float64{math.Nextafter(real(z), inf), math.Nextafter(real(z), -inf)} {
			if k, ok := phase.Kind(complex(x, imag(z))); ok || k != 0 {
				t.Fatal(x, z, k, ok)
			}
		}
		for _, y := range []float64{math.Nextafter(imag(z), inf), math.Nextafter(imag(z), -inf)} {
			if k, ok := phase.Kind(complex(real(z), y)); ok || k != 0 {
				t.Fatal(y, z, k, ok)
			}
		}
	}
}

func TestKindOfTurned(t *testing.T) { // P7.2, P7.3
	for first, z := range four {
		for _, k := range odd {
			l := phase.Turn([]complex128{z}, k)
			if got, ok := phase.Kind(l[0]); !ok || got != (first+modulo(k))%4 {
				t.Fatal(z, k, got, ok)
			}
		}
	}
}

func TestSlice(t *testing.T) { // P7.2
	above := []float64{0, minus, tiny, 0.5, 1, 3, 1e300, huge, inf}
	below := []float64{-tiny, -0.5, -1, -3, -1e300, -huge, -inf}
	for _, x := range above {
		for _, y := range above {
			if z := phase.Slice(complex(x, y)); z != 1+1i {
				t.Fatal(x, y, z)
			}
		}
		for _, y := range below {
			if z := phase.Slice(complex(x, y)); z != 1-1i {
				t.Fatal(x, y, z)
			}
			if z := phase.Slice(complex(y, x)); z != -1+1i {
				t.Fatal(y, x, z)
			}
		}
	}
	for _, x := range below {
		for _, y := range below {
			if z := phase.Slice(complex(x, y)); z != -1-1i {
				t.Fatal(x, y, z)
			}
		}
	}
}

// What is no number is neither 0 nor above it.
func TestSliceOfNoNumber(t *testing.T) { // P7.2
	for _, k := range []struct{ z, want complex128 }{
		{complex(nan, nan), -1 - 1i},
		{complex(nan, 1), -1 + 1i},
		{complex(nan, minus), -1 + 1i},
		{complex(-nan, -1), -1 - 1i},
		{complex(0, nan), 1 - 1i},
		{complex(-inf, nan), -1 - 1i},
		{complex(inf, nan), 1 - 1i},
	} {
		if z := phase.Slice(k.z); z != k.want {
			t.Fatal(k.z, z)
		}
	}
}

func TestSliceLeavesKinds(t *testing.T) { // P7.2
	for _, z := range four {
		if phase.Slice(z) != z || phase.Slice(3*z) != z || phase.Slice(z*(0.5+0.4i)*(1-1i)) != z {
			t.Fatal(z)
		}
	}
	for _, z := range strangers() {
		if _, ok := phase.Kind(phase.Slice(z)); !ok {
			t.Fatal(z)
		}
	}
}

func TestTurnWrittenOut(t *testing.T) { // P7.3
	l := []complex128{1 + 1i, 2 - 3i, 5, -7i, 0, -4 + 1i}
	for k, want := range [][]complex128{
		{1 + 1i, 2 - 3i, 5, -7i, 0, -4 + 1i},
		{-1 + 1i, 3 + 2i, 5i, 7, 0, -1 - 4i},
		{-1 - 1i, -2 + 3i, -5, 7i, 0, 4 - 1i},
		{1 - 1i, -3 - 2i, -5i, -7, 0, 1 + 4i},
	} {
		for _, times := range []int{k, k + 4, k - 4, k + 400, k - 400, k + 1<<32, k - 1<<32, k + math.MinInt, k + math.MaxInt - 3} {
			if got := phase.Turn(l, times); !slices.Equal(got, want) {
				t.Fatal(times, got, want)
			}
		}
	}
}

func TestTurn(t *testing.T) { // P7.3
	next := numbers(5)
	var l []complex128
	for range 300 {
		l = append(l, phase.Of(next()%2001-1000, next()%5-2), phase.Of(next()%3-1, next()), complex(float64(next())/7, -float64(next())/1e9))
	}
	l = append(l, complex(minus, minus), complex(0, minus), complex(minus, 3), complex(tiny, -tiny), complex(huge, -huge))
	for _, k := range odd {
		if got := phase.Turn(l, k); !slices.Equal(got, swung(l, modulo(k))) {
			t.Fatal(k, got)
		}
		for n := range 4 {
			if got := phase.Turn(l[n:n+1], k); !slices.Equal(got, swung(l[n:n+1], modulo(k))) {
				t.Fatal(k, got)
			}
		}
	}
}

func TestTurnOfNoPoints(t *testing.T) { // P7.3
	for _, k := range odd {
		if len(phase.Turn(nil, k)) != 0 || len(phase.Turn([]complex128{}, k)) != 0 {
			t.Fatal(k)
		}
	}
}

// Points of any number may be turned: only Points and Bytes have a bound.
func TestTurnOfMany(t *testing.T) { // P7.3
	l := slices.Repeat([]complex128{1 + 1i, 2, -3i}, 30000)
	for k := -5; k < 6; k++ {
		if !slices.Equal(phase.Turn(l, k), swung(l, modulo(k))) {
			t.Fatal(k)
		}
	}
}

// Who turns further comes where who turns at once does; who turns back comes back, also with infinite parts.
func TestTurnsOneBehindTheOther(t *testing.T) { // P7.3
	l := append(strangers(), four...)
	for _, j := range odd {
		for _, k := range odd {
			once := phase.Turn(l, modulo(j)+modulo(k))
			if twice := phase.Turn(phase.Turn(l, j), k); !sameList(once, twice) {
				t.Fatal(j, k)
			}
		}
	}
	for _, k := range []int{0, 4, -4, 1 << 32, math.MinInt} {
		if !sameList(phase.Turn(l, k), l) {
			t.Fatal(k)
		}
	}
}

func TestPointsOfEveryByte(t *testing.T) { // P7.4
	for i := range 256 {
		b := []byte{byte(i)}
		if l := phase.Points(b); !slices.Equal(l, path(0, b)) {
			t.Fatal(i, l)
		}
		for j := range 256 {
			b := []byte{byte(i), byte(j)}
			if l := phase.Points(b); !slices.Equal(l, path(0, b)) {
				t.Fatal(b, l)
			}
		}
	}
}

func TestPointsWrittenOut(t *testing.T) { // P7.4
	for _, k := range []struct {
		b    []byte
		want []int
	}{
		{nil, []int{0}},
		{[]byte{}, []int{0}},
		{[]byte{0}, []int{0, 0, 0, 0, 0}},
		{[]byte{0x55}, []int{0, 1, 2, 3, 0}},
		{[]byte{0xaa}, []int{0, 2, 0, 2, 0}},
		{[]byte{0xff}, []int{0, 3, 2, 1, 0}},
		{[]byte{0x40}, []int{0, 1, 1, 1, 1}},
		{[]byte{0x01}, []int{0, 0, 0, 0, 1}},
		{[]byte{27, 27}, []int{0, 0, 1, 3, 2, 2, 3, 1, 0}},
		{[]byte{0x01, 0x80, 0x03}, []int{0, 0, 0, 0, 1, 3, 3, 3, 3, 3, 3, 3, 2}},
	} {
		l := phase.Points(k.b)
		if len(l) != len(k.want) {
			t.Fatal(k.b, l)
		}
		for i, z := range l {
			if z != four[k.want[i]] {
				t.Fatal(k.b, i, l)
			}
		}
	}
}

func TestPointsOfManyBytes(t *testing.T) { // P7.4
	for _, n := range []int{3, 4, 5, 63, 64, 65, 255, 256, 257, 1023, 1024, 1025, 2000, maxIn - 2, maxIn - 1, maxIn} {
		for _, b := range [][]byte{noise(n), make([]byte, n), bytes.Repeat([]byte{0xff}, n), bytes.Repeat([]byte{27}, n)} {
			l := phase.Points(b)
			if len(l) != 4*n+1 || !slices.Equal(l, path(0, b)) {
				t.Fatal(n, len(l))
			}
		}
	}
}

func TestPointsOfTooManyBytes(t *testing.T) { // P7.4
	for _, n := range []int{maxIn + 1, maxIn + 2, 2*maxIn - 1, 2 * maxIn, 16384, 16385, 65536, 65537, 100000} {
		if l := phase.Points(noise(n)); len(l) != 0 {
			t.Fatal(n, len(l))
		}
	}
}

func TestBytesOfFewPoints(t *testing.T) { // P7.4
	refused(t, nil, errPoint)
	refused(t, []complex128{}, errPoint)
	for _, z := range four {
		tells(t, []complex128{z}, nil)
	}
	for _, z := range strangers() {
		refused(t, []complex128{z}, errPoint)
	}
}

func TestBytesOfEveryFivePoints(t *testing.T) { // P7.4
	for i := range 1024 {
		kinds := []int{i / 256, i / 64 % 4, i / 16 % 4, i / 4 % 4, i % 4}
		var l []complex128
		want := 0
		for j, k := range kinds {
			l = append(l, four[k])
			if j > 0 {
				want = want*4 + modulo(k-kinds[j-1])
			}
		}
		tells(t, l, []byte{byte(want)})
	}
}

func TestBytesFromAnyKind(t *testing.T) { // P7.4, P7.5
	for n := range 100 {
		for first := range 4 {
			tells(t, path(first, noise(n)), noise(n))
		}
	}
}

func TestBytesOfANumberThatMayNotBe(t *testing.T) { // P7.4
	for _, n := range []int{0, 1, 2, 3, 16, 100, 1024, maxIn - 2, maxIn - 1} {
		l := path(n%4, noise(n+1))
		for more := range 5 {
			if part := l[:4*n+more]; more == 1 {
				tells(t, part, noise(n + 1)[:n])
			} else {
				refused(t, part, errPoint)
			}
		}
	}
}

func TestBytesOfMostPoints(t *testing.T) { // P7.4
	b := noise(maxIn)
	l := path(3, b)
	if len(l) != 16385 {
		t.Fatal(len(l))
	}
	tells(t, l, b)
	refused(t, l[:16384], errPoint)
	tells(t, l[:16381], b[:maxIn-1])
	for _, more := range []int{1, 2, 3, 4, 5, 8, 16384, 100000} {
		refused(t, append(slices.Clone(l), slices.Repeat(four[:1], more)...), errLong)
	}
}

// Too many points are told ahead of all else that is wrong with them.
func TestWhichErrorIsTold(t *testing.T) { // P7.4, rule 2
	long := path(0, noise(maxIn+1))
	for n := 16386; n <= len(long); n++ {
		for _, at := range []int{0, 1, 16384, 16385, n - 1} {
			l := slices.Clone(long[:n])
			l[at] = 2
			refused(t, l, errLong)
		}
	}
	refused(t, make([]complex128, 16386), errLong)
	refused(t, make([]complex128, 16389), errLong)
	refused(t, make([]complex128, 16385), errPoint)
	refused(t, make([]complex128, 16384), errPoint)
	refused(t, make([]complex128, 4), errPoint)
}

func TestBytesWithAPointOfNoKind(t *testing.T) { // P7.4
	for _, z := range strangers() {
		for _, n := range []int{1, 2, 5} {
			good := path(n%4, noise(n))
			for at := range good {
				l := slices.Clone(good)
				l[at] = z
				refused(t, l, errPoint)
			}
		}
	}
	good := path(0, noise(maxIn))
	for _, at := range []int{0, 1, 4, 5, 8191, 8192, 16380, 16383, 16384} {
		for _, z := range []complex128{0, 2, complex(nan, nan), complex(inf, 1), 1 + 1.5i} {
			l := slices.Clone(good)
			l[at] = z
			refused(t, l, errPoint)
		}
	}
}

func TestFromAnySide(t *testing.T) { // P7.5
	for n := range 40 {
		b := noise(n)
		for _, k := range odd {
			tells(t, phase.Turn(phase.Points(b), k), b)
		}
	}
	for _, n := range []int{maxIn - 1, maxIn} {
		for k := -4; k < 5; k++ {
			tells(t, phase.Turn(phase.Points(noise(n)), k), noise(n))
		}
	}
}

func TestFromAnySideEveryByte(t *testing.T) { // P7.5
	for i := range 256 {
		l := phase.Points([]byte{byte(i), byte(i * 7), byte(i)})
		for k := range 9 {
			tells(t, l, []byte{byte(i), byte(i * 7), byte(i)})
			l = phase.Turn(l, k-3)
		}
	}
}

// However often points were turned, and by what, they are the same bytes.
func TestTurnedManyTimes(t *testing.T) { // P7.5
	next := numbers(9)
	for n := range 50 {
		b := noise(n)
		l := phase.Points(b)
		for range 50 {
			l = phase.Turn(l, next()*next()-next())
			tells(t, l, b)
		}
	}
}

func TestHandedInStays(t *testing.T) { // rule 3
	for n := range 9 {
		for _, k := range []int{-5, -1, 0, 1, 2, 3, 4} {
			l, kept := spare(path(2, noise(n)))
			phase.Turn(l, k)
			phase.Bytes(l)
			phase.Bytes(l[:len(l)-1])
			if !kept() {
				t.Fatal(n, k)
			}
		}
		whole := slices.Concat(noise(n), []byte{1, 2, 3, 4, 5, 6})
		was := bytes.Clone(whole)
		phase.Points(whole[:n])
		if !bytes.Equal(whole, was) {
			t.Fatal(n)
		}
	}
	l, kept := spare(strangers())
	phase.Turn(l, 3)
	phase.Bytes(l)
	if !kept() {
		t.Fatal("of no kind")
	}
}

func TestTurnIsNewMemory(t *testing.T) { // rule 3
	for _, k := range []int{-4, -1, 0, 1, 2, 3, 4, 8} {
		for n := range 5 {
			l, kept := spare(path(1, noise(n)))
			got := phase.Turn(l, k)
			want := slices.Clone(got)
			overwrite(phase.Turn(l, k))
			if !kept() || !slices.Equal(got, want) {
				t.Fatal(n, k)
			}
			overwrite(l)
			if !slices.Equal(got, want) {
				t.Fatal(n, k)
			}
		}
		empty, kept := spare(nil)
		overwrite(phase.Turn(empty, k))
		if !kept() {
			t.Fatal(k)
		}
	}
}

func TestMadeIsNewMemory(t *testing.T) { // rule 3
	for n := range 9 {
		b := noise(n)
		first := phase.Points(b)
		overwrite(phase.Points(b))
		if !slices.Equal(first, path(0, noise(n))) || !slices.Equal(phase.Points(b), first) || !bytes.Equal(b, noise(n)) {
			t.Fatal(n)
		}
		l, kept := spare(path(3, b))
		made, _ := phase.Bytes(l)
		again, _ := phase.Bytes(l)
		again = again[:cap(again)]
		for i := range again {
			again[i] ^= 0xff
		}
		if !kept() || !bytes.Equal(made, b) {
			t.Fatal(n)
		}
		overwrite(l)
		if !bytes.Equal(made, b) {
			t.Fatal(n)
		}
	}
}

func TestSameCallsSameAnswers(t *testing.T) { // rule 4
	for n := range 30 {
		b := noise(n)
		first := phase.Points(b)
		phase.Turn(first, 3)
		phase.Bytes(first[:n])
		phase.Bytes(phase.Turn(first, 1))
		phase.Points(make([]byte, maxIn+1))
		if !slices.Equal(phase.Points(b), first) {
			t.Fatal(n)
		}
		tells(t, first, b)
	}
}
