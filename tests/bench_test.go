package tests

import (
	"math"
	"math/big"
	"math/rand/v2"
	"slices"
	"strings"
	"testing"

	"loop.example/g03222/impl"
)

func wantSize(z complex128) float64 { return sum(math.Abs(real(z)), math.Abs(imag(z))) }

func wantHalf(m impl.Mode, most int) (int, bool) {
	if !wantMode(m) || most < 1 || most > 2000 {
		return 0, false
	}
	whole, z := wantSize(complex128(m.Gain)), m.Gain
	for n := 1; n <= most; n++ {
		z = wantProductSingle(z, m.Pole)
		if product(2, wantSize(complex128(z))) <= whole {
			return n, true
		}
	}
	return 0, false
}

// checkHalf returns whether there is a half life.
func checkHalf(t *testing.T, m impl.Mode, most int) bool {
	t.Helper()
	want, has := wantHalf(m, most)
	if n, ok := impl.HalfLife(m, most); ok != has || n != want {
		t.Fatalf("HalfLife of %v up to %d: %v %v, want %v %v", m, most, n, ok, want, has)
	}
	return has
}

// checkHalfIs checks a half life up to itself, up to one step less, and up to more.
func checkHalfIs(t *testing.T, m impl.Mode, want int) {
	t.Helper()
	for _, most := range []int{1, want - 1, want, want + 1, impl.MaxSamples} {
		if most < 1 || most > impl.MaxSamples {
			continue
		}
		n, ok := impl.HalfLife(m, most)
		if most >= want && (!ok || n != want) || most < want && (ok || n != 0) {
			t.Errorf("HalfLife of %v up to %d: %v %v, want %v", m, most, n, ok, want)
		}
	}
}

func checkNoHalf(t *testing.T, m impl.Mode, most int) {
	t.Helper()
	if n, ok := impl.HalfLife(m, most); ok || n != 0 {
		t.Errorf("HalfLife of %v up to %d: %v %v", m, most, n, ok)
	}
}

func TestP10HalfLivesByHand(t *testing.T) {
	minus := narrow(negativeZero)
	for _, c := range []struct {
		pole, gain complex64
		want       int
	}{
		{0.5, 2, 1},
		{0.5, 1024, 1},
		{-0.5, complex(-3, 5), 1},
		{complex(0, 0.5), complex(3, -5), 1},
		{complex(math.Nextafter32(0.5, 1), 0), 1, 2},
		{complex(math.Nextafter32(0.5, 0), 0), 1, 1},
		{0.75, 1, 3},
		{0.875, complex(0, 16), 6},
		{0.9375, 16, 11},
		{0, 1, 1},
		{complex(minus, minus), complex(3, 4), 1},
		{0, leastSingle, 1},
		// 0 is at most 0, whatever the Pole is.
		{1, 0, 1},
		{0, 0, 1},
		{complex(0, -1), complex(minus, minus), 1},
		// The size of 1 + i is 2, and so is not the square of an absolute value.
		{complex(0.5, 0.5), complex(1, 1), 1},
		{complex(0.5, 0.5), 1, 2},
		{complex(0.25, 0.25), 1, 1},
		// It grows from 1 to more than 1 before it is halved.
		{complex(0.6, 0.6), 1, 6},
		// In single precision, the size of z(1) would be 1/2.
		{complex(0.5, 0x1p-25), 1, 2},
		// In double precision as well, it is not always exact.
		{complex(0.5, 0x1p-60), 1, 1},
		{0.5, complex(1, 0x1p-60), 1},
		// In double precision, z(2) would be more than 1/2.
		{0.70710677, 1, 2},
		{0.7071068, 1, 3},
		// z(n) becomes 0 where it is too small to be halved; the tie is even.
		{0.5, leastSingle, 1},
		{0.5, complex(0, -leastSingle), 1},
		{0.625, 2 * leastSingle, 1},
		{0.5, 3 * leastSingle, 2},
		{0.75, 8 * leastSingle, 2},
		{0.9921875, 1, 89},
		{1 - 5814*0x1p-24, 1, 2000},
		{1 - 5816*0x1p-24, 1, 2000},
		{1 - 5817*0x1p-24, 1, 1999},
		{1 - 5820*0x1p-24, 1, 1998},
		{complex(0, 1-5814*0x1p-24), 1, 2000},
	} {
		m := impl.Mode{Pole: c.pole, Gain: c.gain}
		checkHalfIs(t, m, c.want)
		checkHalf(t, m, c.want)
	}
}

func TestP10ModesWithoutHalfLife(t *testing.T) {
	for _, m := range []impl.Mode{
		{Pole: 1, Gain: 1},
		{Pole: -1, Gain: complex(0, 1024)},
		{Pole: complex(0, 1), Gain: complex(1, -1)},
		{Pole: complex(0.6, 0.8), Gain: 1},
		{Pole: 1 - 0x1p-24, Gain: 1},
		{Pole: 1 - 5813*0x1p-24, Gain: 1}, // 2001 steps
		{Pole: 1 - 5811*0x1p-24, Gain: -1},
		{Pole: 0.75, Gain: leastSingle}, // rounds to itself
		{Pole: 0.75, Gain: complex(0, 2*leastSingle)},
		{Pole: complex(math.Nextafter32(0.5, 1), 0), Gain: leastSingle},
	} {
		for _, most := range []int{1, 2, 100, impl.MaxSamples - 1, impl.MaxSamples} {
			checkNoHalf(t, m, most)
		}
		checkHalf(t, m, impl.MaxSamples)
	}
}

func TestP10HalfLivesThatFail(t *testing.T) {
	for _, m := range []impl.Mode{{Pole: 0.5, Gain: 2}, {}, {Pole: 0.5, Gain: complex(greatestSingle, 0)}} {
		for _, most := range append(wrongSteps(), 0) {
			checkNoHalf(t, m, most)
		}
	}
	noNumber, endless, most := float32(nan), float32(inf), float32(greatestSingle)
	bad := []impl.Mode{
		// Sizes that are infinite, and some that would be in single precision alone.
		{Pole: 0.5, Gain: complex(endless, 0)}, {Pole: 0.5, Gain: complex(1, noNumber)}, {Pole: 0, Gain: complex(endless, -endless)},
		{Pole: 0.5, Gain: complex(most, 0)}, {Pole: 0.5, Gain: complex(most, most)}, {Pole: 0, Gain: complex(0, 0x1p127)}, {Pole: 0.5, Gain: complex(0x1p127, 0x1p127)},
		{Pole: complex(noNumber, noNumber), Gain: 0}, {Pole: complex(endless, 0), Gain: 0}, {Pole: complex(oneOver(1), 0), Gain: 0}, {Pole: 2, Gain: 1},
	}
	for _, b := range wrongBodies() {
		if len(b.Modes) == 1 {
			bad = append(bad, b.Modes[0])
		}
	}
	for _, m := range bad {
		for _, n := range []int{1, 2, 10, impl.MaxSamples, 0, -1} {
			checkNoHalf(t, m, n)
		}
	}
}

func TestP10HalfLives(t *testing.T) {
	r := newRandom()
	has, none := 0, 0
	for range 1500 {
		m := anyMode(r)
		switch r.IntN(4) {
		case 0:
			m.Pole = wantScaled(m.Pole, 0.5+r.Float32()/2)
		case 1:
			m.Gain = complex(float32(r.IntN(20))*leastSingle, float32(r.IntN(20)-10)*leastSingle)
		}
		if checkHalf(t, m, 1+r.IntN(40)) {
			has++
		} else {
			none++
		}
		checkHalf(t, impl.Mode{Pole: anyComplexSingle(r), Gain: anyComplexSingle(r)}, 1+r.IntN(5))
	}
	if has < 500 || none < 300 {
		t.Errorf("%d have half lives, %d have none", has, none)
	}
	for k := range 12 {
		checkHalf(t, impl.Mode{Pole: complex(1-float32(5806+k)*0x1p-24, 0), Gain: 1}, impl.MaxSamples)
		checkHalf(t, anyMode(r), impl.MaxSamples)
	}
	for _, z := range specialComplexesSingle() {
		checkHalf(t, impl.Mode{Pole: z, Gain: 1}, 3)
		checkHalf(t, impl.Mode{Pole: complex(0.3, 0.6), Gain: z}, 3)
	}
}

// wantCrossings looks for a sample below 0 with one that is not behind it.
func wantCrossings(samples []float32) int {
	var sides strings.Builder
	for _, x := range samples {
		switch {
		case math.IsNaN(float64(x)):
			sides.WriteByte('?')
		case x == 0 || !math.Signbit(float64(x)):
			sides.WriteByte('+')
		default:
			sides.WriteByte('-')
		}
	}
	return strings.Count(sides.String(), "-+")
}

func wantPitch(samples []float32, rate int) float64 {
	if len(samples) == 0 {
		return 0
	}
	wide, _ := new(big.Float).SetInt64(int64(rate)).Float64()
	return ratio(product(float64(wantCrossings(samples)), wide), float64(len(samples)))
}

func checkPitch(t *testing.T, samples []float32, rate int) {
	t.Helper()
	if n, want := impl.CrossingsOf(samples), wantCrossings(samples); n != want {
		t.Fatalf("CrossingsOf %v: %d, want %d", samples, n, want)
	}
	if pitch, want := impl.PitchOf(samples, rate), wantPitch(samples, rate); !same(pitch, want) {
		t.Fatalf("PitchOf %v at %d: %v, want %v", samples, rate, pitch, want)
	}
}

func TestP10CrossingsByHand(t *testing.T) {
	noNumber, endless, minus := float32(nan), float32(inf), narrow(negativeZero)
	const tiny, most = leastSingle, greatestSingle
	for _, c := range []struct {
		samples []float32
		want    int
	}{
		{nil, 0},
		{[]float32{}, 0},
		{[]float32{1}, 0},
		{[]float32{-1}, 0},
		{[]float32{0}, 0},
		{[]float32{-1, 1}, 1},
		{[]float32{1, -1}, 0},
		{[]float32{1, 1}, 0},
		{[]float32{-1, -1}, 0},
		{[]float32{-1, 1, -1, 1}, 2},
		{[]float32{1, -1, 1, -1}, 1},
		{[]float32{-1, -1, 1, 1, -1, -1, 1, 1}, 2},
		{[]float32{-1, 0}, 1},
		{[]float32{-1, minus}, 1},
		{[]float32{0, 1}, 0},
		{[]float32{minus, 1}, 0},
		{[]float32{minus, 0}, 0},
		{[]float32{0, minus, 0}, 0},
		{[]float32{-1, 0, -1, minus, -1, 1}, 3},
		{[]float32{-1, 0, 1}, 1},
		{[]float32{-1, minus, 0, 1}, 1},
		{[]float32{-tiny, tiny}, 1},
		{[]float32{-tiny, 0}, 1},
		{[]float32{-tiny, minus}, 1},
		{[]float32{tiny, -tiny, 0}, 1},
		{[]float32{-tiny, -tiny}, 0},
		{[]float32{-most, most}, 1},
		{[]float32{-endless, endless}, 1},
		{[]float32{-endless, 0, -endless, minus}, 2},
		{[]float32{-1, endless}, 1},
		{[]float32{endless, -endless}, 0},
		{[]float32{-endless, -1, -endless}, 0},
		{[]float32{-1, noNumber}, 0},
		{[]float32{noNumber, 1}, 0},
		{[]float32{noNumber, noNumber}, 0},
		{[]float32{-1, noNumber, 1}, 0},
		{[]float32{-endless, noNumber, endless}, 0},
		{[]float32{noNumber, -1, 1, noNumber}, 1},
		{[]float32{-noNumber, 1, otherNaN(), 1}, 0},
	} {
		if n := impl.CrossingsOf(c.samples); n != c.want {
			t.Errorf("CrossingsOf %v: %d, want %d", c.samples, n, c.want)
		}
		for _, rate := range []int{0, 1, 44100, -1} {
			checkPitch(t, c.samples, rate)
		}
	}
}

// crossing returns n samples, among them so many crossings.
func crossing(crossings, n int) []float32 {
	samples := make([]float32, n)
	for i := range crossings {
		samples[2*i] = -1
	}
	return samples
}

func TestP10PitchesByHand(t *testing.T) {
	for _, c := range []struct {
		crossings, n, rate int
		want               float64
	}{
		{0, 0, 44100, 0},
		{0, 0, -44100, 0},
		{0, 0, math.MinInt, 0},
		{0, 1, 44100, 0},
		{0, 4, 44100, 0},
		{0, 4, -44100, negativeZero}, // the product of 0 and a number below 0
		{2, 4, 8, 4},
		{1, 2, 44100, 22050},
		{2, 4, 0, 0},
		{2, 4, -8, -4},
		{1, 3, 1, 1.0 / 3},
		{1, 3, -2, -2.0 / 3},
		{1, 49, 49, 1},  // 49 times the rounded 1/49 is less
		{3, 10, 1, 0.3}, // 3 times the rounded 1/10 is more
		{100, 441, 44100, 10000},
		{1, 2, 1<<53 + 1, 1 << 52},
		{1, 2, 1<<53 + 3, 1<<52 + 2},
		{1, 2, math.MaxInt, 1 << 62},
		{3, 6, math.MaxInt, 1 << 62},
		{1, 4, math.MinInt, -1 << 61},
		{3, 7, 1 << 62, 3 * (1 << 62) / 7.0},
	} {
		samples := crossing(c.crossings, c.n)
		if n := impl.CrossingsOf(samples); n != c.crossings {
			t.Errorf("CrossingsOf %v: %d, want %d", samples, n, c.crossings)
		}
		if pitch := impl.PitchOf(samples, c.rate); !same(pitch, c.want) {
			t.Errorf("PitchOf %v at %d: %v, want %v", samples, c.rate, pitch, c.want)
		}
		checkPitch(t, samples, c.rate)
	}
}

func TestP10CrossingsAndPitches(t *testing.T) {
	r := newRandom()
	for range 5000 {
		checkPitch(t, wildOrTame(r, r.IntN(20)), int(r.Uint64()))
		checkPitch(t, wildOrTame(r, r.IntN(200)), r.IntN(100000))
		checkPitch(t, anySamples(r, r.IntN(10)), wildIntegers()[r.IntN(29)])
	}
	// There may be more samples than a score has.
	long := crossing(30000, 100001)
	checkPitch(t, long, 44100)
	checkPitch(t, slices.Repeat([]float32{-1, 0, 1}, 50000), 7)
}

func checkUnit(t *testing.T, z complex128) bool {
	t.Helper()
	want, valid := wantQuotient(z, complex(wantSize(z), 0))
	if unit, ok := impl.UnitOf(z); ok != valid || !sameBoth(unit, want) {
		t.Fatalf("UnitOf %v: %v %v, want %v %v", z, unit, ok, want, valid)
	}
	return valid
}

func TestP10UnitsByHand(t *testing.T) {
	for _, c := range []struct{ z, want complex128 }{
		{1, 1},
		{-7, -1},
		{complex(0, 2), complex(0, 1)},
		{complex(0, -0.125), complex(0, -1)},
		{complex(3, 4), complex(3.0/7, 4.0/7)},
		{complex(-1, 3), complex(-0.25, 0.75)},
		{complex(1, -1), complex(0.5, -0.5)},
		{complex(-0x1p-600, -0x1p-600), complex(-0.5, -0.5)},
		{complex(1, 0x1p-60), complex(1, 0x1p-60)},
		{greatest, 1},
		{complex(0, -greatest), complex(0, -1)},
		{complex(greatest, 1), complex(1, 1/greatest)},
		{complex(0x1p1022, -0x1p1022), complex(0.5, -0.5)},
		{complex(least, 0), 1},
		{complex(0, -least), complex(0, -1)},
		{complex(least, least), complex(0.5, 0.5)},
		{complex(-least, 3*least), complex(-0.25, 0.75)},
		{complex(leastNormal, 0), 1},
	} {
		if unit, ok := impl.UnitOf(c.z); !ok || unit != c.want {
			t.Errorf("UnitOf %v: %v %v, want %v", c.z, unit, ok, c.want)
		}
		checkUnit(t, c.z)
	}
	for _, z := range append(wildNumbers(), 0, complex(negativeZero, 0), complex(0, negativeZero), minusBoth(),
		complex(greatest, greatest), complex(-greatest, 0x1p970), complex(0x1p1023, -0x1p1023), complex(inf, -inf), complex(nan, nan), complex(0, -inf)) {
		if unit, ok := impl.UnitOf(z); ok || !sameBoth(unit, 0) {
			t.Errorf("UnitOf %v: %v %v", z, unit, ok)
		}
	}
}

func TestP10Units(t *testing.T) {
	for _, z := range specialComplexes() {
		checkUnit(t, z)
	}
	r := newRandom()
	for range 5000 {
		checkUnit(t, anyComplex(r))
		z := nearOneComplex(r)
		if unit, ok := impl.UnitOf(z); checkUnit(t, z) != ok || ok && math.Abs(wantSize(unit)-1) > 0x1p-52 {
			t.Fatalf("UnitOf %v: %v, whose size is not 1", z, unit)
		}
	}
}

func wantFirst(a, b []float32) int {
	for i := range a {
		if i == len(b) || !sameSingle(a[i], b[i]) {
			return i
		}
	}
	if len(a) < len(b) {
		return len(a)
	}
	return -1
}

func checkFirst(t *testing.T, a, b []float32, want int) {
	t.Helper()
	if i := impl.FirstDifference(a, b); i != want {
		t.Fatalf("FirstDifference of %v and %v: %d, want %d", a, b, i, want)
	}
	if i := impl.FirstDifference(b, a); i != want {
		t.Fatalf("FirstDifference of %v and %v: %d, want %d", b, a, i, want)
	}
}

func TestP10DifferencesByHand(t *testing.T) {
	noNumber, other, endless, minus := float32(nan), otherNaN(), float32(inf), narrow(negativeZero)
	for _, c := range []struct {
		a, b []float32
		want int
	}{
		{nil, nil, -1},
		{nil, []float32{}, -1},
		{nil, []float32{0}, 0},
		{[]float32{}, []float32{noNumber}, 0},
		{[]float32{1}, []float32{1}, -1},
		{[]float32{1, 2}, []float32{1}, 1},
		{[]float32{1, 0}, []float32{1}, 1},
		{[]float32{1, 2, 3, 4, 5}, []float32{1, 2, 3}, 3},
		{[]float32{1, 2, 3, 4, 5}, []float32{1, 7, 3}, 1},
		{[]float32{1, 2, 3}, []float32{2, 2, 3}, 0},
		{[]float32{1, 2, 3}, []float32{1, 2, 4}, 2},
		{[]float32{1, 2, 3}, []float32{1, 4, 4}, 1},
		{[]float32{0}, []float32{minus}, 0},
		{[]float32{1, minus, 0}, []float32{1, minus, minus}, 2},
		{[]float32{minus}, []float32{minus}, -1},
		{[]float32{noNumber}, []float32{noNumber}, -1},
		{[]float32{noNumber}, []float32{other}, -1},
		{[]float32{-noNumber, 1, other}, []float32{other, 1, -other}, -1},
		{[]float32{other, 1, 2}, []float32{noNumber, 1, 3}, 2},
		{[]float32{noNumber}, []float32{1}, 0},
		{[]float32{1, other}, []float32{1, 0}, 1},
		{[]float32{endless, -endless}, []float32{endless, -endless}, -1},
		{[]float32{endless}, []float32{-endless}, 0},
		{[]float32{endless}, []float32{noNumber}, 0},
		{[]float32{greatestSingle}, []float32{endless}, 0},
		{[]float32{leastSingle}, []float32{0}, 0},
		{[]float32{1, oneOver(1)}, []float32{1, 1}, 1},
	} {
		checkFirst(t, c.a, c.b, c.want)
		if want := wantFirst(c.a, c.b); want != c.want {
			t.Errorf("wantFirst of %v and %v: %d", c.a, c.b, want)
		}
	}
	long := make([]float32, 100000)
	checkFirst(t, long, slices.Clone(long), -1)
	checkFirst(t, long, long[:99999], 99999)
	changed := slices.Clone(long)
	changed[99999] = minus
	checkFirst(t, long, changed, 99999)
}

func anyChanged(r *rand.Rand, samples []float32) []float32 {
	changed := slices.Clone(samples)
	if len(changed) > 0 && r.IntN(2) == 0 {
		i := r.IntN(len(changed))
		numbers := changedNumbers(changed[i])
		changed[i] = numbers[r.IntN(len(numbers))]
	}
	switch r.IntN(4) {
	case 0:
		return changed[:r.IntN(len(changed)+1)]
	case 1:
		return append(changed, anySingle(r))
	}
	return changed
}

func TestP10Differences(t *testing.T) {
	r := newRandom()
	without := 0
	for range 5000 {
		a := wildOrTame(r, r.IntN(12))
		b := anyChanged(r, a)
		want := wantFirst(a, b)
		if checkFirst(t, a, b, want); want < 0 {
			without++
		}
		checkFirst(t, a, a, -1)
	}
	if without < 500 || without > 4000 {
		t.Errorf("%d of 5000 do not differ", without)
	}
}

func TestP10MeasuringKeepsNothing(t *testing.T) {
	kept := []float32{-1, 2, -3, 4, 77, 78}
	memory, other := slices.Clone(kept), slices.Clone(kept)
	check := func(name string) {
		if !sameAs(memory, kept) || !sameAs(other, kept) {
			t.Fatalf("%s changes its argument, or the memory behind it: %v %v", name, memory, other)
		}
	}
	impl.CrossingsOf(memory[:4])
	check("CrossingsOf")
	impl.PitchOf(memory[:4], 44100)
	check("PitchOf")
	impl.FirstDifference(memory[:4], other[:4])
	impl.FirstDifference(memory[:3], other[:4])
	impl.FirstDifference(memory[:4], memory[:2])
	check("FirstDifference")
}
