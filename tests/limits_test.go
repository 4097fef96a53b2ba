package tests

import (
	"math"
	"math/rand/v2"
	"slices"
	"testing"

	"loop.example/g03222/impl"
)

func checkLimit(t *testing.T, envelope, x, ceiling, release float32) {
	t.Helper()
	sample, next := impl.LimitNext(envelope, x, ceiling, release)
	if wantSample, want := wantLimit(envelope, x, ceiling, release); !sameSingle(sample, wantSample) || !sameSingle(next, want) {
		t.Fatalf("LimitNext of %v, %v, %v, %v: %v %v, want %v %v", envelope, x, ceiling, release, sample, next, wantSample, want)
	}
}

func TestP10LimiterByHand(t *testing.T) {
	noNumber, endless, minus := float32(nan), float32(inf), narrow(negativeZero)
	const most, small = greatestSingle, leastSingle
	for _, c := range []struct{ envelope, x, ceiling, release, sample, next float32 }{
		{0, 0, 1, 0.5, 0, 0},
		{0, minus, 1, 0.5, minus, 0},
		{0, 0.5, 1, 0.5, 0.5, 0.5},
		{0, -0.5, 1, 0.5, -0.5, 0.5},
		{0, 1, 1, 0.5, 1, 1}, // an envelope that is equal to the Ceiling
		{0, 4, 1, 0.5, 1, 4},
		{0, -4, 1, 0.5, -1, 4},
		{0, 4, 3, 0.5, 3, 4},
		{0, 1.5, 1, 0.5, 1, 1.5},
		{0, oneOver(1), 1, 0.5, 1, oneOver(1)},
		{8, 1, 1, 0.5, 0.25, 4},
		{8, -1, 1, 0.5, -0.25, 4},
		{8, 4, 1, 0.5, 1, 4},
		{8, 5, 1, 0.5, 1, 5},
		{8, 0, 1, 0.5, 0, 4},
		{8, minus, 1, 0.5, minus, 4},
		{2, 0.5, 1, 0.5, 0.5, 1}, // falls to the Ceiling
		{1.5, 0.5, 1, 0.5, 0.5, 0.75},
		{8, 0.5, 1, 0, 0.5, 0.5},
		{8, 0, 1, 0, 0, 0},
		{8, 2, 1, 1, 0.25, 8},
		{8, 2, 16, 1, 2, 8},
		{3, 1, 1, 1, 0x1.555556p-2, 3},
		// The envelope is NaN, infinite, or becomes so.
		{noNumber, 5, 1, 0.5, 5, noNumber},
		{noNumber, endless, 1, 0.5, endless, noNumber},
		{noNumber, noNumber, 1, 0.5, noNumber, noNumber},
		{endless, 5, 1, 0, 5, noNumber},
		{endless, 5, 1, 0.5, 0, endless},
		{endless, -5, 1, 0.5, minus, endless},
		{endless, endless, 1, 1, noNumber, endless},
		{0, endless, 1, 0.5, noNumber, endless},
		{0, -endless, 1, 0.5, noNumber, endless},
		{0.5, noNumber, 1, 0.5, noNumber, 0.25},
		{8, noNumber, 1, 0.5, noNumber, 4},
		// The smallest and the greatest Ceiling
		{0, small, small, 1, small, small},
		{0, 3 * small, 2 * small, 1, 0, 3 * small}, // the product is 0, rounded
		{0, 1, small, 1, small, 1},
		{0, most, small, 1, small, most},
		{2, 1, small, 1, 0, 2}, // half of the least number is a tie, and so is 3 times that
		{2, 1, 3 * small, 1, 2 * small, 2},
		{0, most, most, 1, most, most},
		{0, -most, most, 1, -most, most},
		{0, endless, most, 1, noNumber, endless},
		{0, most, 2, 1, endless, most}, // the product is infinite
		{0, 0x1p127, 2, 1, endless, 0x1p127},
		{0, 0x1p126, 2, 1, 2, 0x1p126},
		{small, small, 1, 0.5, small, small},
		{small, 0, 1, 0.5, 0, 0}, // half of the least number is 0
		{small, 0, 1, 0.75, 0, small},
		// What no score has
		{-1, 0, 1, 1, 0, 0},
		{minus, 0, 1, 1, 0, minus}, // 0 is not greater than -0
		{0, minus, 1, -1, minus, minus},
		{-8, 5, 1, 1, 1, 5},
		{-8, 5, 1, -1, 0.625, 8},
		{1, 1, 1, 4, 0.25, 4},
		{0, 2, 0, 1, 0, 2},
		{0, 2, -1, 1, -1, 2},
		{0, 0, -1, 1, noNumber, 0},
		{0, 0, minus, 1, 0, 0},
		{-1, 1, -4, 1, -4, 1},
		{-4, 0.5, -8, 1, -8, 0.5},
		{-4, 0, -8, 1, noNumber, 0},
		{1, noNumber, -1, -0.5, noNumber, -0.5},
		{0, 5, noNumber, 1, 5, 5},
		{8, 5, 1, noNumber, 5, noNumber},
		{0, 5, endless, 1, 5, 5},
		{0, 5, -endless, 1, -endless, 5},
		{8, 5, 1, endless, 0, endless},
		{8, 5, 1, -endless, 1, 5},
		{most, 1, 1, 2, 0, endless},
		{0, 1, 1, endless, 1, noNumber},
	} {
		sample, next := impl.LimitNext(c.envelope, c.x, c.ceiling, c.release)
		if !sameSingle(sample, c.sample) || !sameSingle(next, c.next) {
			t.Errorf("LimitNext of %v, %v, %v, %v: %v %v, want %v %v", c.envelope, c.x, c.ceiling, c.release, sample, next, c.sample, c.next)
		}
		checkLimit(t, c.envelope, c.x, c.ceiling, c.release)
	}
}

func TestP10LimiterOfAnyNumbers(t *testing.T) {
	r := newRandom()
	list := specialSingles()
	for _, envelope := range list {
		for _, x := range list {
			for _, ceiling := range list {
				for _, release := range list {
					checkLimit(t, envelope, x, ceiling, release)
				}
			}
		}
	}
	for range 20000 {
		checkLimit(t, anySingle(r), anySingle(r), anySingle(r), anySingle(r))
		checkLimit(t, absolute(anyLevel(r)), anyLevel(r), absolute(anyLevel(r)), r.Float32())
		checkLimit(t, absolute(anyLevel(r)), anyLevel(r), r.Float32(), 1)
	}
}

// anyLevel draws a sample that is seldom far from 1.
func anyLevel(r *rand.Rand) float32 { return narrow(math.Ldexp(nearOne(r), r.IntN(9)-4)) }

func wantLimited(x []float32, ceiling, release float32) []float32 {
	var list []float32
	sample, envelope := float32(0), float32(0)
	for i := range x {
		sample, envelope = wantLimit(envelope, x[i], ceiling, release)
		list = append(list, sample)
	}
	return list
}

func TestP10LimitedSamplesByHand(t *testing.T) {
	noNumber, endless, minus := float32(nan), float32(inf), narrow(negativeZero)
	for _, c := range []struct {
		x                []float32
		ceiling, release float32
		want             []float32
	}{
		{nil, 1, 0, nil},
		{[]float32{}, leastSingle, 1, nil},
		{[]float32{minus}, 1, 1, []float32{minus}},
		{[]float32{0, 4, 0, 2, 2, 0.5}, 1, 0.5, []float32{0, 1, 0, 1, 1, 0.5}},
		{[]float32{4, 1, 1, 1, 1}, 1, 0.5, []float32{1, 0.5, 1, 1, 1}},
		{[]float32{4, -1, 1, -3, 8, 1, minus}, 1, 1, []float32{1, -0.25, 0.25, -0.75, 1, 0.125, minus}},
		{[]float32{4, -1, 1, -3, 8, 1, minus}, 1, 0, []float32{1, -1, 1, -1, 1, 1, minus}},
		{[]float32{16, 1, 1, 1, 1, 1}, 2, 0.25, []float32{2, 0.5, 1, 1, 1, 1}},
		// The envelope falls below the Ceiling, and rises above it again.
		{[]float32{3, 1, 1, 4, 1}, 1, 0.5, []float32{1, 0x1.555556p-1, 1, 1, 0.5}},
		{[]float32{1, 2, 3}, 1, 1, []float32{1, 1, 1}},
		{[]float32{1, noNumber, 4, noNumber, 1}, 2, 0.5, []float32{1, noNumber, 2, noNumber, 1}},
		{[]float32{endless, 5, -5, endless, noNumber}, 1, 0.5, []float32{noNumber, 0, minus, noNumber, noNumber}},
		{[]float32{-endless, 5, 7, endless, noNumber}, 1, 0, []float32{noNumber, 5, 7, endless, noNumber}},
		{[]float32{5, 1, endless, 1}, greatestSingle, 1, []float32{5, 1, noNumber, 0}},
	} {
		kept := slices.Clone(c.x)
		samples, ok := impl.LimitSamples(c.x, c.ceiling, c.release)
		if !ok || !sameAs(samples, c.want) || !sameAs(c.x, kept) {
			t.Errorf("LimitSamples of %v, %v, %v: %v %v, want %v", kept, c.ceiling, c.release, samples, ok, c.want)
		}
		if want := wantLimited(c.x, c.ceiling, c.release); !sameAs(c.want, want) {
			t.Errorf("%v are not what is told by hand, %v", want, c.want)
		}
	}
}

func TestP10LimitedSamplesOfAnyNumbers(t *testing.T) {
	r := newRandom()
	for range 1000 {
		x, s := wildOrTame(r, r.IntN(60)), anyScore(r)
		samples, ok := impl.LimitSamples(x, s.Ceiling, s.Release)
		if want := wantLimited(x, s.Ceiling, s.Release); !ok || !sameAs(samples, want) {
			t.Fatalf("LimitSamples of %v, %v, %v: %v %v, want %v", x, s.Ceiling, s.Release, samples, ok, want)
		}
	}
	// A score has no more samples than MaxSamples, but a list may.
	x := anyInput(r, 5*impl.MaxSamples)
	if samples, ok := impl.LimitSamples(x, 0.3, 0.999); !ok || !sameAs(samples, wantLimited(x, 0.3, 0.999)) {
		t.Errorf("LimitSamples of many samples: %v", ok)
	}
}

// limits are a Ceiling and a Release, and whether a score may have both.
type limits struct {
	ceiling, release float32
	valid            bool
}

func manyLimits() []limits {
	var list []limits
	ceilings := append(specialSingles(), 0.5, 0x1p127)
	releases := slices.Concat(factors(), wrongFactors(), specialSingles())
	for _, ceiling := range ceilings {
		for _, release := range releases {
			s := impl.Score{Voices: 1, Ceiling: ceiling, Release: release}
			list = append(list, limits{ceiling, release, wantScore(s)})
		}
	}
	return append(list, limits{1, narrow(negativeZero), false}, limits{0, 1, false}, limits{leastSingle, 0, true}, limits{1, 1, true})
}

func TestP10LimitsThatScoresMayHave(t *testing.T) {
	tracks := [][]float32{{0, 1, 2}, {4, 0, -1}}
	for _, c := range manyLimits() {
		for _, x := range [][]float32{nil, {}, {1, 2, 3}} {
			samples, ok := impl.LimitSamples(x, c.ceiling, c.release)
			if ok != c.valid || ok && !sameAs(samples, wantLimited(x, c.ceiling, c.release)) || !ok && len(samples) != 0 {
				t.Errorf("LimitSamples of %v, %v, %v: %v %v", x, c.ceiling, c.release, samples, ok)
			}
		}
		for _, list := range [][][]float32{nil, {}, {{}}, tracks} {
			samples, ok := impl.MixTracks(list, c.ceiling, c.release)
			if ok != c.valid || ok && !sameAs(samples, wantMix(list, c.ceiling, c.release)) || !ok && len(samples) != 0 {
				t.Errorf("MixTracks of %v, %v, %v: %v %v", list, c.ceiling, c.release, samples, ok)
			}
		}
	}
}

// Of finite samples, each one comes out at most as high as the ceiling, if the
// product by it does not overflow. The product is rounded by at most 2^-24 of it,
// or by 2^-150 if it is small, and so is the quotient.
func TestP8LimitedSamplesKeepToTheCeiling(t *testing.T) {
	r := newRandom()
	limited := 0
	for range 3000 {
		s := anyScore(r)
		x := anyInput(r, 50)
		if r.IntN(3) == 0 {
			s.Ceiling, s.Release = absolute(anyLevel(r))+leastSingle, r.Float32()
		}
		for i := range x {
			x[i] = narrow(math.Ldexp(float64(x[i]), r.IntN(8)))
			if r.IntN(4) == 0 {
				x[i] = narrow(math.Ldexp(float64(x[i]), r.IntN(100)-90))
			}
		}
		samples, ok := impl.LimitSamples(x, s.Ceiling, s.Release)
		if !ok {
			t.Fatalf("LimitSamples of %v, %v, %v fails", x, s.Ceiling, s.Release)
		}
		for i, sample := range samples {
			if !keepsTo(s.Ceiling, x[i], sample) {
				t.Fatalf("sample %d of %v, limited to %v, is %v", i, x, s.Ceiling, sample)
			}
			if !sameSingle(sample, x[i]) {
				limited++
			}
		}
	}
	if limited < 10000 {
		t.Errorf("only %d samples were limited", limited)
	}
}

func keepsTo(ceiling, x, sample float32) bool {
	highest, level := float64(ceiling), math.Abs(float64(x))
	if level*highest > greatestSingle {
		return true
	}
	return math.Abs(float64(sample)) <= highest*(1+0x1p-22)+0x1p-149/level+0x1p-149
}

// As long as the envelope is not above the ceiling, samples are left alone.
func TestP8LowSamplesAreLeftAlone(t *testing.T) {
	r := newRandom()
	for range 300 {
		x, release := anyInput(r, 40), r.Float32()
		ceiling := wantPeak(x)
		samples, ok := impl.LimitSamples(x, ceiling, release)
		higher, fine := impl.LimitSamples(x, 2*ceiling, 1)
		if !ok || !fine || !sameAs(samples, x) || !sameAs(higher, x) {
			t.Fatalf("LimitSamples of %v to their peak: %v %v, %v %v", x, samples, ok, higher, fine)
		}
		if lower, _ := impl.LimitSamples(x, ceiling/2, 0); sameAs(lower, x) {
			t.Fatalf("LimitSamples of %v to half of their peak leaves them", x)
		}
	}
}
