package tests

import (
	"math"
	"math/rand/v2"
	"slices"
	"testing"

	"loop.example/g03222/impl"
)

func wantShape(kind, n int) []float32 {
	shape := make([]float32, n)
	for i := range shape {
		switch kind {
		case 0:
			if i == 0 {
				shape[i] = 1
			}
		case 1:
			shape[i] = ratioSingle(float32(i+1), float32(n))
		case 2:
			t := ratioSingle(float32(2*i+1), float32(2*n))
			shape[i] = productSingle(productSingle(4, t), differenceSingle(1, t))
		}
	}
	return shape
}

func shapeKinds() []int { return []int{impl.ShapeClick, impl.ShapeRamp, impl.ShapeArch} }

func TestP10ConstantsOfShapes(t *testing.T) {
	if impl.MaxShape != 64 || !slices.Equal(shapeKinds(), []int{0, 1, 2}) {
		t.Errorf("MaxShape is %d, the kinds are %v", impl.MaxShape, shapeKinds())
	}
}

func TestP4Shapes(t *testing.T) {
	for _, kind := range shapeKinds() {
		for n := 1; n <= impl.MaxShape; n++ {
			shape, ok := impl.StrikeShape(kind, n)
			if want := wantShape(kind, n); !ok || !sameAs(shape, want) {
				t.Errorf("StrikeShape of kind %d, %d samples: %v %v, want %v", kind, n, shape, ok, want)
			}
		}
	}
}

func TestP4ShapesByHand(t *testing.T) {
	const third, fifth = 0xaaaaab * 0x1p-25, 0xcccccd * 0x1p-26
	for _, c := range []struct {
		kind, n int
		want    []float32
	}{
		{impl.ShapeClick, 1, []float32{1}},
		{impl.ShapeClick, 4, []float32{1, 0, 0, 0}},
		{impl.ShapeRamp, 1, []float32{1}},
		{impl.ShapeRamp, 3, []float32{third, 2 * third, 1}},
		{impl.ShapeRamp, 4, []float32{0.25, 0.5, 0.75, 1}},
		{impl.ShapeRamp, 5, []float32{fifth, 2 * fifth, 0.6, 4 * fifth, 1}},
		{impl.ShapeArch, 1, []float32{1}},
		{impl.ShapeArch, 2, []float32{0.75, 0.75}},
		{impl.ShapeArch, 4, []float32{0.4375, 0.9375, 0.9375, 0.4375}},
		// 1 - 0.9 is not 0.1, rounded, so the end of the arch differs from its beginning.
		{impl.ShapeArch, 5, []float32{0xb851eb * 0x1p-25, 0xd70a3e * 0x1p-24, 1, 0xd70a3e * 0x1p-24, 0xb851ee * 0x1p-25}},
	} {
		if shape, ok := impl.StrikeShape(c.kind, c.n); !ok || !sameAs(shape, c.want) {
			t.Errorf("StrikeShape of kind %d, %d samples: %v %v, want %v", c.kind, c.n, shape, ok, c.want)
		}
	}
	for _, kind := range shapeKinds() {
		shape, ok := impl.StrikeShape(kind, impl.MaxShape)
		if !ok || len(shape) != 64 {
			t.Errorf("StrikeShape of kind %d, MaxShape samples: %v %v", kind, shape, ok)
		}
	}
}

func TestP10ShapesThatFail(t *testing.T) {
	refuse := func(kind, n int) {
		if shape, ok := impl.StrikeShape(kind, n); ok || len(shape) != 0 {
			t.Errorf("StrikeShape of kind %d, %d samples: %v %v", kind, n, shape, ok)
		}
	}
	for _, kind := range []int{-1, 3, 4, 256, 1 << 32, math.MinInt, math.MaxInt} {
		for _, n := range []int{0, 1, 4, impl.MaxShape} {
			refuse(kind, n)
		}
	}
	for _, kind := range shapeKinds() {
		for _, n := range []int{0, -1, -impl.MaxShape, impl.MaxShape + 1, 1<<32 + 1, math.MinInt, math.MaxInt} {
			refuse(kind, n)
		}
	}
}

func wantStrike(b impl.Body, shape []float32, force float32, n int) []float32 {
	input := make([]float32, len(shape))
	for i := range input {
		input[i] = productSingle(shape[i], force)
	}
	return wantRing(b, input, n)
}

func checkStrike(t *testing.T, b impl.Body, shape []float32, force float32, n int) {
	t.Helper()
	outputs, ok := impl.StrikeBody(b, shape, force, n)
	if want := wantStrike(b, shape, force, n); !ok || !sameAs(outputs, want) {
		t.Fatalf("StrikeBody of %v by %v with force %v for %d steps: %v %v, want %v", b, shape, force, n, outputs, ok, want)
	}
}

func TestP4Strikes(t *testing.T) {
	r := newRandom()
	for _, kind := range shapeKinds() {
		for _, length := range []int{1, 2, 3, 17, impl.MaxShape} {
			shape, _ := impl.StrikeShape(kind, length)
			for _, force := range append(specialSingles(), narrow(nearOne(r))) {
				checkStrike(t, anyBody(r, r.IntN(4)), shape, force, 10)
				checkStrike(t, impl.Body{}, shape, force, 2)
			}
			checkStrike(t, anyBody(r, 2), shape, narrow(nearOne(r)), impl.MaxShape+5)
		}
	}
	for range 300 {
		checkStrike(t, anyBody(r, r.IntN(impl.MaxModes+1)), anyInput(r, r.IntN(30)), narrow(nearOne(r)), r.IntN(30))
	}
	for _, modes := range []int{0, 1, impl.MaxModes} {
		for _, n := range []int{0, 1, impl.MaxSamples} {
			checkStrike(t, anyBody(r, modes), anyInput(r, n+3), 0.3, n)
			checkStrike(t, anyBody(r, modes), []float32{1}, -0.3, n)
		}
	}
}

func TestP4StrikesByHand(t *testing.T) {
	half := bodyOf(impl.Mode{Pole: 0.5, Gain: 2})
	still := bodyOf(impl.Mode{Pole: 0.5})
	endless, noNumber, minus := float32(inf), float32(nan), narrow(negativeZero)
	for _, c := range []struct {
		b     impl.Body
		shape []float32
		force float32
		n     int
		want  []float32
	}{
		{half, []float32{1}, 3, 3, []float32{6, 3, 1.5}},
		{half, []float32{0.5, -1}, -2, 3, []float32{-2, 3, 1.5}},
		{half, []float32{1, 1, 1}, 1, 2, []float32{2, 3}},
		{half, []float32{1}, 1, 0, nil},
		{half, nil, 5, 2, []float32{0, 0}},
		{half, []float32{1, 2}, 0, 2, []float32{0, 0}},
		{half, []float32{1, 2}, minus, 2, []float32{0, 0}}, // the sum over -0 begins with 0
		{half, []float32{endless}, 0, 2, []float32{noNumber, noNumber}},
		{half, []float32{1}, noNumber, 2, []float32{noNumber, noNumber}},
		{half, []float32{0, 1}, endless, 2, []float32{noNumber, noNumber}},
		{still, []float32{1}, endless, 1, []float32{noNumber}},
		{impl.Body{}, []float32{1, noNumber}, endless, 3, []float32{0, 0, 0}},
		// Behind the shape, steps are by 0, and not by 0 multiplied by the force.
		{half, nil, endless, 2, []float32{0, 0}},
		{half, nil, noNumber, 2, []float32{0, 0}},
		{bodyOf(impl.Mode{Gain: complex(0x1p-10, 1)}), []float32{1}, 0x1p127, 3, []float32{0x1p117, 0, 0}},
		// The sample is multiplied by the force first: 2^-75 squared is 0, and the
		// greatest number doubled is infinite.
		{bodyOf(impl.Mode{Gain: 1024}), []float32{0x1p-76}, 0x1p-75, 1, []float32{0}},
		{bodyOf(impl.Mode{Gain: complex(0x1p-10, 1)}), []float32{greatestSingle}, 2, 1, []float32{endless}},
		{bodyOf(impl.Mode{Gain: 1}), []float32{1 + 0x1p-13}, 1 + 0x1p-13, 1, []float32{1 + 0x1p-12}},
	} {
		if outputs, ok := impl.StrikeBody(c.b, c.shape, c.force, c.n); !ok || !sameAs(outputs, c.want) {
			t.Errorf("StrikeBody of %v by %v with force %v for %d steps: %v %v, want %v", c.b, c.shape, c.force, c.n, outputs, ok, c.want)
		}
	}
}

func TestP10StrikesThatFail(t *testing.T) {
	refuse := func(b impl.Body, force float32, n int) {
		for _, shape := range [][]float32{nil, {1}, {1, 2, 3}} {
			if outputs, ok := impl.StrikeBody(b, shape, force, n); ok || len(outputs) != 0 {
				t.Errorf("StrikeBody of %v by %v with force %v for %d steps: %v %v", b, shape, force, n, outputs, ok)
			}
		}
	}
	for _, b := range wrongBodies() {
		refuse(b, 1, 3)
		refuse(b, 0, 0)
		refuse(b, float32(nan), 3)
	}
	for _, n := range wrongSteps() {
		refuse(distinctModes(2), 1, n)
		refuse(impl.Body{}, 1, n)
	}
}

func TestP4Levels(t *testing.T) {
	endless, noNumber, minus := float32(inf), float32(nan), narrow(negativeZero)
	small := float32(0x1p-27)
	for _, c := range []struct {
		samples []float32
		energy  float64
		peak    float32
	}{
		{nil, 0, 0},
		{[]float32{}, 0, 0},
		{[]float32{0}, 0, 0},
		{[]float32{minus}, 0, 0},
		{[]float32{minus, 0, minus}, 0, 0},
		{[]float32{-3, 2}, 13, 3},
		{[]float32{3, -2}, 13, 3},
		{[]float32{-3, -4}, 25, 4},
		{[]float32{-2}, 4, 2},
		{[]float32{noNumber}, nan, 0},
		{[]float32{noNumber, -noNumber, noNumber}, nan, 0},
		{[]float32{noNumber, -1, noNumber}, nan, 1},
		{[]float32{2, noNumber, 1}, nan, 2},
		{[]float32{-1, noNumber, -3}, nan, 3},
		{[]float32{1, -endless}, inf, endless},
		{[]float32{endless, -endless, 5}, inf, endless},
		{[]float32{endless, noNumber}, nan, endless},
		{[]float32{noNumber, -endless}, nan, endless},
		{[]float32{leastSingle}, 0x1p-298, leastSingle},
		{[]float32{-leastSingle, 0}, 0x1p-298, leastSingle},
		{[]float32{greatestSingle, -greatestSingle}, 2 * greatestSingle * greatestSingle, greatestSingle},
		{[]float32{1 + 0x1p-23}, 1 + 0x1p-22 + 0x1p-46, 1 + 0x1p-23},
		// The sum is taken in double precision, in order.
		{[]float32{1, 0x1p-13}, 1 + 0x1p-26, 1},
		{[]float32{1, small, small, small, small}, 1, 1},
		{[]float32{small, small, small, small, 1}, 1 + 0x1p-52, 1},
	} {
		if energy := impl.EnergyOf(c.samples); !same(energy, c.energy) {
			t.Errorf("EnergyOf %v: %v, want %v", c.samples, energy, c.energy)
		}
		if peak := impl.PeakOf(c.samples); !sameSingle(peak, c.peak) {
			t.Errorf("PeakOf %v: %v, want %v", c.samples, peak, c.peak)
		}
	}
}

// wantPeak sorts the absolute values that are numbers.
func wantPeak(samples []float32) float32 {
	levels := []float64{0}
	for _, x := range samples {
		if !math.IsNaN(float64(x)) {
			levels = append(levels, math.Abs(float64(x)))
		}
	}
	slices.Sort(levels)
	return float32(levels[len(levels)-1])
}

func TestP4LevelsOfAnySamples(t *testing.T) {
	r := newRandom()
	for range 1000 {
		samples := wildOrTame(r, r.IntN(50))
		energy := 0.0
		for _, x := range samples {
			energy = sum(energy, product(float64(x), float64(x)))
		}
		if got := impl.EnergyOf(samples); !same(got, energy) {
			t.Fatalf("EnergyOf %v: %v, want %v", samples, got, energy)
		}
		if got, want := impl.PeakOf(samples), wantPeak(samples); !sameSingle(got, want) {
			t.Fatalf("PeakOf %v: %v, want %v", samples, got, want)
		}
	}
}

// wildOrTame draws samples that are all wild, or all of them near 1.
func wildOrTame(r *rand.Rand, n int) []float32 {
	if r.IntN(2) == 0 {
		return wildSamples(r, n)
	}
	return anyInput(r, n)
}

// wildSamples draws from all bit patterns and from the special numbers.
func wildSamples(r *rand.Rand, n int) []float32 {
	samples := make([]float32, n)
	for i := range samples {
		samples[i] = anySingle(r)
		if r.IntN(2) == 0 {
			samples[i] = specialSingles()[r.IntN(17)]
		}
	}
	return samples
}

func TestP10StrikesKeepNothing(t *testing.T) {
	for _, kind := range shapeKinds() {
		first, _ := impl.StrikeShape(kind, 4)
		second, _ := impl.StrikeShape(kind, 4)
		first[1] = 77
		if _ = append(first, 77); !sameAs(second, wantShape(kind, 4)) {
			t.Errorf("two shapes of kind %d share memory: %v", kind, second)
		}
	}
	b, memory := distinctModes(3), []float32{1, 2, 3, 9}
	shape := memory[:3]
	first, _ := impl.StrikeBody(b, shape, 2, 3)
	second, _ := impl.StrikeBody(b, shape, 2, 3)
	if !sameAs(first, second) || !sameAs(memory, []float32{1, 2, 3, 9}) || !sameBody(b, distinctModes(3)) {
		t.Errorf("StrikeBody twice: %v, then %v; shape %v, body %v", first, second, memory, b)
	}
	first[0] = 77
	if memory[0] != 1 || second[0] == 77 {
		t.Error("the outputs share memory with the shape or with each other")
	}
	if impl.EnergyOf(shape); !sameAs(memory, []float32{1, 2, 3, 9}) || impl.PeakOf(shape) != 3 {
		t.Errorf("the levels change the samples: %v", memory)
	}
}
