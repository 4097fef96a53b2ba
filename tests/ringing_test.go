package tests

import (
	"math"
	"slices"
	"testing"

	"loop.example/g03222/impl"
)

func TestP3StepsOfModes(t *testing.T) {
	check := func(m impl.Mode, state complex64, x float32) {
		if next, want := impl.StepMode(m, state, x), wantStep(m, state, x); !sameBothSingle(next, want) {
			t.Fatalf("StepMode of %v in %v by %v: %v, want %v", m, state, x, next, want)
		}
	}
	values := specialComplexesSingle()
	for i, z := range values {
		for k, x := range specialSingles() {
			check(impl.Mode{Pole: z, Gain: complex(1, -2)}, complex(0.1, 3), x)
			check(impl.Mode{Pole: complex(0.6, -0.7), Gain: z}, 1, x)
			check(impl.Mode{Pole: complex(0.6, -0.7), Gain: values[(7*i+k)%len(values)]}, z, x)
		}
	}
	r := newRandom()
	for range 20000 {
		check(anyMode(r), narrowBoth(nearOneComplex(r)), narrow(nearOne(r)))
		check(impl.Mode{Pole: anyComplexSingle(r), Gain: anyComplexSingle(r)}, anyComplexSingle(r), anySingle(r))
	}
}

func TestP3StepsOfModesByHand(t *testing.T) {
	noNumber, endless, minus := float32(nan), float32(inf), narrow(negativeZero)
	tiny := float32(0x1p-24)
	for _, c := range []struct {
		m     impl.Mode
		state complex64
		x     float32
		want  complex64
	}{
		{impl.Mode{Pole: 0.5, Gain: 2}, complex(0, 2), 1, complex(2, 1)},
		{impl.Mode{Pole: complex(0, 1), Gain: complex(1, 1)}, complex(3, 4), -2, complex(-6, 1)},
		{impl.Mode{Pole: complex(3, 5), Gain: 4096}, complex(1, 1), 2, complex(8190, 8)},
		{impl.Mode{}, complex(8, 9), 5, 0},
		{impl.Mode{Pole: -1, Gain: complex(minus, 0)}, 0, 1, complex(minus, 0)},
		{impl.Mode{Pole: 1}, complex(endless, 0), 0, complex(endless, noNumber)},
		{impl.Mode{Pole: 1, Gain: complex(1, 0)}, 0, endless, complex(endless, noNumber)},
		{impl.Mode{Pole: 1, Gain: complex(0, 1)}, 0, noNumber, complex(noNumber, noNumber)},
		// The product of the state, 1 + 2^-12 + 2^-26, loses its last digit before
		// the gain is added; so does the gain, scaled, in the second case.
		{impl.Mode{Pole: 1 + 0x1p-13, Gain: -1}, 1 + 0x1p-13, 1, 0x1p-12},
		{impl.Mode{Pole: 1, Gain: 1 + 0x1p-13}, -1, 1 + 0x1p-13, 0x1p-12},
		// Within the product, nothing is rounded to single precision.
		{impl.Mode{Pole: complex(1+0x1p-12, 1)}, complex(1+0x1p-12, 1+0x1p-11), 0, complex(tiny, 2+0x1p-10)},
	} {
		if next := impl.StepMode(c.m, c.state, c.x); !sameBothSingle(next, c.want) {
			t.Errorf("StepMode of %v in %v by %v: %v, want %v", c.m, c.state, c.x, next, c.want)
		}
	}
}

func TestP3BodiesStepAsTheirModes(t *testing.T) {
	r := newRandom()
	check := func(b impl.Body, states []complex64, x float32) {
		before := slices.Clone(states)
		next, output, ok := impl.StepBody(b, states, x)
		if !ok || len(next) != len(states) || !sameStates(states, before) {
			t.Fatalf("StepBody of %v in %v by %v: %v %v", b, before, x, next, ok)
		}
		want := float32(0)
		for i, m := range b.Modes {
			if one := wantStep(m, states[i], x); !sameBothSingle(next[i], one) || !sameBothSingle(next[i], impl.StepMode(m, states[i], x)) {
				t.Fatalf("state %d of StepBody of %v in %v by %v: %v, want %v", i, b, states, x, next[i], one)
			}
			want = sumSingle(want, real(next[i]))
		}
		if !sameSingle(output, want) {
			t.Fatalf("output of StepBody of %v in %v by %v: %v, want %v", b, states, x, output, want)
		}
	}
	for range 2000 {
		b := anyBody(r, r.IntN(impl.MaxModes+1))
		states, wild := make([]complex64, len(b.Modes)), make([]complex64, len(b.Modes))
		for i := range states {
			states[i], wild[i] = narrowBoth(nearOneComplex(r)), anyComplexSingle(r)
		}
		check(b, states, narrow(nearOne(r)))
		check(b, wild, anySingle(r))
		check(b, states, specialSingles()[r.IntN(17)])
	}
}

func TestP3StepsOfBodiesByHand(t *testing.T) {
	minus := narrow(negativeZero)
	next, output, ok := impl.StepBody(impl.Body{}, nil, float32(nan))
	if !ok || len(next) != 0 || !sameSingle(output, 0) {
		t.Errorf("StepBody without modes: %v %v %v", next, output, ok)
	}
	next, output, ok = impl.StepBody(bodyOf(impl.Mode{Pole: -1, Gain: complex(minus, 0)}), []complex64{0}, 1)
	if !ok || !sameStates(next, []complex64{complex(minus, 0)}) || !sameSingle(output, 0) {
		t.Errorf("the sum over -0 is not 0: %v %v %v", next, output, ok)
	}
	// From the first mode on, 2^24 + 1 + 1 - 2^24 is 0 in single precision.
	b := bodyOf(impl.Mode{Gain: 1024}, impl.Mode{Gain: 0x1p-14}, impl.Mode{Gain: 0x1p-14}, impl.Mode{Gain: -1024})
	_, output, ok = impl.StepBody(b, make([]complex64, 4), 0x1p14)
	if !ok || !sameSingle(output, 0) {
		t.Errorf("the sum in single precision, in order: %v %v", output, ok)
	}
	full := bodyOfPoles(make([]complex64, impl.MaxModes)...)
	if _, output, ok = impl.StepBody(full, make([]complex64, impl.MaxModes), 3); !ok || output != 48 {
		t.Errorf("StepBody of MaxModes modes: %v %v", output, ok)
	}
}

func TestP10StepsThatFail(t *testing.T) {
	refuse := func(b impl.Body, states []complex64) {
		if next, output, ok := impl.StepBody(b, states, 1); ok || len(next) != 0 || !sameSingle(output, 0) {
			t.Errorf("StepBody of %v in %v: %v %v %v", b, states, next, output, ok)
		}
	}
	for _, b := range wrongBodies() {
		refuse(b, make([]complex64, len(b.Modes)))
	}
	refuse(impl.Body{}, make([]complex64, 1))
	for _, n := range []int{1, 2, impl.MaxModes} {
		refuse(distinctModes(n), nil)
		refuse(distinctModes(n), make([]complex64, n-1))
		refuse(distinctModes(n), make([]complex64, n+1))
	}
}

func checkRinging(t *testing.T, b impl.Body, input []float32, n int) {
	t.Helper()
	single, ok := impl.RingBody(b, input, n)
	if want := wantRing(b, input, n); !ok || !sameAs(single, want) {
		t.Fatalf("RingBody of %v by %v for %d steps: %v %v, want %v", b, input, n, single, ok, want)
	}
	double, ok := impl.RingDouble(b, input, n)
	if want := wantRingDouble(b, input, n); !ok || !sameAs(double, want) {
		t.Fatalf("RingDouble of %v by %v for %d steps: %v %v, want %v", b, input, n, double, ok, want)
	}
	drift, ok := impl.DriftOf(b, input, n)
	if want := wantDrift(single, double); !ok || !same(drift, want) {
		t.Fatalf("DriftOf %v by %v for %d steps: %v %v, want %v", b, input, n, drift, ok, want)
	}
}

func TestP3BodiesRing(t *testing.T) {
	r := newRandom()
	for range 400 {
		b, n := anyBody(r, r.IntN(impl.MaxModes+1)), r.IntN(60)
		checkRinging(t, b, anyInput(r, r.IntN(2*n+2)), n)
	}
	wild := []float32{1, float32(nan), 2, float32(inf), 3, float32(-inf), greatestSingle, -greatestSingle, leastSingle, narrow(negativeZero)}
	for range 200 {
		b, n := anyBody(r, 1+r.IntN(4)), r.IntN(20)
		input := anyInput(r, r.IntN(20))
		for i := range input {
			if r.IntN(4) == 0 {
				input[i] = wild[r.IntN(len(wild))]
			}
		}
		checkRinging(t, b, input, n)
	}
	for _, modes := range []int{0, 1, impl.MaxModes} {
		for _, n := range []int{0, 1, impl.MaxSamples} {
			for _, length := range []int{0, 1, n, n + 1, impl.MaxSamples + 10} {
				checkRinging(t, anyBody(r, modes), anyInput(r, length), n)
			}
		}
	}
}

// The outputs of a body are those that its steps give, one after the other.
func TestP3RingingIsStepping(t *testing.T) {
	r := newRandom()
	for range 100 {
		b, input, n := anyBody(r, r.IntN(impl.MaxModes+1)), anyInput(r, r.IntN(100)), r.IntN(100)
		ring, ok := impl.RingBody(b, input, n)
		if !ok || len(ring) != n {
			t.Fatalf("RingBody of %v: %d outputs, %v", b, len(ring), ok)
		}
		states := make([]complex64, len(b.Modes))
		for i := range n {
			x, output := float32(0), float32(0)
			if i < len(input) {
				x = input[i]
			}
			states, output, ok = impl.StepBody(b, states, x)
			if !ok || !sameSingle(output, ring[i]) {
				t.Fatalf("step %d of %v: %v, but RingBody %v", i, b, output, ring[i])
			}
		}
	}
}

func TestP3RingingByHand(t *testing.T) {
	half, turning := impl.Mode{Pole: 0.5, Gain: 2}, impl.Mode{Pole: complex(0, 1), Gain: 1}
	endless, noNumber := float32(inf), float32(nan)
	for _, c := range []struct {
		b     impl.Body
		input []float32
		n     int
		want  []float32
	}{
		{bodyOf(half), []float32{1}, 3, []float32{2, 1, 0.5}},
		{bodyOf(half), []float32{1, 2, 4, 8}, 2, []float32{2, 5}},
		{bodyOf(half), nil, 2, []float32{0, 0}},
		{bodyOf(half), []float32{1}, 0, nil},
		{bodyOf(turning), []float32{1}, 6, []float32{1, 0, -1, 0, 1, 0}},
		{bodyOf(half, turning), []float32{0, 1}, 4, []float32{0, 3, 1, -0.5}},
		{impl.Body{}, []float32{1, noNumber}, 3, []float32{0, 0, 0}},
		{bodyOf(half), []float32{1, noNumber, 1}, 3, []float32{2, noNumber, noNumber}},
		{bodyOf(impl.Mode{Pole: 0.5, Gain: complex(2, 1)}), []float32{endless}, 2, []float32{endless, noNumber}},
		{bodyOf(impl.Mode{Pole: 1, Gain: 1024}), []float32{greatestSingle}, 2, []float32{endless, endless}},
	} {
		if ring, ok := impl.RingBody(c.b, c.input, c.n); !ok || !sameAs(ring, c.want) {
			t.Errorf("RingBody of %v by %v for %d steps: %v %v, want %v", c.b, c.input, c.n, ring, ok, c.want)
		}
	}
	double, ok := impl.RingDouble(bodyOf(impl.Mode{Pole: 0.1, Gain: 1024}), []float32{greatestSingle, 0.1}, 2)
	want := []float64{greatestSingle * 1024, sum(product(greatestSingle*1024, float64(float32(0.1))), 1024*float64(float32(0.1)))}
	if !ok || !sameAs(double, want) {
		t.Errorf("RingDouble of what is too great for single precision: %v %v, want %v", double, ok, want)
	}
}

func TestP10Drift(t *testing.T) {
	noNumber, endless := float32(nan), float32(inf)
	slow := impl.Mode{Pole: 1, Gain: 1}
	for _, c := range []struct {
		b     impl.Body
		input []float32
		n     int
		want  float64
	}{
		{impl.Body{}, []float32{1, noNumber}, 5, 0},
		{bodyOf(slow), nil, 5, 0},
		{bodyOf(slow), []float32{1, 0x1p-24}, 0, 0},
		{bodyOf(slow), []float32{1, 0x1p-24}, 1, 0},
		{bodyOf(slow), []float32{1, 0x1p-24}, 3, 0x1p-24},
		{bodyOf(slow), []float32{-1, -0x1p-24}, 3, 0x1p-24},
		{bodyOf(slow), []float32{1, 0x1p-24, -0x1p-24, noNumber}, 6, 0x1p-24},
		{bodyOf(slow), []float32{noNumber, 1, 0x1p-24}, 3, 0},
		{bodyOf(slow), []float32{endless}, 1, 0},
		// Only the single precision is exceeded.
		{bodyOf(impl.Mode{Pole: 0, Gain: 2}), []float32{1, greatestSingle, noNumber}, 3, inf},
		{bodyOf(impl.Mode{Pole: 0, Gain: -2}), []float32{greatestSingle}, 1, inf},
	} {
		if drift, ok := impl.DriftOf(c.b, c.input, c.n); !ok || !same(drift, c.want) {
			t.Errorf("DriftOf %v by %v for %d steps: %v %v, want %v", c.b, c.input, c.n, drift, ok, c.want)
		}
	}
}

func TestP10RingingThatFails(t *testing.T) {
	refuse := func(b impl.Body, n int) {
		if ring, ok := impl.RingBody(b, []float32{1}, n); ok || len(ring) != 0 {
			t.Errorf("RingBody of %v for %d steps: %v %v", b, n, ring, ok)
		}
		if ring, ok := impl.RingDouble(b, []float32{1}, n); ok || len(ring) != 0 {
			t.Errorf("RingDouble of %v for %d steps: %v %v", b, n, ring, ok)
		}
		if drift, ok := impl.DriftOf(b, []float32{1, 0.1, 0.1}, n); ok || !same(drift, 0) {
			t.Errorf("DriftOf %v for %d steps: %v %v", b, n, drift, ok)
		}
	}
	for _, b := range wrongBodies() {
		refuse(b, 3)
		refuse(b, 0)
	}
	for _, n := range wrongSteps() {
		refuse(bodyOf(impl.Mode{Pole: 0.9, Gain: 1}), n)
		refuse(impl.Body{}, n)
	}
}

// checkBound checks the bound of the third promise.
func checkBound(t *testing.T, b impl.Body, input []float32, n int) {
	t.Helper()
	gains, samples := 0.0, 0.0
	for _, m := range b.Modes {
		gains += math.Abs(float64(real(m.Gain))) + math.Abs(float64(imag(m.Gain)))
	}
	for _, x := range input {
		samples += math.Abs(float64(x))
	}
	if !finitePart(samples) || gains*samples > 0x1p100 {
		t.Fatalf("an input to which the bound does not apply: %v %v", gains, samples)
	}
	bound := float64(n+len(b.Modes)+1)*gains*samples*0x1p-20 + 0x1p-100
	single, fine := impl.RingBody(b, input, n)
	double, ok := impl.RingDouble(b, input, n)
	if !fine || !ok {
		t.Fatalf("%v does not ring for %d steps", b, n)
	}
	for i := range single {
		if drift := math.Abs(double[i] - float64(single[i])); !(drift <= bound) {
			t.Fatalf("output %d of %v by %v: %v, in double precision %v", i, b, input, single[i], double[i])
		}
	}
	if drift, ok := impl.DriftOf(b, input, n); !ok || !(drift <= bound) {
		t.Fatalf("DriftOf %v by %v for %d steps: %v %v, bound %v", b, input, n, drift, ok, bound)
	}
}

func TestP3BoundOfDrift(t *testing.T) {
	r := newRandom()
	for range 300 {
		n := r.IntN(impl.MaxSamples + 1)
		checkBound(t, anyBody(r, r.IntN(impl.MaxModes+1)), anyInput(r, r.IntN(100)), n)
	}
	for _, x := range []float32{0x1p86, 0x1p80, 1, 0x1p-100, 0x1p-140, leastSingle} {
		for range 20 {
			b := anyBody(r, 1+r.IntN(4))
			for i := range b.Modes {
				b.Modes[i].Gain = complex(1024, -1024)
			}
			checkBound(t, b, []float32{x / 2, -x / 4, x / 8}, impl.MaxSamples)
			for i := range b.Modes {
				b.Modes[i].Gain = complex(leastSingle, 3*leastSingle)
			}
			checkBound(t, b, []float32{x / 2, -x / 4, x / 8}, impl.MaxSamples)
		}
	}
	slowest := bodyOfPoles(1, -1, complex(0, 1), complex(0.6, 0.79999995), complex(-0.70710677, 0.70710677))
	checkBound(t, slowest, anyInput(r, impl.MaxSamples), impl.MaxSamples)
	checkBound(t, bodyOf(impl.Mode{Pole: 0.9, Gain: 0}), []float32{greatestSingle}, 10)
	checkBound(t, impl.Body{}, []float32{greatestSingle}, 10)
	checkBound(t, slowest, nil, impl.MaxSamples)
}

func TestP10RingingKeepsNothing(t *testing.T) {
	b, states := distinctModes(3), make([]complex64, 3, 8)
	spare := states[:8]
	spare[5] = 9
	first, _, _ := impl.StepBody(b, states, 1)
	second, _, _ := impl.StepBody(b, states, 1)
	if !sameStates(first, second) || !sameStates(spare, []complex64{0, 0, 0, 0, 0, 9, 0, 0}) {
		t.Errorf("StepBody twice: %v, then %v; states %v", first, second, spare)
	}
	first[0] = 77
	if states[0] != 0 || second[0] == 77 {
		t.Error("the new states share memory with other states")
	}
	input := []float32{1, 2, 3}
	ring, _ := impl.RingBody(b, input, 3)
	again, _ := impl.RingBody(b, input, 3)
	if !sameAs(ring, again) || !sameAs(input, []float32{1, 2, 3}) || !sameBody(b, distinctModes(3)) {
		t.Errorf("RingBody twice: %v, then %v; input %v, body %v", ring, again, input, b)
	}
	ring[0] = 77
	if input[0] != 1 || again[0] == 77 {
		t.Error("the outputs share memory with the input or with each other")
	}
}
