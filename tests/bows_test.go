package tests

import (
	"math"
	"testing"

	"loop.example/g03222/impl"
)

// wantForce returns the force of a bow, and whether it sticks.
func wantForce(bow, velocity, grip float32) (float32, bool) {
	d := differenceSingle(bow, velocity)
	distance := math.Abs(float64(d))
	if math.IsNaN(distance) || math.IsNaN(float64(grip)) || distance > float64(grip) {
		return ratioSingle(productSingle(grip, grip), d), false
	}
	return d, true
}

func TestP4ForcesOfBows(t *testing.T) {
	check := func(bow, velocity, grip float32) {
		want, _ := wantForce(bow, velocity, grip)
		if force := impl.BowForce(bow, velocity, grip); !sameSingle(force, want) {
			t.Fatalf("BowForce of %v at %v with grip %v: %v, want %v", bow, velocity, grip, force, want)
		}
	}
	values := append(specialSingles(), 2, 0.5, 0x1p-100, -0x1p100)
	for _, bow := range values {
		for _, velocity := range values {
			for _, grip := range values {
				check(bow, velocity, grip)
			}
		}
	}
	r := newRandom()
	for range 20000 {
		bow, velocity, grip := narrow(nearOne(r)), narrow(nearOne(r)), narrow(nearOne(r))
		check(bow, velocity, grip)
		check(bow, velocity, differenceSingle(bow, velocity))
		check(anySingle(r), anySingle(r), anySingle(r))
	}
}

// forcesByHand tell the force, and whether the bow sticks.
var forcesByHand = []struct {
	bow, velocity, grip float64
	want                float64
	sticks              bool
}{
	{1, 0.5, 1, 0.5, true},
	{0.5, 1, 1, -0.5, true},
	{4, 0, 2, 1, false},
	{-4, 0, 2, -1, false},
	{-1, 3, 2, -1, false},
	// The distance equals the grip: slipping, the force would be infinite, 0 or NaN.
	{0x1p100, 0, 0x1p100, 0x1p100, true},
	{0, 0x1p100, 0x1p100, -0x1p100, true},
	{0x1p-100, 0, 0x1p-100, 0x1p-100, true},
	{0, 0, 0, 0, true},
	{3, 3, 0, 0, true},
	{2, 0, 2, 2, true},
	{2, 0, 2 - 0x1p-23, 2 - 0x1p-22, false},
	// The distance is rounded before it is compared: 1 + 2^-30 is 1.
	{0x1p100, -0x1p70, 0x1p100, 0x1p100, true},
	{0x1p100, 0x1p70, 0x1p100, 0x1p100, true},
	{1, -0x1p-23, 1, 1 - 0x1p-23, false},
	// Zeros with signs.
	{negativeZero, 0, 0, negativeZero, true},
	{negativeZero, negativeZero, 0, 0, true},
	{0, negativeZero, 0, 0, true},
	{0, 0, negativeZero, 0, true},
	{negativeZero, 0, negativeZero, negativeZero, true},
	{negativeZero, 0, 1, negativeZero, true},
	{1, 0, 0, 0, false},
	{-1, 0, 0, negativeZero, false},
	{1, 0, negativeZero, 0, false},
	{-1, 0, negativeZero, negativeZero, false},
	{0, 1, 0, negativeZero, false},
	// A grip below 0 never sticks, and is squared.
	{0, 0, -1, inf, false},
	{negativeZero, 0, -1, -inf, false},
	{0, 0, -0x1p-100, nan, false},
	{0.5, 0, -1, 2, false},
	{4, 0, -2, 1, false},
	{-2, 0, -2, -2, false},
	{1, 0, -leastSingle, 0, false},
	{1, 0, -greatestSingle, inf, false},
	{-1, 0, -greatestSingle, -inf, false},
	// The greatest finite grip.
	{1, 0, greatestSingle, 1, true},
	{greatestSingle, 0, greatestSingle, greatestSingle, true},
	{-greatestSingle, 0, greatestSingle, -greatestSingle, true},
	{greatestSingle, -greatestSingle, greatestSingle, nan, false},
	{inf, 0, greatestSingle, nan, false},
	// Products and quotients that are too great or too small.
	{0x1p65, 0, 0x1p64, inf, false},
	{-0x1p65, 0, 0x1p64, -inf, false},
	{0x1p64, 0, 0x1p64 - 0x1p40, 0x1p64 - 0x1p41, false},
	{0x1p-10, 0, -0x1p60, inf, false},
	{-0x1p-10, 0, -0x1p60, -inf, false},
	{1, 0, 0x1p-100, 0, false},
	{4, 0, 0x1p-74, 0, false},
	{-4, 0, 0x1p-74, negativeZero, false},
	{1, 0, 0x1p-74, 0x1p-148, false},
	// Infinite bows, velocities and grips.
	{5, 0, inf, 5, true},
	{inf, 0, inf, inf, true},
	{-inf, 0, inf, -inf, true},
	{0, inf, inf, -inf, true},
	{greatestSingle, -greatestSingle, inf, inf, true},
	{inf, -inf, inf, inf, true},
	{inf, inf, inf, nan, false},
	{inf, inf, 1, nan, false},
	{inf, 0, 1, 0, false},
	{-inf, 0, 1, negativeZero, false},
	{0, inf, 1, negativeZero, false},
	{5, 0, -inf, inf, false},
	{-5, 0, -inf, -inf, false},
	{0, 0, -inf, inf, false},
	{inf, 0, -inf, nan, false},
	// NaN.
	{nan, 0, 1, nan, false},
	{nan, 0, inf, nan, false},
	{0, nan, 1, nan, false},
	{0, nan, inf, nan, false},
	{0, 0, nan, nan, false},
	{1, 0, nan, nan, false},
	{nan, nan, nan, nan, false},
	{inf, 0, nan, nan, false},
}

func TestP4ForcesOfBowsByHand(t *testing.T) {
	for _, c := range forcesByHand {
		bow, velocity, grip := float32(c.bow), float32(c.velocity), float32(c.grip)
		if force := impl.BowForce(bow, velocity, grip); !same(float64(force), c.want) {
			t.Errorf("BowForce of %v at %v with grip %v: %v, want %v", bow, velocity, grip, force, c.want)
		}
		if _, sticks := wantForce(bow, velocity, grip); sticks != c.sticks {
			t.Errorf("a bow of %v at %v with grip %v sticks: %v", bow, velocity, grip, sticks)
		}
		if c.velocity != 0 {
			continue
		}
		want := 0
		if c.sticks {
			want = 1
		}
		if stuck, ok := impl.CountStuck(impl.Body{}, bow, grip, 1); !ok || stuck != want {
			t.Errorf("CountStuck in the first step of %v with grip %v: %v %v, want %v", bow, grip, stuck, ok, want)
		}
	}
}

// wantBowing returns the outputs, and in how many steps the bow sticks.
func wantBowing(b impl.Body, bow, grip float32, n int) ([]float32, int) {
	states := make([]complex64, len(b.Modes))
	outputs := make([]float32, n)
	stuck, velocity := 0, float32(0)
	for i := range outputs {
		force, sticks := wantForce(bow, velocity, grip)
		if sticks {
			stuck++
		}
		for k, m := range b.Modes {
			states[k] = wantStep(m, states[k], force)
			outputs[i] = sumSingle(outputs[i], real(states[k]))
		}
		velocity = outputs[i]
	}
	return outputs, stuck
}

// checkBowing returns in how many steps the bow sticks.
func checkBowing(t *testing.T, b impl.Body, bow, grip float32, n int) int {
	t.Helper()
	want, sticks := wantBowing(b, bow, grip, n)
	if outputs, ok := impl.BowBody(b, bow, grip, n); !ok || !sameAs(outputs, want) {
		t.Fatalf("BowBody of %v by %v with grip %v for %d steps: %v %v, want %v", b, bow, grip, n, outputs, ok, want)
	}
	if stuck, ok := impl.CountStuck(b, bow, grip, n); !ok || stuck != sticks {
		t.Fatalf("CountStuck of %v by %v with grip %v for %d steps: %v %v, want %v", b, bow, grip, n, stuck, ok, sticks)
	}
	return sticks
}

// gentleBody has small gains, so that a bow goes on sticking and slipping.
func gentleBody(poles ...complex64) impl.Body {
	b := bodyOfPoles(poles...)
	for i := range b.Modes {
		b.Modes[i].Gain = complex(0.2, 0.1)
	}
	return b
}

func TestP4BowedBodies(t *testing.T) {
	r := newRandom()
	mixed := 0
	for range 500 {
		b, n := anyBody(r, r.IntN(impl.MaxModes+1)), r.IntN(60)
		if r.IntN(2) == 0 {
			b = gentleBody(anyPole(r), anyPole(r), anyPole(r))
		}
		if stuck := checkBowing(t, b, narrow(nearOne(r)), narrow(math.Abs(nearOne(r))), n); stuck > 0 && stuck < n {
			mixed++
		}
	}
	if mixed < 100 {
		t.Errorf("only %d of 500 bows both stick and slip", mixed)
	}
	for _, bow := range specialSingles() {
		for _, grip := range specialSingles() {
			checkBowing(t, impl.Body{}, bow, grip, 5)
			checkBowing(t, anyBody(r, 2), bow, grip, 5)
			checkBowing(t, gentleBody(0.5, complex(0.3, 0.9)), bow, grip, 10)
		}
	}
	for _, modes := range []int{0, 1, impl.MaxModes} {
		for _, n := range []int{0, 1, impl.MaxSamples} {
			checkBowing(t, anyBody(r, modes), 0.7, 0.3, n)
		}
	}
	checkBowing(t, gentleBody(complex(0.9, 0.3), complex(-0.7, 0.6)), 0.7, 0.5, impl.MaxSamples)
}

func TestP4BowedBodiesByHand(t *testing.T) {
	half := bodyOf(impl.Mode{Pole: 0.5, Gain: 1})
	still := func(gain complex64) impl.Body { return bodyOf(impl.Mode{Gain: gain}) }
	endless, noNumber, minus := float32(inf), float32(nan), narrow(negativeZero)
	for _, c := range []struct {
		b         impl.Body
		bow, grip float32
		n         int
		want      []float32
		stuck     int
	}{
		{half, 1, 1, 4, []float32{1, 0.5, 0.75, 0.625}, 4},
		{half, 1, 1, 0, nil, 0},
		{half, 1, 0.5, 1, []float32{0.25}, 0},
		{still(4), 4, 2, 5, []float32{4, 0, 4, 0, 4}, 2},
		{still(3), 2, 2, 2, []float32{6, -3}, 1}, // at first, the distance equals the grip
		{still(3), -2, 2, 2, []float32{-6, 3}, 1},
		{still(3), 2, -2, 2, []float32{6, -3}, 0},
		{half, 0, 0, 3, []float32{0, 0, 0}, 3},
		{half, minus, minus, 3, []float32{0, 0, 0}, 3},
		{half, 1, 0, 3, []float32{0, 0, 0}, 0},
		{half, noNumber, 1, 2, []float32{noNumber, noNumber}, 0},
		{half, 1, noNumber, 2, []float32{noNumber, noNumber}, 0},
		{still(complex(0, 1)), noNumber, 1, 2, []float32{noNumber, noNumber}, 0},
		{still(1), endless, endless, 3, []float32{endless, noNumber, noNumber}, 1},
		{still(1), endless, 1, 3, []float32{0, 0, 0}, 0},
		{still(1), -endless, 1, 3, []float32{0, 0, 0}, 0},
		{still(2), 1, endless, 3, []float32{2, -2, 6}, 3},
		{still(2), greatestSingle, greatestSingle, 2, []float32{endless, noNumber}, 1},
		{still(1), 0x1p65, 0x1p64, 1, []float32{endless}, 0},
		{still(1), 1, -0x1p64, 1, []float32{endless}, 0},
		{still(1), 0x1p-10, -0x1p60, 1, []float32{endless}, 0},
		// The modes grow to infinities that cancel to NaN, and stay infinite: only
		// the velocity keeps the last output from being infinite, too.
		{bodyOf(impl.Mode{Pole: 1, Gain: 1024}, impl.Mode{Pole: -1, Gain: -1024}), 0x1p100, endless, 6,
			[]float32{0, 0x1p111, 0x1p111, -0x1p122 + 0x1p112, noNumber, noNumber}, 5},
		{impl.Body{}, 1, 1, 3, []float32{0, 0, 0}, 3},
		{impl.Body{}, 1, 0.5, 3, []float32{0, 0, 0}, 0},
		{impl.Body{}, noNumber, noNumber, 3, []float32{0, 0, 0}, 0},
		{impl.Body{}, 0, 0, impl.MaxSamples, make([]float32, impl.MaxSamples), impl.MaxSamples},
	} {
		if outputs, ok := impl.BowBody(c.b, c.bow, c.grip, c.n); !ok || !sameAs(outputs, c.want) {
			t.Errorf("BowBody of %v by %v with grip %v for %d steps: %v %v, want %v", c.b, c.bow, c.grip, c.n, outputs, ok, c.want)
		}
		if stuck, ok := impl.CountStuck(c.b, c.bow, c.grip, c.n); !ok || stuck != c.stuck {
			t.Errorf("CountStuck of %v by %v with grip %v for %d steps: %v %v, want %v", c.b, c.bow, c.grip, c.n, stuck, ok, c.stuck)
		}
	}
}

func TestP10BowingThatFails(t *testing.T) {
	refuse := func(b impl.Body, bow, grip float32, n int) {
		if outputs, ok := impl.BowBody(b, bow, grip, n); ok || len(outputs) != 0 {
			t.Errorf("BowBody of %v by %v with grip %v for %d steps: %v %v", b, bow, grip, n, outputs, ok)
		}
		if stuck, ok := impl.CountStuck(b, bow, grip, n); ok || stuck != 0 {
			t.Errorf("CountStuck of %v by %v with grip %v for %d steps: %v %v", b, bow, grip, n, stuck, ok)
		}
	}
	for _, b := range wrongBodies() {
		refuse(b, 1, 1, 3)
		refuse(b, 0, 0, 0)
	}
	for _, n := range wrongSteps() {
		refuse(distinctModes(2), 1, 1, n)
		refuse(impl.Body{}, 0, 0, n)
		refuse(impl.Body{}, float32(nan), 1, n)
	}
}

func TestP10BowingKeepsNothing(t *testing.T) {
	b := distinctModes(3)
	first, _ := impl.BowBody(b, 1, 0.5, 5)
	second, _ := impl.BowBody(b, 1, 0.5, 5)
	stuck, _ := impl.CountStuck(b, 1, 0.5, 5)
	again, _ := impl.CountStuck(b, 1, 0.5, 5)
	if !sameAs(first, second) || stuck != again || !sameBody(b, distinctModes(3)) {
		t.Errorf("BowBody twice: %v, then %v; CountStuck: %v, then %v; body %v", first, second, stuck, again, b)
	}
	first[0] = 77
	if second[0] == 77 {
		t.Error("outputs share memory with each other")
	}
}
