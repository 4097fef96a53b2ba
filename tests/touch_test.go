package tests

import (
	"math"
	"testing"

	"loop.example/g03222/impl"
)

func checkTouch(t *testing.T, b impl.Body, input []float32, factor float32, from, n int) {
	t.Helper()
	outputs, ok := impl.TouchBody(b, input, factor, from, n)
	if want := wantTouch(b, input, wantDamped(b, factor), from, n); !ok || !sameAs(outputs, want) {
		t.Fatalf("TouchBody of %v by %v, damped by %v from %d on, for %d steps: %v %v, want %v", b, input, factor, from, n, outputs, ok, want)
	}
}

func TestP4TouchedBodies(t *testing.T) {
	r := newRandom()
	for range 400 {
		b, n := anyBody(r, r.IntN(impl.MaxModes+1)), r.IntN(40)
		checkTouch(t, b, anyInput(r, r.IntN(2*n+2)), r.Float32(), r.IntN(n+3), n)
		checkTouch(t, b, wildSamples(r, 5), factors()[r.IntN(7)], r.IntN(7), 8)
	}
	for _, factor := range factors() {
		for _, from := range []int{0, 1, 5, 9, 10, 11, impl.MaxSamples, impl.MaxSamples + 1, math.MaxInt} {
			checkTouch(t, impl.Body{}, []float32{1, 2, 3}, factor, from, 10)
			checkTouch(t, anyBody(r, 3), []float32{1, 2, 3}, factor, from, 10)
			checkTouch(t, anyBody(r, 3), anyInput(r, 20), factor, from, 10)
			checkTouch(t, anyBody(r, 3), nil, factor, from, 0)
			checkTouch(t, anyBody(r, 3), []float32{-1}, factor, from, 1)
		}
		for _, from := range []int{0, 1000, impl.MaxSamples - 1, impl.MaxSamples} {
			checkTouch(t, anyBody(r, 1), anyInput(r, 30), factor, from, impl.MaxSamples)
		}
	}
	checkTouch(t, anyBody(r, impl.MaxModes), anyInput(r, 2010), 0.9, 700, impl.MaxSamples)
}

// From 0 on, the damped body rings; from the end on, or by 1, nothing is touched.
func TestP4TouchIsRinging(t *testing.T) {
	r := newRandom()
	for range 200 {
		b, input, n := anyBody(r, r.IntN(5)), anyInput(r, r.IntN(60)), r.IntN(60)
		factor := r.Float32()
		damped, _ := impl.DampBody(b, factor)
		whole, _ := impl.RingBody(b, input, n)
		muted, _ := impl.RingBody(damped, input, n)
		for _, c := range []struct {
			factor float32
			from   int
			want   []float32
		}{{factor, 0, muted}, {factor, n, whole}, {factor, n + 1, whole}, {factor, math.MaxInt, whole}, {1, r.IntN(60), whole}} {
			if outputs, ok := impl.TouchBody(b, input, c.factor, c.from, n); !ok || !sameAs(outputs, c.want) {
				t.Fatalf("TouchBody of %v by %v, damped by %v from %d on, for %d steps: %v %v, want %v", b, input, c.factor, c.from, n, outputs, ok, c.want)
			}
		}
	}
}

func TestP4TouchedBodiesByHand(t *testing.T) {
	half := bodyOf(impl.Mode{Pole: 0.5, Gain: 2})
	turning := bodyOf(impl.Mode{Pole: complex(0, 1), Gain: 1})
	endless, noNumber, minus := float32(inf), float32(nan), narrow(negativeZero)
	for _, c := range []struct {
		b      impl.Body
		input  []float32
		factor float32
		from   int
		n      int
		want   []float32
	}{
		{half, []float32{1}, 0, 1, 3, []float32{2, 0, 0}},
		{half, []float32{1}, minus, 1, 3, []float32{2, 0, 0}},
		{half, []float32{1}, 0, 0, 3, []float32{2, 0, 0}}, // the Gain is not damped
		{half, []float32{1}, 0.5, 0, 3, []float32{2, 0.5, 0.125}},
		{half, []float32{1}, 0.5, 1, 3, []float32{2, 0.5, 0.125}},
		{half, []float32{1}, 0.5, 2, 3, []float32{2, 1, 0.25}},
		{half, []float32{1}, 0.5, 3, 3, []float32{2, 1, 0.5}},
		{half, []float32{1}, 0.5, 4, 3, []float32{2, 1, 0.5}},
		{half, []float32{1}, 1, 1, 3, []float32{2, 1, 0.5}},
		{half, []float32{1, 0, 4, 1}, 0, 2, 4, []float32{2, 1, 8, 2}},
		{half, []float32{1}, 0.5, 0, 0, nil},
		{half, nil, 0.5, 1, 2, []float32{0, 0}},
		{turning, []float32{1}, 0.5, 2, 5, []float32{1, 0, -0.5, 0, 0.125}}, // also the imaginary part goes on
		{impl.Body{}, []float32{1, noNumber}, 0.5, 1, 3, []float32{0, 0, 0}},
		{half, []float32{noNumber}, 0, 1, 2, []float32{noNumber, noNumber}},
		{half, []float32{endless}, 0, 1, 2, []float32{endless, noNumber}},
		{bodyOf(impl.Mode{Pole: 1, Gain: 1}), []float32{1}, leastSingle, 1, 3, []float32{1, leastSingle, 0}},
		// Each part of the Pole is rounded: three quarters of the least one is 1 of it,
		// and half of it is 0.
		{bodyOf(impl.Mode{Pole: leastSingle, Gain: 1024}), []float32{1}, 0.75, 1, 2, []float32{1024, 1024 * leastSingle}},
		{bodyOf(impl.Mode{Pole: leastSingle, Gain: 1024}), []float32{1}, 0.5, 1, 2, []float32{1024, 0}},
	} {
		if outputs, ok := impl.TouchBody(c.b, c.input, c.factor, c.from, c.n); !ok || !sameAs(outputs, c.want) {
			t.Errorf("TouchBody of %v by %v, damped by %v from %d on, for %d steps: %v %v, want %v", c.b, c.input, c.factor, c.from, c.n, outputs, ok, c.want)
		}
	}
}

func TestP10TouchThatFails(t *testing.T) {
	refuse := func(b impl.Body, factor float32, from, n int) {
		if outputs, ok := impl.TouchBody(b, []float32{1}, factor, from, n); ok || len(outputs) != 0 {
			t.Errorf("TouchBody of %v, damped by %v from %d on, for %d steps: %v %v", b, factor, from, n, outputs, ok)
		}
	}
	for _, b := range wrongBodies() {
		refuse(b, 0.5, 1, 3)
		refuse(b, 1, 3, 0)
	}
	for _, b := range []impl.Body{{}, distinctModes(2)} {
		for _, factor := range wrongFactors() {
			refuse(b, factor, 1, 3)
			refuse(b, factor, 5, 3) // also if no step is touched
			refuse(b, factor, 0, 0)
		}
		for _, from := range []int{-1, -5, math.MinInt} {
			refuse(b, 0.5, from, 3)
			refuse(b, 1, from, 0)
		}
		for _, n := range wrongSteps() {
			refuse(b, 0.5, 0, n)
			refuse(b, 0.5, 1, n)
			refuse(b, 0.5, n, n)
		}
	}
}

func TestP10TouchKeepsNothing(t *testing.T) {
	b, memory := distinctModes(3), []float32{1, 2, 3, 9}
	input := memory[:3]
	first, _ := impl.TouchBody(b, input, 0.5, 1, 4)
	second, _ := impl.TouchBody(b, input, 0.5, 1, 4)
	if !sameAs(first, second) || !sameAs(memory, []float32{1, 2, 3, 9}) || !sameBody(b, distinctModes(3)) {
		t.Errorf("TouchBody twice: %v, then %v; input %v, body %v", first, second, memory, b)
	}
	first[0] = 77
	if memory[0] != 1 || second[0] == 77 {
		t.Error("the outputs share memory with the input or with each other")
	}
}
