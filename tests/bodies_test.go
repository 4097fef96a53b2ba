package tests

import (
	"math"
	"math/rand/v2"

	"loop.example/g03222/impl"
)

// The ringing of bodies, by the exact operations of exact_test.go.

func wantStep(m impl.Mode, state complex64, x float32) complex64 {
	turned := wantProductSingle(state, m.Pole)
	return complex(
		sumSingle(real(turned), productSingle(real(m.Gain), x)),
		sumSingle(imag(turned), productSingle(imag(m.Gain), x)))
}

func wantStepDouble(m impl.Mode, state complex128, x float32) complex128 {
	turned := wantProduct(state, complex128(m.Pole))
	return complex(
		sum(real(turned), product(float64(real(m.Gain)), float64(x))),
		sum(imag(turned), product(float64(imag(m.Gain)), float64(x))))
}

func wantRing(b impl.Body, input []float32, n int) []float32 {
	return wantTouch(b, input, b, n, n)
}

// wantTouch rings b, and from the step from on the modes of touched, with the
// states that b had.
func wantTouch(b impl.Body, input []float32, touched impl.Body, from, n int) []float32 {
	states := make([]complex64, len(b.Modes))
	outputs := make([]float32, n)
	for i := range outputs {
		x := float32(0)
		if i < len(input) {
			x = input[i]
		}
		modes := b.Modes
		if i >= from {
			modes = touched.Modes
		}
		for k, m := range modes {
			states[k] = wantStep(m, states[k], x)
			outputs[i] = sumSingle(outputs[i], real(states[k]))
		}
	}
	return outputs
}

func wantDamped(b impl.Body, factor float32) impl.Body {
	damped := impl.Body{}
	for _, m := range b.Modes {
		pole := complex(productSingle(real(m.Pole), factor), productSingle(imag(m.Pole), factor))
		damped.Modes = append(damped.Modes, impl.Mode{Pole: pole, Gain: m.Gain})
	}
	return damped
}

func wantRingDouble(b impl.Body, input []float32, n int) []float64 {
	states := make([]complex128, len(b.Modes))
	outputs := make([]float64, n)
	for i := range outputs {
		x := float32(0)
		if i < len(input) {
			x = input[i]
		}
		for k, m := range b.Modes {
			states[k] = wantStepDouble(m, states[k], x)
			outputs[i] = sum(outputs[i], real(states[k]))
		}
	}
	return outputs
}

func wantDrift(single []float32, double []float64) float64 {
	greatest := 0.0
	for i := range single {
		drift := math.Abs(difference(double[i], float64(single[i])))
		if !math.IsNaN(drift) {
			greatest = math.Max(greatest, drift)
		}
	}
	return greatest
}

func wantMode(m impl.Mode) bool {
	pole, gain := complex128(m.Pole), complex128(m.Gain)
	if !finite(pole) || !finite(gain) {
		return false
	}
	squares := sum(product(real(pole), real(pole)), product(imag(pole), imag(pole)))
	return squares <= 1 && math.Abs(real(gain)) <= 1024 && math.Abs(imag(gain)) <= 1024
}

// sameAs compares lists of samples of either width.
func sameAs[X float32 | float64](a, b []X) bool {
	if len(a) != len(b) {
		return false
	}
	for i := range a {
		if !same(float64(a[i]), float64(b[i])) {
			return false
		}
	}
	return true
}

func sameStates(a, b []complex64) bool {
	if len(a) != len(b) {
		return false
	}
	for i := range a {
		if !sameBothSingle(a[i], b[i]) {
			return false
		}
	}
	return true
}

func sameMode(a, b impl.Mode) bool {
	return sameBothSingle(a.Pole, b.Pole) && sameBothSingle(a.Gain, b.Gain)
}

func sameBody(a, b impl.Body) bool {
	if len(a.Modes) != len(b.Modes) {
		return false
	}
	for i := range a.Modes {
		if !sameMode(a.Modes[i], b.Modes[i]) {
			return false
		}
	}
	return true
}

func bodyOf(modes ...impl.Mode) impl.Body { return impl.Body{Modes: modes} }

func bodyOfPoles(poles ...complex64) impl.Body {
	var b impl.Body
	for _, pole := range poles {
		b.Modes = append(b.Modes, impl.Mode{Pole: pole, Gain: 1})
	}
	return b
}

// distinctModes returns a body whose poles all differ.
func distinctModes(n int) impl.Body {
	var b impl.Body
	for i := range n {
		b.Modes = append(b.Modes, impl.Mode{Pole: complex(float32(i)/64, 0.5), Gain: complex(1, float32(i))})
	}
	return b
}

// anyPole returns a valid pole, often one that hardly decays.
func anyPole(r *rand.Rand) complex64 {
	length := r.Float64()
	if r.IntN(2) == 0 {
		length = 1 - math.Ldexp(r.Float64(), -r.IntN(24))
	}
	sine, cosine := math.Sincos(2 * math.Pi * r.Float64())
	pole := narrowBoth(complex(length*cosine, length*sine))
	if !wantMode(impl.Mode{Pole: pole}) {
		pole = narrowBoth(complex128(pole) * 0.999999)
	}
	return pole
}

func anyMode(r *rand.Rand) impl.Mode {
	gain := narrowBoth(nearOneComplex(r) * complex(math.Ldexp(1, r.IntN(12)-3), 0))
	return impl.Mode{Pole: anyPole(r), Gain: gain}
}

func anyBody(r *rand.Rand, modes int) impl.Body {
	b := impl.Body{}
	for range modes {
		b.Modes = append(b.Modes, anyMode(r))
	}
	return b
}

func anyInput(r *rand.Rand, n int) []float32 {
	input := make([]float32, n)
	for i := range input {
		input[i] = narrow(nearOne(r))
	}
	return input
}

func oneOver(x float32) float32 { return math.Nextafter32(x, float32(inf)) }

// wrongBodies breaks each condition for bodies, in the first, in a middle or in
// the last mode.
func wrongBodies() []impl.Body {
	noNumber, endless := float32(nan), float32(inf)
	good := impl.Mode{Pole: 0.5, Gain: 1}
	list := []impl.Body{distinctModes(impl.MaxModes + 1), bodyOfPoles(make([]complex64, impl.MaxModes+1)...), distinctModes(1000)}
	for _, bad := range []impl.Mode{
		{Pole: complex(noNumber, 0), Gain: 1},
		{Pole: complex(0, noNumber), Gain: 1},
		{Pole: complex(-endless, 0), Gain: 1},
		{Pole: complex(0, endless), Gain: 1},
		{Pole: complex(oneOver(1), 0), Gain: 1},
		{Pole: complex(1, 0x1p-26), Gain: 1},
		{Pole: complex(0.8, 0.7), Gain: 1},
		{Pole: complex(greatestSingle, 0), Gain: 1},
		{Pole: 0.5, Gain: complex(noNumber, 0)},
		{Pole: 0.5, Gain: complex(0, noNumber)},
		{Pole: 0.5, Gain: complex(endless, 0)},
		{Pole: 0.5, Gain: complex(0, -endless)},
		{Pole: 0.5, Gain: complex(oneOver(1024), 0)},
		{Pole: 0.5, Gain: complex(0, -oneOver(1024))},
	} {
		list = append(list, bodyOf(bad), bodyOf(bad, good), bodyOf(good, bad, good), bodyOf(good, good, bad))
	}
	return list
}

func factors() []float32 {
	return []float32{0, narrow(negativeZero), leastSingle, 0.1, 0.5, math.Nextafter32(1, 0), 1}
}

// wrongFactors are not from 0 to 1.
func wrongFactors() []float32 {
	return []float32{-leastSingle, oneOver(1), -1, 2, float32(inf), float32(-inf), float32(nan)}
}

// wrongSteps are numbers of steps that are out of range.
func wrongSteps() []int {
	return []int{-1, math.MinInt, impl.MaxSamples + 1, 1 << 32, math.MaxInt}
}
