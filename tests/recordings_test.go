package tests

import (
	"math"
	"math/rand/v2"
	"slices"
	"testing"

	"loop.example/g03222/impl"
)

func wantSum(a, b complex128) complex128 {
	return complex(sum(real(a), real(b)), sum(imag(a), imag(b)))
}

func wantDifference(a, b complex128) complex128 {
	return complex(difference(real(a), real(b)), difference(imag(a), imag(b)))
}

func wantConjugate(z complex128) complex128 { return complex(real(z), -imag(z)) }

func sameRecording(a, b []complex128) bool { return slices.EqualFunc(a, b, sameBoth) }

// minusBoth is 0 with both signs negative.
func minusBoth() complex128 { return complex(negativeZero, negativeZero) }

// strayNumbers are those that spoil or end a fit, or lose their sign in a sum.
func strayNumbers() []complex128 {
	return []complex128{0, complex(negativeZero, 0), complex(0, negativeZero), minusBoth(),
		complex(nan, 0), complex(0, nan), complex(inf, 0), complex(0, -inf), complex(inf, nan),
		complex(greatest, -greatest), complex(least, 0), complex(0, -least), complex(0x1p-540, 0x1p512)}
}

func wildNumbers() []complex128 {
	return []complex128{complex(nan, 0), complex(1, nan), complex(inf, 0), complex(1, -inf), complex(-inf, nan)}
}

// anyRecording returns one of numbers that a fit takes, for the most part, or
// one in which stray numbers stand between others.
func anyRecording(r *rand.Rand, n int) []complex128 {
	z := make([]complex128, n)
	kind := r.IntN(5)
	pole, number := nearOneComplex(r), nearOneComplex(r)
	for k := range z {
		z[k] = nearOneComplex(r)
		switch kind {
		case 1: // a mode, with some noise
			z[k] = number + z[k]*complex(0x1p-30, 0)
			number *= pole
		case 2: // numbers of any size
			z[k] *= complex(math.Ldexp(1, r.IntN(600)-300), 0)
		case 3: // a part is 0
			z[k] = complex(real(z[k])*float64(r.IntN(2)), imag(z[k])*float64(r.IntN(2)))
		}
	}
	if kind == 4 && n > 0 {
		strays := strayNumbers()
		z[r.IntN(n)] = strays[r.IntN(len(strays))]
	}
	return z
}

// anyLength prefers the lengths at which the conditions for recordings change.
func anyLength(r *rand.Rand) int {
	if r.IntN(4) == 0 {
		return r.IntN(42)
	}
	return r.IntN(6)
}

// evenRecording has n elements that are the same.
func evenRecording(z complex128, n int) []complex128 { return slices.Repeat([]complex128{z}, n) }

func wantRingMode(pole, start complex128, n int) []complex128 {
	var z []complex128
	for k := range n {
		if k == 0 {
			z = append(z, start)
		} else {
			z = append(z, wantProduct(z[k-1], pole))
		}
	}
	return z
}

func checkRingMode(t *testing.T, pole, start complex128, n int) {
	t.Helper()
	z, ok := impl.RingMode(pole, start, n)
	if want := wantRingMode(pole, start, n); !ok || !sameRecording(z, want) {
		t.Fatalf("RingMode of %v from %v, %d numbers: %v %v, want %v", pole, start, n, z, ok, want)
	}
}

func TestP10RingingOfModes(t *testing.T) {
	r := newRandom()
	for range 500 {
		checkRingMode(t, nearOneComplex(r), nearOneComplex(r), anyLength(r))
		checkRingMode(t, anyComplex(r), anyComplex(r), r.IntN(5))
	}
	for _, z := range specialComplexes() {
		checkRingMode(t, z, complex(0.3, -2), 4)
		checkRingMode(t, complex(0.6, -0.7), z, 4)
		checkRingMode(t, z, z, 3)
	}
	for _, n := range []int{0, 1, 2, impl.MaxSamples - 1, impl.MaxSamples} {
		checkRingMode(t, complex(0.6, 0.8), complex(-4, 1), n)
		checkRingMode(t, 1.5, 1, n) // beyond all limits, and then on
		checkRingMode(t, complex(nan, inf), minusBoth(), n)
	}
}

func TestP10RingingOfModesByHand(t *testing.T) {
	for _, c := range []struct {
		pole, start complex128
		n           int
		want        []complex128
	}{
		{0.5, 8, 4, []complex128{8, 4, 2, 1}},
		{0.5, 8, 0, nil},
		{complex(nan, nan), complex(3, -2), 1, []complex128{complex(3, -2)}},
		{complex(0, 1), 1, 6, []complex128{1, complex(0, 1), -1, complex(negativeZero, -1), complex(1, negativeZero), complex(0, 1)}},
		{complex(1, 1), complex(2, -1), 3, []complex128{complex(2, -1), complex(3, 1), complex(2, 4)}},
		// The start is not multiplied, and so keeps its signs.
		{1, minusBoth(), 2, []complex128{minusBoth(), complex(0, negativeZero)}},
		{0, complex(3, -2), 3, []complex128{complex(3, -2), complex(0, 0), 0}},
		{minusBoth(), complex(3, 2), 2, []complex128{complex(3, 2), complex(0, negativeZero)}},
		{complex(0, inf), complex(nan, 1), 2, []complex128{complex(nan, 1), complex(nan, nan)}},
		{0x1p600, 1, 4, []complex128{1, 0x1p600, complex(inf, 0), complex(inf, nan)}},
		// The squares are rounded before their difference, from number to number.
		{complex(1+0x1p-30, 1), complex(1+0x1p-30, 1+0x1p-29), 2, []complex128{complex(1+0x1p-30, 1+0x1p-29), complex(0, 2+0x1p-28)}},
		{1 + 0x1p-30, 1, 4, []complex128{1, 1 + 0x1p-30, 1 + 0x1p-29, 1 + 0x3p-30}},
	} {
		if z, ok := impl.RingMode(c.pole, c.start, c.n); !ok || !sameRecording(z, c.want) {
			t.Errorf("RingMode of %v from %v, %d numbers: %v %v, want %v", c.pole, c.start, c.n, z, ok, c.want)
		}
	}
}

func TestP10RingingOfModesThatFails(t *testing.T) {
	for _, n := range wrongSteps() {
		for _, pole := range []complex128{0, 0.5, complex(nan, inf)} {
			if z, ok := impl.RingMode(pole, 1, n); ok || len(z) != 0 {
				t.Errorf("RingMode of %v, %d numbers: %d numbers, %v", pole, n, len(z), ok)
			}
		}
	}
}

func wantQuotients(z []complex128) ([]complex128, bool) {
	var quotients []complex128
	for k := 1; k < len(z); k++ {
		quotient, ok := wantQuotient(z[k], z[k-1])
		if !ok {
			return nil, false
		}
		quotients = append(quotients, quotient)
	}
	return quotients, len(z) >= 2 && len(z) <= 2000
}

func checkQuotients(t *testing.T, z []complex128) bool {
	t.Helper()
	want, valid := wantQuotients(z)
	quotients, ok := impl.QuotientsOf(z)
	if ok != valid || valid && !sameRecording(quotients, want) || !valid && len(quotients) != 0 {
		t.Fatalf("QuotientsOf %v: %v %v, want %v %v", z, quotients, ok, want, valid)
	}
	return ok
}

func TestP10Quotients(t *testing.T) {
	r := newRandom()
	valid, failed := 0, 0
	for range 3000 {
		if checkQuotients(t, anyRecording(r, anyLength(r))) {
			valid++
		} else {
			failed++
		}
		checkQuotients(t, []complex128{anyComplex(r), anyComplex(r), anyComplex(r)})
	}
	if valid < 1000 || failed < 1000 {
		t.Errorf("%d are valid, %d fail", valid, failed)
	}
	for _, z := range specialComplexes() {
		checkQuotients(t, []complex128{complex(0.3, -2), z})
		checkQuotients(t, []complex128{z, complex(0.3, -2), 1})
	}
	long := make([]complex128, impl.MaxSamples+1)
	for k := range long {
		long[k] = nearOneComplex(r) + 20
	}
	for _, n := range []int{impl.MaxSamples - 1, impl.MaxSamples} {
		if !checkQuotients(t, long[:n]) {
			t.Errorf("QuotientsOf %d numbers fails", n)
		}
	}
}

func TestP10QuotientsByHand(t *testing.T) {
	for _, c := range []struct{ z, want []complex128 }{
		{[]complex128{8, 4}, []complex128{0.5}},
		{[]complex128{8, 4, 2, 1}, []complex128{0.5, 0.5, 0.5}},
		{[]complex128{1, complex(0, 2), 4}, []complex128{complex(0, 2), complex(0, -2)}},
		{[]complex128{complex(1, -1), complex(1, 1)}, []complex128{complex(0, 1)}},
		{[]complex128{complex(4, 2), complex(1, 3), complex(-3, 1)}, []complex128{complex(0.5, 0.5), complex(0, 1)}},
		{[]complex128{2, 0}, []complex128{0}},
		{[]complex128{2, minusBoth()}, []complex128{complex(negativeZero, 0)}},
		{[]complex128{greatest, greatest, -greatest}, []complex128{1, complex(-1, 0)}},
		{[]complex128{least, least}, []complex128{1}},
	} {
		if quotients, ok := impl.QuotientsOf(c.z); !ok || !sameRecording(quotients, c.want) {
			t.Errorf("QuotientsOf %v: %v %v, want %v", c.z, quotients, ok, c.want)
		}
	}
}

// unfit returns recordings without all quotients: they are too short or too
// long, or a number that cannot be divided by stands at some place.
func unfit() [][]complex128 {
	list := [][]complex128{nil, {}, {1}, {complex(0.5, 3)}, {complex(nan, 0)}, evenRecording(1, impl.MaxSamples+1), evenRecording(1, 5000)}
	for _, zero := range []complex128{0, complex(negativeZero, 0), complex(0, negativeZero), minusBoth()} {
		list = append(list, []complex128{zero, 1}, []complex128{zero, zero}, []complex128{1, zero, 1}, []complex128{2, 1, zero, 0, 5})
	}
	for _, wild := range wildNumbers() {
		list = append(list, []complex128{wild, 1}, []complex128{1, wild}, []complex128{1, wild, 1}, []complex128{3, 2, 1, wild}, []complex128{wild, wild})
	}
	return append(list, []complex128{0x1p-600, 0x1p600}, []complex128{1, least, greatest}, []complex128{complex(greatest, greatest), complex(greatest, greatest)})
}

func TestP10QuotientsThatFail(t *testing.T) {
	for _, z := range unfit() {
		if quotients, ok := impl.QuotientsOf(z); ok || len(quotients) != 0 {
			t.Errorf("QuotientsOf %d numbers, %v: %v %v", len(z), z[:min(9, len(z))], quotients, ok)
		}
		if pole, ok := impl.FitQuotients(z); ok || !sameBoth(pole, 0) {
			t.Errorf("FitQuotients of %d numbers, %v: %v %v", len(z), z[:min(9, len(z))], pole, ok)
		}
	}
}

func TestP10FittingKeepsNothing(t *testing.T) {
	kept := []complex128{2, 1.5, 1.25, 1.125, complex(3, 4), 7, 7, 7}
	memory := slices.Clone(kept)
	z := memory[:4]
	keptReal := []float32{1, 1, 2, 3, 9, 9}
	memoryReal := slices.Clone(keptReal)
	check := func(name string) {
		if !sameRecording(memory, kept) || !sameAs(memoryReal, keptReal) {
			t.Fatalf("%s changes its argument, or the memory behind it: %v %v", name, memory, memoryReal)
		}
	}
	quotients, _ := impl.QuotientsOf(z)
	again, _ := impl.QuotientsOf(z)
	quotients[0], quotients[2] = 77, 77
	_ = append(quotients, 77)
	check("QuotientsOf")
	if again[0] == 77 || again[2] == 77 {
		t.Error("two lists of quotients share memory")
	}
	ring, _ := impl.RingMode(0.5, 8, 4)
	other, _ := impl.RingMode(0.5, 8, 4)
	ring[0], ring[3] = 77, 77
	if !sameRecording(other, []complex128{8, 4, 2, 1}) {
		t.Error("two ringings share memory")
	}
	impl.FitQuotients(z)
	check("FitQuotients")
	impl.FitSquares(z)
	check("FitSquares")
	impl.FitPair(z)
	check("FitPair")
	impl.SpectrumAt(z, complex(1, 2))
	check("SpectrumAt")
	impl.FitSpectra(z, complex(1, 2), 2)
	check("FitSpectra")
	impl.FitStart(z, 0.5)
	check("FitStart")
	impl.FitReal(memoryReal[:4])
	check("FitReal")
}
