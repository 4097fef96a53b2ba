package tests

import (
	"math"
	"slices"
	"testing"

	"loop.example/g03222/impl"
)

func wantSpectrum(z []complex128, w complex128) complex128 {
	if len(z) == 0 {
		return 0
	}
	return wantSum(wantProduct(wantSpectrum(z[1:], w), w), z[0])
}

func wantFitSpectra(z []complex128, w complex128, half int) (complex128, bool) {
	if half < 1 || half > 2000 || len(z) < half || len(z)-half < half {
		return 0, false
	}
	return wantQuotient(wantSpectrum(z[half:half+half], w), wantSpectrum(z[:half], w))
}

func checkSpectrum(t *testing.T, z []complex128, w complex128) {
	t.Helper()
	if number, want := impl.SpectrumAt(z, w), wantSpectrum(z, w); !sameBoth(number, want) {
		t.Fatalf("SpectrumAt of %v at %v: %v, want %v", z, w, number, want)
	}
}

func checkFitSpectra(t *testing.T, z []complex128, w complex128, half int) bool {
	t.Helper()
	want, valid := wantFitSpectra(z, w, half)
	fit, ok := impl.FitSpectra(z, w, half)
	return sameFit(t, "FitSpectra", fit, ok, want, valid)
}

func TestP10Spectra(t *testing.T) {
	r := newRandom()
	for range 3000 {
		checkSpectrum(t, anyRecording(r, anyLength(r)), nearOneComplex(r))
		checkSpectrum(t, []complex128{anyComplex(r), anyComplex(r), anyComplex(r)}, anyComplex(r))
	}
	for _, z := range specialComplexes() {
		for _, w := range []complex128{0, -1, minusBoth(), complex(0.6, -0.7), complex(inf, 0)} {
			checkSpectrum(t, []complex128{z}, w)
			checkSpectrum(t, []complex128{z, complex(0.3, -2)}, w)
			checkSpectrum(t, []complex128{complex(0.3, -2), z}, w)
			checkSpectrum(t, []complex128{z, z, z}, w)
		}
		checkSpectrum(t, nil, z)
		checkSpectrum(t, []complex128{complex(0.3, -2), minusBoth(), 5}, z)
	}
	// There is no limit to a spectrum.
	for _, n := range []int{impl.MaxSamples, impl.MaxSamples + 1, 10000} {
		long := make([]complex128, n)
		for k := range long {
			long[k] = nearOneComplex(r)
		}
		checkSpectrum(t, long, complex(0.6, 0.8))
		checkSpectrum(t, long, 1)
	}
}

func TestP10SpectraByHand(t *testing.T) {
	x := complex(1+0x1p-30, 0)
	for _, c := range []struct {
		z       []complex128
		w, want complex128
	}{
		{nil, 2, 0},
		{nil, complex(nan, inf), 0},
		{[]complex128{}, -1, 0},
		{[]complex128{complex(3, -4)}, 2, complex(3, -4)},
		{[]complex128{1, 2, 3}, 2, 17},
		{[]complex128{1, 2, 3}, 0, 1},
		{[]complex128{1, 2, 3}, 1, 6},
		{[]complex128{1, 2, 3}, -1, 2},
		{[]complex128{1, 2, 3}, complex(0, 1), complex(-2, 2)},
		{[]complex128{complex(0, 1), complex(1, 1)}, complex(0, 2), complex(-2, 3)},
		// A 0 before the last element, with the sign that its product has.
		{[]complex128{minusBoth()}, 1, 0},
		{[]complex128{minusBoth()}, -1, complex(negativeZero, 0)},
		{[]complex128{5}, complex(inf, 0), complex(nan, nan)},
		{[]complex128{5}, complex(0, nan), complex(nan, nan)},
		{[]complex128{5}, complex(greatest, -greatest), 5},
		// From the last one on, 2^-53 + 2^-53 is added to 1.
		{[]complex128{1, 0x1p-53, 0x1p-53}, 1, 1 + 0x1p-52},
		{[]complex128{0x1p-53, 0x1p-53, 1}, 1, 1},
		// The square 1 + 2^-29 + 2^-60 is rounded before anything is added to it.
		{[]complex128{-(1 + 0x1p-29), x}, x, 0},
		{[]complex128{0x1p600, 0x1p600}, 0x1p600, complex(inf, 0)},
	} {
		if number := impl.SpectrumAt(c.z, c.w); !sameBoth(number, c.want) {
			t.Errorf("SpectrumAt of %v at %v: %v, want %v", c.z, c.w, number, c.want)
		}
	}
}

func TestP10FitsOfSpectra(t *testing.T) {
	r := newRandom()
	valid, failed := 0, 0
	for range 3000 {
		n := anyLength(r)
		if checkFitSpectra(t, anyRecording(r, n), nearOneComplex(r), 1+r.IntN(n/2+1)) {
			valid++
		} else {
			failed++
		}
		checkFitSpectra(t, anyRecording(r, n), nearOneComplex(r), r.IntN(8)-1)
		checkFitSpectra(t, []complex128{anyComplex(r), anyComplex(r), anyComplex(r), anyComplex(r)}, anyComplex(r), 1+r.IntN(2))
	}
	if valid < 500 || failed < 500 {
		t.Errorf("%d are valid, %d fail", valid, failed)
	}
	for _, z := range specialComplexes() {
		list := []complex128{complex(0.3, -2), complex(-1, 0.7), 3, complex(0.1, 1), 7}
		checkFitSpectra(t, list, z, 1)
		checkFitSpectra(t, list, z, 2)
		for place := range list {
			stray := slices.Clone(list)
			stray[place] = z
			checkFitSpectra(t, stray, complex(0.6, -0.7), 2)
		}
	}
	long := make([]complex128, 2*impl.MaxSamples+2)
	for k := range long {
		long[k] = nearOneComplex(r)
	}
	for _, n := range []int{2*impl.MaxSamples - 1, 2 * impl.MaxSamples, 2*impl.MaxSamples + 1} {
		if fine := checkFitSpectra(t, long[:n], complex(0.6, 0.8), impl.MaxSamples); fine != (n >= 4000) {
			t.Errorf("FitSpectra of %d numbers: %v", n, fine)
		}
		if !checkFitSpectra(t, long[:n], complex(0.6, 0.8), impl.MaxSamples-1) || !checkFitSpectra(t, long[:n], 1, 1) {
			t.Errorf("FitSpectra of %d numbers fails", n)
		}
	}
}

func TestP10FitsOfSpectraByHand(t *testing.T) {
	for _, c := range []struct {
		z       []complex128
		w, want complex128
		half    int
	}{
		{[]complex128{8, 4, 2, 1}, 0, 0.25, 2},
		{[]complex128{8, 4, 2, 1}, 3, 0.25, 2},
		{[]complex128{8, 4, 2, 1}, complex(0, 1), 0.25, 2},
		{[]complex128{8, 4, 2, 1}, 5, 0.5, 1},
		{[]complex128{8, 4}, 5, 0.5, 1},
		{[]complex128{8, 4, complex(nan, inf)}, 5, 0.5, 1}, // what is behind both halves does not count
		{[]complex128{1, 2, 3, 4}, 0, 3, 2},
		{[]complex128{1, 2, 3, 4}, 10, 43.0 / 21, 2},
		{[]complex128{1, 2, 3, 4, 5}, 10, 43.0 / 21, 2},
		{[]complex128{1, 0, 2, 1, 0, 2}, complex(0, 1), 1, 3},
		{[]complex128{2, 7, complex(0, 2), 9}, 0, complex(0, 1), 2},
	} {
		if fit, ok := impl.FitSpectra(c.z, c.w, c.half); !ok || !within(fit, c.want, 0) {
			t.Errorf("FitSpectra of %v at %v, half %d: %v %v, want %v", c.z, c.w, c.half, fit, ok, c.want)
		}
	}
}

func TestP10FitsOfSpectraThatFail(t *testing.T) {
	refuse := func(w complex128, half int, z ...complex128) {
		if fit, ok := impl.FitSpectra(z, w, half); ok || !sameBoth(fit, 0) {
			t.Errorf("FitSpectra of %d numbers, %v, at %v, half %d: %v %v", len(z), z[:min(9, len(z))], w, half, fit, ok)
		}
	}
	for _, half := range append(wrongSteps(), 0, -2, 1<<62, 1<<62+1, 1<<63-2, impl.MaxSamples+2) {
		for _, n := range []int{0, 1, 2, 4, 2*impl.MaxSamples + 2, 2*impl.MaxSamples + 9} {
			refuse(0.5, half, evenRecording(1, n)...)
		}
	}
	for n := range 8 {
		for half := n/2 + 1; half < 12; half++ {
			refuse(0.5, half, evenRecording(1, n)...)
		}
		refuse(0.5, impl.MaxSamples, evenRecording(1, n)...)
	}
	for _, zero := range []complex128{0, minusBoth(), complex(0, negativeZero)} {
		refuse(0, 1, zero, 1)
		refuse(0, 2, zero, 5, 1, 1)
		refuse(1, 2, zero, zero, 1, 1)
	}
	refuse(1, 2, 1, -1, 1, 1)
	refuse(complex(0, 1), 3, 1, 0, 1, 1, 2, 3)
	refuse(0.5, 1, 0x1p-600, 0x1p600)
	refuse(1, 2, 1, 1, greatest, greatest)
	refuse(1, 2, greatest, greatest, 1, 1)
	// The square 1 + 2^-29 + 2^-60 is rounded before anything is added to it.
	refuse(1+0x1p-30, 2, -(1 + 0x1p-29), 1+0x1p-30, 1, 1)
	for _, wild := range wildNumbers() {
		refuse(wild, 1, 8, 4)
		refuse(wild, 2, 8, 4, 2, 1)
		for place := range 4 {
			z := []complex128{8, 4, 2, 1}
			z[place] = wild
			refuse(0.5, 2, z...)
		}
	}
}

// Both halves of the ringing of a mode have the same shape, at any w.
func TestP10SpectraOfModes(t *testing.T) {
	r := newRandom()
	for range 500 {
		pole, half := sixteenths(r.IntN(17)-8, r.IntN(17)-8), 1+r.IntN(3)
		z, _ := impl.RingMode(pole, anyStart(r), 2*half)
		w := sixteenths(r.IntN(33)-16, r.IntN(33)-16)
		power, _ := impl.PowerDouble(pole, half)
		fit, ok := impl.FitSpectra(z, w, half)
		if flat := wantSpectrum(z[:half], w) == 0; ok == flat || ok && !within(fit, power, 0x1p-40) {
			t.Fatalf("FitSpectra of %v at %v, half %d: %v %v, want %v", z, w, half, fit, ok, power)
		}
	}
	if math.Abs(real(impl.SpectrumAt(evenRecording(1, 100), 0.5))-2) > 0x1p-40 {
		t.Error("SpectrumAt of ones at 1/2 is not 2")
	}
}
