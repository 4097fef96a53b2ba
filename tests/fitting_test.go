package tests

import (
	"math"
	"math/big"
	"math/rand/v2"
	"testing"

	"loop.example/g03222/impl"
)

func wantFitQuotients(z []complex128) (complex128, bool) {
	quotients, ok := wantQuotients(z)
	if !ok {
		return 0, false
	}
	total := complex128(0)
	for _, quotient := range quotients {
		total = wantSum(total, quotient)
	}
	return wantQuotient(total, complex(float64(len(z)-1), 0))
}

func wantFitSquares(z []complex128) (complex128, bool) {
	if len(z) > 2000 {
		return 0, false
	}
	above, below := complex128(0), complex128(0)
	for k := range len(z) - 1 {
		above = wantSum(above, wantProduct(z[k+1], wantConjugate(z[k])))
		below = wantSum(below, wantProduct(z[k], wantConjugate(z[k])))
	}
	return wantQuotient(above, below)
}

func wantFitStart(z []complex128, pole complex128) (complex128, bool) {
	if len(z) > 2000 {
		return 0, false
	}
	above, below, p := complex128(0), complex128(0), complex128(1)
	for _, number := range z {
		above = wantSum(above, wantProduct(number, wantConjugate(p)))
		below = wantSum(below, wantProduct(p, wantConjugate(p)))
		p = wantProduct(p, pole)
	}
	return wantQuotient(above, below)
}

// sameFit compares a fit and its boolean to what is wanted.
func sameFit(t *testing.T, name string, fit complex128, ok bool, want complex128, valid bool) bool {
	t.Helper()
	if ok != valid || !sameBoth(fit, want) {
		t.Fatalf("%s: %v %v, want %v %v", name, fit, ok, want, valid)
	}
	return ok
}

func checkFitQuotients(t *testing.T, z []complex128) bool {
	t.Helper()
	want, valid := wantFitQuotients(z)
	pole, ok := impl.FitQuotients(z)
	return sameFit(t, "FitQuotients", pole, ok, want, valid)
}

func checkFitSquares(t *testing.T, z []complex128) bool {
	t.Helper()
	want, valid := wantFitSquares(z)
	pole, ok := impl.FitSquares(z)
	return sameFit(t, "FitSquares", pole, ok, want, valid)
}

func checkFitStart(t *testing.T, z []complex128, pole complex128) bool {
	t.Helper()
	want, valid := wantFitStart(z, pole)
	start, ok := impl.FitStart(z, pole)
	return sameFit(t, "FitStart", start, ok, want, valid)
}

func TestP10Fitting(t *testing.T) {
	r := newRandom()
	fits := map[bool]int{}
	for range 2000 {
		z := anyRecording(r, anyLength(r))
		fits[checkFitQuotients(t, z)]++
		fits[checkFitSquares(t, z)]++
		fits[checkFitStart(t, z, nearOneComplex(r))]++
		wild := []complex128{anyComplex(r), anyComplex(r), anyComplex(r)}
		checkFitQuotients(t, wild)
		checkFitSquares(t, wild)
		checkFitStart(t, wild, anyComplex(r))
	}
	if fits[true] < 2000 || fits[false] < 1000 {
		t.Errorf("%d fits hold, %d fail", fits[true], fits[false])
	}
	for _, z := range specialComplexes() {
		for _, list := range [][]complex128{{z}, {complex(0.3, -2), z}, {z, complex(0.3, -2)}, {1, z, complex(0.3, -2)}} {
			checkFitQuotients(t, list)
			checkFitSquares(t, list)
			checkFitStart(t, list, complex(0.6, -0.7))
			checkFitStart(t, list, z)
		}
		checkFitStart(t, []complex128{1, complex(2, 3), -1}, z)
	}
	for _, n := range []int{0, 1, 2, 3, 4, 5, impl.MaxSamples - 1, impl.MaxSamples} {
		long := make([]complex128, n)
		for k := range long {
			long[k] = nearOneComplex(r) + 20
		}
		if fine := checkFitQuotients(t, long); fine != (n > 1) {
			t.Errorf("FitQuotients of %d numbers: %v", n, fine)
		}
		if fine := checkFitSquares(t, long); fine != (n > 1) {
			t.Errorf("FitSquares of %d numbers: %v", n, fine)
		}
		if fine := checkFitStart(t, long, complex(0.6, 0.8)); fine != (n > 0) {
			t.Errorf("FitStart of %d numbers: %v", n, fine)
		}
	}
}

func TestP10FittingByHand(t *testing.T) {
	third := 1.0 / 3
	for _, c := range []struct {
		z                  []complex128
		quotients, squares complex128
	}{
		{[]complex128{8, 4}, 0.5, 0.5},
		{[]complex128{8, 4, 2, 1}, 0.5, 0.5},
		{[]complex128{complex(0, 3), -3}, complex(0, 1), complex(0, 1)},
		{[]complex128{1, complex(1, 2)}, complex(1, 2), complex(1, 2)},
		{[]complex128{4, 0}, 0, 0},
		{[]complex128{1, -0.5, 0.25}, -0.5, -0.5},
		// Quotients 2 and 1: each counts as much as the other, squares do not.
		{[]complex128{1, 2, 2}, 1.5, 1.2},
		{[]complex128{1, complex(0, 1), 1}, 0, 0},
		// A quotient of -0, added to 0, is 0.
		{[]complex128{1, minusBoth()}, 0, 0},
		// From the first one on, 1 + 2^-53 + 2^-53 is 1.
		{[]complex128{1, 1, 0x1p-53, 0x1p-106}, complex(third, 0), 0.5},
		{[]complex128{1, 1, 0x1p-53, 1}, complex(0x1p53/3, 0), 0.5},
	} {
		if pole, ok := impl.FitQuotients(c.z); !ok || !sameBoth(pole, c.quotients) {
			t.Errorf("FitQuotients of %v: %v %v, want %v", c.z, pole, ok, c.quotients)
		}
		if pole, ok := impl.FitSquares(c.z); !ok || !sameBoth(pole, c.squares) {
			t.Errorf("FitSquares of %v: %v %v, want %v", c.z, pole, ok, c.squares)
		}
	}
	for _, c := range []struct {
		z    []complex128
		want complex128
	}{
		{[]complex128{3, 0, 1}, 0},
		{[]complex128{0, 5, 5}, 1},
		{[]complex128{complex(0, negativeZero), complex(1, 1), 0}, 0},
		// The square 1 + 2^-29 + 2^-60 is rounded before it is added.
		{[]complex128{1 + 0x1p-30, 1 + 0x1p-30, -(1 + 0x1p-30)}, 0},
	} {
		if pole, ok := impl.FitSquares(c.z); !ok || !sameBoth(pole, c.want) {
			t.Errorf("FitSquares of %v: %v %v, want %v", c.z, pole, ok, c.want)
		}
	}
}

func TestP10StartsByHand(t *testing.T) {
	third, x := 1.0/3, 1+0x1p-30
	for _, c := range []struct {
		z          []complex128
		pole, want complex128
	}{
		{[]complex128{8, 4, 2, 1}, 0.5, 8},
		{[]complex128{complex(3, -2)}, 0.5, complex(3, -2)},
		{[]complex128{complex(3, -2)}, 0, complex(3, -2)},
		// The pole is not used for the first number.
		{[]complex128{complex(3, -2)}, complex(nan, inf), complex(3, -2)},
		{[]complex128{complex(3, -2), 5, 7}, 0, complex(3, -2)},
		{[]complex128{complex(3, -2), 5, 7}, minusBoth(), complex(3, -2)},
		{[]complex128{complex(3, -2), complex(2, 3), complex(-3, 2), complex(-2, -3)}, complex(0, 1), complex(3, -2)},
		{[]complex128{1, 2, 6}, 1, 3},
		{[]complex128{1, 2, 6}, -1, complex(5.0/3, 0)},
		{[]complex128{0, 1}, 2, 0.4},
		{[]complex128{0, 0, 0}, 0.5, 0},
		{[]complex128{minusBoth()}, 0.5, 0},
		// From the first one on, 1 + 2^-53 + 2^-53 is 1.
		{[]complex128{1, 0x1p-53, 0x1p-53}, 1, complex(third, 0)},
		// The square 1 + 2^-29 + 2^-60 is rounded before it is added.
		{[]complex128{complex(-(1 + 0x1p-29), 0), complex(x, 0)}, complex(x, 0), 0},
	} {
		if start, ok := impl.FitStart(c.z, c.pole); !ok || !sameBoth(start, c.want) {
			t.Errorf("FitStart of %v with %v: %v %v, want %v", c.z, c.pole, start, ok, c.want)
		}
	}
}

func TestP10FittingThatFails(t *testing.T) {
	refuseSquares := func(z ...complex128) {
		if pole, ok := impl.FitSquares(z); ok || !sameBoth(pole, 0) {
			t.Errorf("FitSquares of %d numbers, %v: %v %v", len(z), z[:min(9, len(z))], pole, ok)
		}
	}
	refuseStart := func(pole complex128, z ...complex128) {
		if start, ok := impl.FitStart(z, pole); ok || !sameBoth(start, 0) {
			t.Errorf("FitStart of %d numbers, %v, with %v: %v %v", len(z), z[:min(9, len(z))], pole, start, ok)
		}
	}
	refuseSquares()
	refuseSquares(0)
	refuseSquares(1)
	refuseSquares(complex(nan, inf))
	refuseSquares(0, 1)
	refuseSquares(minusBoth(), 0, 0, complex(3, 2))
	refuseSquares(0x1p-600, 0x1p-600, 0x1p-600) // the squares are 0
	refuseSquares(0x1p-600, 1)
	refuseSquares(0x1p600, 1, 1)
	refuseSquares(1, 0x1p600, 0x1p600)
	refuseSquares(1, greatest, greatest)
	refuseSquares(0x1p-500, greatest)
	refuseSquares(evenRecording(1, impl.MaxSamples+1)...)
	refuseSquares(evenRecording(1, 4*impl.MaxSamples)...)
	for _, pole := range []complex128{0, 0.5, 1, complex(nan, 0), complex(0, inf)} {
		refuseStart(pole)
		refuseStart(pole, evenRecording(1, impl.MaxSamples+1)...)
		refuseStart(pole, evenRecording(1, 4*impl.MaxSamples)...)
	}
	refuseStart(1, greatest, greatest)
	refuseStart(0x1p600, 1, 1)
	refuseStart(0x1p300, 1, 1, 1)
	for _, wild := range wildNumbers() {
		refuseSquares(wild, 1)
		refuseSquares(1, wild)
		refuseSquares(1, wild, 1)
		refuseSquares(3, 2, 1, wild)
		refuseStart(0.5, wild)
		refuseStart(0.5, wild, 1)
		refuseStart(0.5, 3, 2, wild)
		refuseStart(0, 3, 2, wild)
		refuseStart(wild, 3, 2)
		refuseStart(wild, 0, 0, 0)
	}
	// The sum of the quotients is too great, and none of them is.
	z := []complex128{0x1p-512, 0x1p511, 0x1p-512, 0x1p511}
	if _, ok := impl.QuotientsOf(z); !ok {
		t.Errorf("QuotientsOf %v fails", z)
	}
	if pole, ok := impl.FitQuotients(z); ok || !sameBoth(pole, 0) {
		t.Errorf("FitQuotients of %v: %v %v", z, pole, ok)
	}
}

// within reports whether the size of the difference of a and b is at most the
// bound, without rounding.
func within(a, b complex128, bound float64) bool {
	missed := func(x, y float64) *big.Float { return blank().Sub(exact(x), exact(y)) }
	return finite(a) && finite(b) && exactSize(missed(real(a), real(b)), missed(imag(a), imag(b))).Cmp(exact(bound)) <= 0
}

// sixteenths returns a + b i, divided by 16.
func sixteenths(a, b int) complex128 { return complex(float64(a)/16, float64(b)/16) }

func anyStart(r *rand.Rand) complex128 {
	for {
		if start := sixteenths(r.IntN(129)-64, r.IntN(129)-64); start != 0 {
			return start
		}
	}
}

// plainPoles returns the multiples of 1/16 whose size is at least 1/4 and whose
// absolute value is at most 1, so that the size may be greater.
func plainPoles() []complex128 {
	var list []complex128
	for a := -16; a <= 16; a++ {
		for b := -16; b <= 16; b++ {
			if max(a, -a)+max(b, -b) >= 4 && a*a+b*b <= 256 {
				list = append(list, sixteenths(a, b))
			}
		}
	}
	return list
}

// anyPoleToFit returns a pole with a size of at least 1/4, which is not greater
// than 1 by its size or by its absolute value, often just so.
func anyPoleToFit(r *rand.Rand) complex128 {
	for {
		size := []float64{0.25, 1, 0.25 + 0.75*r.Float64()}[r.IntN(3)]
		re := size * r.Float64()
		im := size - re
		if r.IntN(3) == 0 {
			im = math.Sqrt(1 - re*re)
		}
		pole := complex(re*float64(1-2*r.IntN(2)), im*float64(1-2*r.IntN(2)))
		if !within(pole, 0, math.Nextafter(0.25, 0)) && sum(product(re, re), product(im, im)) <= 1 {
			return pole
		}
	}
}

func checkOwnRinging(t *testing.T, pole, start complex128, n int) {
	t.Helper()
	z, ok := impl.RingMode(pole, start, n)
	if !ok || len(z) != n {
		t.Fatalf("RingMode of %v from %v, %d numbers: %d numbers, %v", pole, start, n, len(z), ok)
	}
	if fit, ok := impl.FitQuotients(z); !ok || !within(fit, pole, 0x1p-40) {
		t.Fatalf("FitQuotients of %d numbers of %v from %v: %v %v", n, pole, start, fit, ok)
	}
	if fit, ok := impl.FitSquares(z); !ok || !within(fit, pole, 0x1p-40) {
		t.Fatalf("FitSquares of %d numbers of %v from %v: %v %v", n, pole, start, fit, ok)
	}
	if fit, ok := impl.FitSpectra(z, pole, 1); !ok || !within(fit, pole, 0x1p-40) {
		t.Fatalf("FitSpectra of %d numbers of %v from %v: %v %v", n, pole, start, fit, ok)
	}
	if fit, ok := impl.FitStart(z, pole); !ok || !within(fit, start, 0x1p-40) {
		t.Fatalf("FitStart of %d numbers of %v from %v: %v %v", n, pole, start, fit, ok)
	}
}

func TestP5ModesAreFittedToTheirRinging(t *testing.T) {
	r := newRandom()
	for _, pole := range plainPoles() {
		for _, n := range []int{2, 3, 41, 2 + r.IntN(40)} {
			checkOwnRinging(t, pole, anyStart(r), n)
		}
	}
	for range 5000 {
		checkOwnRinging(t, anyPoleToFit(r), anyStart(r), 2+r.IntN(40))
	}
	for _, pole := range []complex128{1, -1, complex(0, 1), complex(0, -1), 0.25, complex(0, -0.25), complex(0.125, 0.125), complex(-0.5, 0.5)} {
		for _, start := range []complex128{complex(4, 4), -4, complex(0, -4), 0x1p-4, complex(0, -0x1p-4), complex(4, 0x1p-4), complex(-0x1p-4, 4)} {
			for n := 2; n <= 41; n++ {
				checkOwnRinging(t, pole, start, n)
			}
		}
	}
}
