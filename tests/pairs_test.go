package tests

import (
	"testing"

	"loop.example/g03222/impl"
)

func wantPair(z []complex128) (complex128, complex128, bool) {
	if len(z) != 4 {
		return 0, 0, false
	}
	d := wantDifference(wantProduct(z[1], z[1]), wantProduct(z[0], z[2]))
	s, fine := wantQuotient(wantDifference(wantProduct(z[1], z[2]), wantProduct(z[0], z[3])), d)
	t, ok := wantQuotient(wantDifference(wantProduct(z[2], z[2]), wantProduct(z[1], z[3])), d)
	if !fine || !ok {
		return 0, 0, false
	}
	return s, t, true
}

func checkPair(t *testing.T, z []complex128) bool {
	t.Helper()
	wantS, wantT, valid := wantPair(z)
	s, p, ok := impl.FitPair(z)
	if ok != valid || !sameBoth(s, wantS) || !sameBoth(p, wantT) {
		t.Fatalf("FitPair of %v: %v %v %v, want %v %v %v", z, s, p, ok, wantS, wantT, valid)
	}
	return ok
}

func TestP10Pairs(t *testing.T) {
	r := newRandom()
	valid, failed := 0, 0
	for range 5000 {
		if checkPair(t, anyRecording(r, 4)) {
			valid++
		} else {
			failed++
		}
		checkPair(t, anyRecording(r, r.IntN(8)))
		checkPair(t, []complex128{anyComplex(r), anyComplex(r), anyComplex(r), anyComplex(r)})
	}
	if valid < 2000 || failed < 100 {
		t.Errorf("%d are valid, %d fail", valid, failed)
	}
	for _, z := range specialComplexes() {
		for place := range 4 {
			list := []complex128{complex(0.3, -2), complex(-1, 0.7), 3, complex(0.1, 1)}
			list[place] = z
			checkPair(t, list)
		}
	}
}

func TestP10PairsByHand(t *testing.T) {
	// The signs of zeros are left to the tests with exact arithmetic.
	for _, c := range []struct{ z0, z1, z2, z3, s, p complex128 }{
		{2, 1.5, 1.25, 1.125, 1.5, 0.5},                          // 1 and 1/2
		{0, 1, 3, 7, 3, 2},                                       // 1 and 2
		{1, 0, -1, 0, 0, 1},                                      // i and -i
		{1, 1, 2, 3, 1, -1},                                      // z[k+2] = z[k+1] + z[k]
		{1, 2, 3, 4, 2, 1},                                       // 1, twice: a straight line
		{0, 1, 0, 0, 0, 0},                                       // neither has any effect after the first step
		{complex(1, 1), 0, 1, 0, 0, complex(-0.5, 0.5)},          // z[2] = -t z[0]
		{0, complex(0, 1), -1, complex(0, -1), complex(0, 1), 0}, // i and 0
		{2, complex(1, 1), 0, complex(2, -2), complex(2, 2), complex(0, 2)}, // 1 + i, twice
	} {
		s, p, ok := impl.FitPair([]complex128{c.z0, c.z1, c.z2, c.z3})
		if !ok || !within(s, c.s, 0) || !within(p, c.p, 0) {
			t.Errorf("FitPair of %v, %v, %v, %v: %v %v %v, want %v %v", c.z0, c.z1, c.z2, c.z3, s, p, ok, c.s, c.p)
		}
	}
}

func TestP10PairsThatFail(t *testing.T) {
	refuse := func(z ...complex128) {
		if s, p, ok := impl.FitPair(z); ok || !sameBoth(s, 0) || !sameBoth(p, 0) {
			t.Errorf("FitPair of %d numbers, %v: %v %v %v", len(z), z[:min(9, len(z))], s, p, ok)
		}
	}
	good := []complex128{2, 1.5, 1.25, 1.125, 1.0625, 1.03125}
	for _, n := range []int{0, 1, 2, 3, 5, 6} {
		refuse(good[:n]...)
	}
	refuse(evenRecording(3, impl.MaxSamples)...)
	refuse(evenRecording(3, impl.MaxSamples+1)...)
	for _, zero := range []complex128{0, minusBoth()} {
		refuse(zero, zero, zero, zero)
		refuse(1, zero, zero, zero)
		refuse(1, zero, zero, 1)
		refuse(zero, zero, 1, 1)
	}
	refuse(8, 4, 2, 1)
	refuse(1, complex(0, 1), -1, complex(0, -1))
	refuse(0x1p-600, 0x1p-601, 0x1p-600, 1) // the squares are 0
	// The square 1 + 2^-29 + 2^-60 is rounded before the difference, which is 0.
	refuse(1, 1+0x1p-30, 1+0x1p-29, 5)
	refuse(1+0x1p-29, 1+0x1p-30, 1, 5)
	// Only d, only the sum, only the product of the poles cannot be told.
	refuse(0, 0x1p600, 0, 0)
	refuse(0x1p600, 0, 0x1p-600, 0x1p600)
	refuse(0, 1, 0x1p600, 0)
	for _, wild := range wildNumbers() {
		for place := range 4 {
			z := []complex128{0, 1, 3, 7}
			z[place] = wild
			refuse(z...)
		}
		refuse(wild, wild, wild, wild)
	}
}

// addRecordings adds the ringings of two modes.
func addRecordings(a, b []complex128) []complex128 {
	z := make([]complex128, len(a))
	for k := range z {
		z[k] = a[k] + b[k]
	}
	return z
}

func checkOwnPair(t *testing.T, p, q, startP, startQ complex128) {
	t.Helper()
	a, fine := impl.RingMode(p, startP, 4)
	b, ok := impl.RingMode(q, startQ, 4)
	if !fine || !ok || len(a) != 4 || len(b) != 4 {
		t.Fatalf("RingMode of %v and %v: %v %v", p, q, a, b)
	}
	sum, product, ok := impl.FitPair(addRecordings(a, b))
	if p == q {
		if ok || !sameBoth(sum, 0) || !sameBoth(product, 0) {
			t.Fatalf("FitPair of %v twice, from %v and %v: %v %v %v", p, startP, startQ, sum, product, ok)
		}
		return
	}
	if !ok || !within(sum, p+q, 0x1p-40) || !within(product, wantProduct(p, q), 0x1p-40) {
		t.Fatalf("FitPair of %v and %v, from %v and %v: %v %v %v", p, q, startP, startQ, sum, product, ok)
	}
}

// Both poles, their sum, their product and the recordings are exact here.
func TestP5PairsAreFittedToTheirRinging(t *testing.T) {
	r := newRandom()
	poles := plainPoles()
	for _, p := range poles {
		for range 10 {
			checkOwnPair(t, p, poles[r.IntN(len(poles))], anyStart(r), anyStart(r))
		}
		for _, step := range []complex128{0, 0x1p-4, complex(0, 0x1p-4), complex(0x1p-4, -0x1p-4)} {
			checkOwnPair(t, p, p+step, anyStart(r), anyStart(r))
			checkOwnPair(t, p, p+step, complex(4, -4), complex(-4, 4))
			checkOwnPair(t, p, p+step, complex(4, 4), 0x1p-4)
			checkOwnPair(t, p, p+step, 0x1p-4, complex(0, 0x1p-4))
		}
		checkOwnPair(t, p, -p, anyStart(r), anyStart(r))
		checkOwnPair(t, p, wantConjugate(p), anyStart(r), anyStart(r))
	}
}

// A mode alone, without the other one, has no second pole.
func TestP5PairsOfOneModeFail(t *testing.T) {
	r := newRandom()
	for _, p := range plainPoles() {
		z, ok := impl.RingMode(p, anyStart(r), 4)
		if s, q, found := impl.FitPair(z); !ok || found || !sameBoth(s, 0) || !sameBoth(q, 0) {
			t.Fatalf("FitPair of %v: %v %v %v", z, s, q, found)
		}
	}
}
