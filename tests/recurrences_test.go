package tests

import (
	"cmp"
	"math"
	"math/rand/v2"
	"slices"
	"testing"

	"loop.example/g03222/impl"
)

// wantOver returns the sum over the products of the samples that are first and
// second places before each sample from the third one on.
func wantOver(y []float32, first, second int) float64 {
	total := 0.0
	for end := 2; end < len(y); end++ {
		total = sum(total, product(float64(y[end-first]), float64(y[end-second])))
	}
	return total
}

// wantDivisor returns what the sums are divided by.
func wantDivisor(y []float32) float64 {
	uv := wantOver(y, 1, 2)
	return difference(product(wantOver(y, 1, 1), wantOver(y, 2, 2)), product(uv, uv))
}

func wantReal(y []float32) (float64, float64, bool) {
	if len(y) > 2000 {
		return 0, 0, false
	}
	uu, uv, vv := wantOver(y, 1, 1), wantOver(y, 1, 2), wantOver(y, 2, 2)
	uw, vw, d := wantOver(y, 1, 0), wantOver(y, 2, 0), wantDivisor(y)
	a := ratio(difference(product(uw, vv), product(vw, uv)), d)
	b := ratio(difference(product(uw, uv), product(vw, uu)), d)
	if d == 0 || !finitePart(d) || !finitePart(a) || !finitePart(b) {
		return 0, 0, false
	}
	return a, b, true
}

func checkReal(t *testing.T, y []float32) bool {
	t.Helper()
	wantA, wantB, valid := wantReal(y)
	a, b, ok := impl.FitReal(y)
	if ok != valid || !same(a, wantA) || !same(b, wantB) {
		t.Fatalf("FitReal of %v: %v %v %v, want %v %v %v", y, a, b, ok, wantA, wantB, valid)
	}
	return ok
}

// anySamples returns samples of which some may be 0, or of any size.
func anySamples(r *rand.Rand, n int) []float32 {
	y := anyInput(r, n)
	kind := r.IntN(4)
	for k := range y {
		switch kind {
		case 1:
			y[k] *= float32(r.IntN(2))
		case 2:
			y[k] = narrow(math.Ldexp(float64(y[k]), r.IntN(200)-100))
		case 3:
			y[k] = float32(r.IntN(7) - 3)
		}
	}
	return y
}

func TestP10Recurrences(t *testing.T) {
	r := newRandom()
	valid, failed := 0, 0
	for range 3000 {
		if checkReal(t, anySamples(r, anyLength(r)+r.IntN(3))) {
			valid++
		} else {
			failed++
		}
		checkReal(t, wildSamples(r, r.IntN(8)))
	}
	if valid < 1000 || failed < 500 {
		t.Errorf("%d are valid, %d fail", valid, failed)
	}
	for _, x := range specialSingles() {
		for _, y := range specialSingles() {
			checkReal(t, []float32{x, 0.3, y, -2})
			checkReal(t, []float32{0.3, x, -2, y, 1})
			checkReal(t, []float32{x, y, x, y})
			checkReal(t, []float32{1, 2, x, y, 0, 0.5})
		}
	}
	for _, n := range []int{impl.MaxSamples - 1, impl.MaxSamples} {
		if !checkReal(t, anyInput(r, n)) {
			t.Errorf("FitReal of %d samples fails", n)
		}
	}
}

// Samples that grow by the same factor fit many recurrences: but for rounding,
// the divisor would be 0. Below 0, it is divided by as well.
func TestP10RecurrencesOfGrowingSamples(t *testing.T) {
	signs := map[int]int{}
	for first := float32(1); first < 64; first += 2 {
		for length := 3; length < 9; length++ {
			y := []float32{first}
			for len(y) < length {
				y = append(y, y[len(y)-1]*96)
			}
			checkReal(t, y)
			signs[cmp.Compare(wantDivisor(y), 0)]++
		}
	}
	if signs[-1] < 10 || signs[0] < 10 || signs[1] < 10 {
		t.Errorf("signs of the divisors: %v", signs)
	}
}

func TestP10RecurrencesByHand(t *testing.T) {
	for _, c := range []struct {
		y    []float32
		a, b float64
	}{
		{[]float32{1, 2, 3, 4}, 2, 1},
		{[]float32{1, 1, 2, 3}, 1, -1},
		{[]float32{1, 1, 2, 3, 5, 8, 13}, 1, -1},
		{[]float32{0, 1, 3, 7, 15, 31}, 3, 2},
		{[]float32{2, 1.5, 1.25, 1.125}, 1.5, 0.5},
		{[]float32{1, 0, -1, 0}, 0, 1},
		{[]float32{0, 1, 1, 0, -1, -1}, 1, 1},
		{[]float32{1, 0, narrow(negativeZero), 0, 1, 0}, 0, 0},
		// Not a recurrence, but the nearest one to it.
		{[]float32{1, 0, 1, 0, 0, 0}, 0, -0.5},
		{[]float32{0, 1, 0, 1, 2}, 1, -1},
		// The squares are too small and too great for single precision.
		{[]float32{0x1p-140, 0x1p-139, 0x3p-140, 0x1p-138}, 2, 1},
		{[]float32{0x1p120, 0x1p121, 0x3p120, 0x1p122}, 2, 1},
		{[]float32{leastSingle, 0, -leastSingle, 0}, 0, 1},
		{[]float32{greatestSingle, 0, -greatestSingle, 0}, 0, 1},
		// From the first one on, 1 + 2^-53 + 2^-53 is 1.
		{[]float32{1, 0, 1, 0, 0x1p-53, 0, 1}, 0, -0.5},
	} {
		if a, b, ok := impl.FitReal(c.y); !ok || !same(a, c.a) || !same(b, c.b) {
			t.Errorf("FitReal of %v: %v %v %v, want %v %v", c.y, a, b, ok, c.a, c.b)
		}
	}
}

func TestP10RecurrencesThatFail(t *testing.T) {
	refuse := func(y ...float32) {
		if a, b, ok := impl.FitReal(y); ok || !same(a, 0) || !same(b, 0) {
			t.Errorf("FitReal of %d samples, %v: %v %v %v", len(y), y[:min(9, len(y))], a, b, ok)
		}
	}
	for _, x := range []float32{0, narrow(negativeZero), 1, -3, 0.1, leastSingle, greatestSingle} {
		for n := range 8 {
			refuse(slices.Repeat([]float32{x}, n)...)
		}
		refuse(slices.Repeat([]float32{x}, impl.MaxSamples)...)
	}
	// Fewer than four samples give less than two equations.
	refuse(1, 2)
	refuse(1, 2, 3)
	refuse(0, 1, 0)
	refuse(8, 4, 2, 1)
	refuse(1, 0, 0, 0)
	refuse(0, 0, 1, 5)
	// Both products in d are rounded, to the same number.
	refuse(1+0x1p-23, 1+0x3p-23, 5)
	refuse(0.1, 0.3, -7)
	recurring := slices.Repeat([]float32{1, 0, -1, 0}, 1+impl.MaxSamples/4)
	if _, _, ok := impl.FitReal(recurring[:impl.MaxSamples]); !ok {
		t.Error("FitReal of MaxSamples samples fails")
	}
	refuse(recurring[:impl.MaxSamples+1]...)
	refuse(recurring...)
	refuse(slices.Repeat(recurring, 5)...)
	for _, wild := range []float32{float32(nan), float32(inf), float32(-inf)} {
		for place := range 6 {
			y := []float32{1, 1, 2, 3, 5, 8}
			y[place] = wild
			refuse(y...)
			y = make([]float32, 6)
			y[place] = wild
			refuse(y...)
		}
		refuse(wild, wild, wild, wild)
		refuse(wild)
		refuse(wild, wild)
	}
}

func wantNear(a, b complex128, bound float64) bool {
	d := wantDifference(a, b)
	size := sum(math.Abs(real(d)), math.Abs(imag(d)))
	return size < bound || size == bound
}

func bounds() []float64 {
	return []float64{0, negativeZero, least, -least, -1, 0x1p-40, 0.5, 1, 2.5, greatest, inf, -inf, nan}
}

func TestP10NearNumbers(t *testing.T) {
	check := func(a, b complex128, bound float64) {
		if near := impl.NearDouble(a, b, bound); near != wantNear(a, b, bound) {
			t.Fatalf("NearDouble of %v and %v, bound %v: %v", a, b, bound, near)
		}
	}
	for _, z := range specialComplexes() {
		for _, bound := range bounds() {
			for _, other := range append(strayNumbers(), 1, complex(0.1, -3)) {
				check(z, other, bound)
				check(other, z, bound)
			}
			check(z, z, bound)
		}
	}
	r := newRandom()
	for range 5000 {
		a, b := nearOneComplex(r), nearOneComplex(r)
		size := impl.SizeDouble(wantDifference(a, b))
		for _, bound := range []float64{size, math.Nextafter(size, 0), math.Nextafter(size, inf), nearOne(r)} {
			check(a, b, bound)
		}
		check(anyComplex(r), anyComplex(r), anyDouble(r))
	}
}

func TestP10NearNumbersByHand(t *testing.T) {
	for _, c := range []struct {
		a, b  complex128
		bound float64
		want  bool
	}{
		{1, complex(1, 0.5), 0.5, true},
		{1, complex(1, 0.5), math.Nextafter(0.5, 0), false},
		{complex(1, 2), complex(0, 0), 3, true},
		{complex(1, 2), complex(0, 0), 2.99, false}, // both parts count, each by its absolute value
		{complex(-1, 2), complex(1, 1), 3, true},
		{complex(-1, 2), complex(1, 1), 2.5, false},
		{complex(1, -1), complex(2, 0), 2, true},
		{complex(1, -1), complex(2, 0), 1, false},
		{complex(3, 4), complex(3, 4), 0, true},
		{complex(3, 4), complex(3, 4), negativeZero, true},
		{0, minusBoth(), negativeZero, true},
		{complex(3, 4), complex(3, 4), -least, false},
		{complex(3, 4), complex(3, 4), -inf, false},
		{complex(3, 4), complex(3, 4), nan, false},
		{0, complex(0, least), 0, false},
		{0, complex(0, least), least, true},
		{complex(greatest, 0), complex(-greatest, 0), greatest, false},
		{complex(greatest, 0), complex(-greatest, 0), inf, true},
		{complex(inf, 0), 0, inf, true},
		{complex(inf, 0), complex(-inf, 0), inf, true},
		{complex(inf, 0), complex(inf, 0), inf, false},
		{complex(nan, 0), complex(nan, 0), inf, false},
		{1, complex(0, nan), inf, false},
		// The difference, 1 + 2^-53, is rounded to 1; so is the sum of both parts.
		{1, complex(-0x1p-53, 0), 1, true},
		{1, complex(0, 0x1p-53), 1, true},
		{1, complex(0, 0x3p-53), 1, false},
	} {
		if near := impl.NearDouble(c.a, c.b, c.bound); near != c.want {
			t.Errorf("NearDouble of %v and %v, bound %v: %v", c.a, c.b, c.bound, near)
		}
		if near := impl.NearDouble(c.b, c.a, c.bound); near != c.want {
			t.Errorf("NearDouble of %v and %v, bound %v: %v", c.b, c.a, c.bound, near)
		}
	}
}
