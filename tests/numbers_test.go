package tests

import (
	"math"
	"math/big"
	"strconv"
	"testing"

	"loop.example/g03222/impl"
)

// wideOf reads a finite float32 digit by digit.
func wideOf(bits uint32) float64 {
	digits, exponent := int(bits&(1<<23-1)), int(bits>>23&0xff)
	if exponent == 0 {
		exponent = 1
	} else {
		digits += 1 << 23
	}
	x := math.Ldexp(float64(digits), exponent-150)
	if bits>>31 == 1 {
		return -x
	}
	return x
}

func TestP2WideningIsExact(t *testing.T) {
	for pattern := uint64(0); pattern < 1<<32; pattern += 10007 {
		bits := uint32(pattern)
		x := math.Float32frombits(bits)
		if !finitePart(float64(x)) {
			continue
		}
		want := wideOf(bits)
		if z := impl.WidenNumber(complex(x, -x)); !sameBoth(z, complex(want, -want)) {
			t.Fatalf("WidenNumber of %x: %v, want %v", bits, z, want)
		}
		if z := impl.NarrowNumber(complex(want, 1)); !sameBothSingle(z, complex(x, 1)) {
			t.Fatalf("NarrowNumber of %v: %v, want %v", want, z, x)
		}
	}
	for _, x := range specialSingles() {
		if z := impl.WidenNumber(complex(1, x)); !sameBoth(z, complex(1, float64(x))) {
			t.Errorf("WidenNumber of 1 and %v: %v", x, z)
		}
	}
}

func TestP2NarrowingRoundsToEven(t *testing.T) {
	for _, c := range []struct{ x, want float64 }{
		{1 + 0x1p-24, 1},
		{1 + 0x1p-24 + 0x1p-52, 1 + 0x1p-23},
		{1 + 0x3p-24, 1 + 0x1p-22},
		{1 + 0x3p-24 - 0x1p-52, 1 + 0x1p-23},
		{0x1p-150, 0},
		{-0x1p-150, negativeZero},
		{0x1p-150 + 0x1p-202, leastSingle},
		{0x3p-150, 0x1p-148},
		{greatestSingle + 0x1p102, greatestSingle},
		{greatestSingle + 0x1p103 - 0x1p75, greatestSingle},
		{greatestSingle + 0x1p103, inf},
		{greatest, inf},
		{-greatest, -inf},
		{least, 0},
		{-least, negativeZero},
		{negativeZero, negativeZero},
		{inf, inf},
		{nan, nan},
	} {
		z := impl.NarrowNumber(complex(c.x, -c.x))
		if !same(float64(real(z)), c.want) || !same(float64(imag(z)), -c.want) {
			t.Errorf("NarrowNumber of %v: %v, want %v", c.x, z, c.want)
		}
	}
	r := newRandom()
	for range 20000 {
		x := math.Ldexp(nearOne(r), r.IntN(290)-155)
		if z := impl.NarrowNumber(complex(x, -x)); !sameBothSingle(z, narrowBoth(complex(x, -x))) {
			t.Fatalf("NarrowNumber of %v: %v", x, z)
		}
	}
}

func TestP2ProductsOfDouble(t *testing.T) {
	check := func(a, b complex128) {
		if z, want := impl.MultiplyDouble(a, b), wantProduct(a, b); !sameBoth(z, want) {
			t.Fatalf("MultiplyDouble of %v and %v: %v, want %v", a, b, z, want)
		}
	}
	for _, a := range specialComplexes() {
		for _, b := range []complex128{1, complex(0, 1), complex(negativeZero, negativeZero), complex(-1, least),
			complex(greatest, greatest), complex(inf, 0), complex(inf, -inf), complex(nan, 1), complex(0.1, -0x1p-540)} {
			check(a, b)
			check(b, a)
		}
	}
	r := newRandom()
	for range 5000 {
		check(anyComplex(r), anyComplex(r))
		check(nearOneComplex(r), nearOneComplex(r))
	}
	// Each of these products is rounded to its neighbour before they cancel.
	x := 1 + 0x1p-30
	if z := impl.MultiplyDouble(complex(x, 1), complex(x, 1+0x1p-29)); real(z) != 0 {
		t.Errorf("a product was not rounded before the difference: %v", z)
	}
}

func TestP2ProductsOfSingle(t *testing.T) {
	check := func(a, b complex64) {
		if z, want := impl.MultiplySingle(a, b), wantProductSingle(a, b); !sameBothSingle(z, want) {
			t.Fatalf("MultiplySingle of %v and %v: %v, want %v", a, b, z, want)
		}
	}
	huge := float32(greatestSingle)
	for _, a := range specialComplexesSingle() {
		for _, b := range []complex64{1, complex(0, 1), complex(narrow(negativeZero), narrow(negativeZero)), complex(-1, leastSingle),
			complex(huge, huge), complex(float32(inf), 0), complex(float32(nan), 1), complex(0.1, -0x1p-75)} {
			check(a, b)
			check(b, a)
		}
	}
	r := newRandom()
	for range 5000 {
		check(anyComplexSingle(r), anyComplexSingle(r))
		check(narrowBoth(nearOneComplex(r)), narrowBoth(nearOneComplex(r)))
	}
	// In single precision, both products would be 1 + 2^-11, or infinite.
	x := float32(1 + 0x1p-12)
	if z := impl.MultiplySingle(complex(x, 1), complex(x, 1+0x1p-11)); real(z) != 0x1p-24 {
		t.Errorf("a product was narrowed before the difference: %v", z)
	}
	if z := impl.MultiplySingle(complex(huge, huge), complex(2, 2)); real(z) != 0 || imag(z) != float32(inf) {
		t.Errorf("products that are too great for single precision: %v", z)
	}
}

func TestP2QuotientsOfDouble(t *testing.T) {
	check := func(a, b complex128) {
		z, ok := impl.DivideDouble(a, b)
		if want, fine := wantQuotient(a, b); ok != fine || !sameBoth(z, want) {
			t.Fatalf("DivideDouble of %v and %v: %v %v, want %v %v", a, b, z, ok, want, fine)
		}
	}
	for _, a := range specialComplexes() {
		for _, b := range []complex128{1, complex(0, -1), complex(3, 3), complex(-3, 3), complex(0.1, -3), complex(least, negativeZero),
			complex(negativeZero, -least), complex(greatest, -greatest), complex(0, negativeZero), complex(inf, 1), complex(1, nan)} {
			check(a, b)
			check(b, a)
		}
	}
	r := newRandom()
	for range 5000 {
		check(anyComplex(r), anyComplex(r))
		check(nearOneComplex(r), nearOneComplex(r))
	}
}

func TestP2QuotientsOfSingle(t *testing.T) {
	check := func(a, b complex64) {
		z, ok := impl.DivideSingle(a, b)
		if want, fine := wantQuotientSingle(a, b); ok != fine || !sameBothSingle(z, want) {
			t.Fatalf("DivideSingle of %v and %v: %v %v, want %v %v", a, b, z, ok, want, fine)
		}
	}
	for _, a := range specialComplexesSingle() {
		for _, b := range []complex64{1, complex(0, -1), complex(3, 3), complex(0.1, -3), complex(leastSingle, 0),
			complex(greatestSingle, -greatestSingle), complex(0, narrow(negativeZero)), complex(float32(inf), 1), complex(1, float32(nan))} {
			check(a, b)
			check(b, a)
		}
	}
	r := newRandom()
	for range 5000 {
		check(anyComplexSingle(r), anyComplexSingle(r))
		check(narrowBoth(nearOneComplex(r)), narrowBoth(nearOneComplex(r)))
	}
}

func TestP2QuotientsOfWhichThereAreNone(t *testing.T) {
	zeros := []complex128{0, complex(negativeZero, 0), complex(0, negativeZero), complex(negativeZero, negativeZero)}
	wild := []complex128{complex(nan, 0), complex(0, nan), complex(inf, 0), complex(0, -inf), complex(nan, inf)}
	refuse := func(a, b complex128) {
		if z, ok := impl.DivideDouble(a, b); ok || !sameBoth(z, 0) {
			t.Errorf("DivideDouble of %v and %v: %v %v", a, b, z, ok)
		}
		if z, ok := impl.DivideSingle(complex64(a), complex64(b)); ok || !sameBothSingle(z, 0) {
			t.Errorf("DivideSingle of %v and %v: %v %v", a, b, z, ok)
		}
	}
	for _, zero := range zeros {
		refuse(1, zero)
		refuse(0, zero)
	}
	for _, z := range wild {
		refuse(z, 1)
		refuse(1, z)
		refuse(z, 0)
	}
	refuse(complex(greatest, 0), 0.5)
	refuse(complex(greatest, greatest), complex(greatest, greatest))
	if z, ok := impl.DivideDouble(1, complex(greatest, greatest)); !ok || !sameBoth(z, complex(0, negativeZero)) {
		t.Errorf("a divisor whose m is infinite: %v %v", z, ok)
	}
	if z, ok := impl.DivideSingle(complex(greatestSingle, 0), 0.5); ok || z != 0 {
		t.Errorf("a quotient that is too great for single precision only: %v %v", z, ok)
	}
	if z, ok := impl.DivideSingle(complex(leastSingle, -leastSingle), 2); !ok || !sameBothSingle(z, complex(0, narrow(negativeZero))) {
		t.Errorf("a quotient that is narrowed to 0: %v %v", z, ok)
	}
}

func exactSize(re, im *big.Float) *big.Float {
	return blank().Add(blank().Abs(re), blank().Abs(im))
}

// missedBy returns the size of q b - a, without rounding.
func missedBy(q, a, b complex128) *big.Float {
	times := func(x, y float64) *big.Float { return blank().Mul(exact(x), exact(y)) }
	re := blank().Sub(times(real(q), real(b)), times(imag(q), imag(b)))
	im := blank().Add(times(real(q), imag(b)), times(imag(q), real(b)))
	return exactSize(re.Sub(re, exact(real(a))), im.Sub(im, exact(imag(a))))
}

func TestP2BoundOfQuotients(t *testing.T) {
	r := newRandom()
	draw := func() complex128 {
		z := complex(math.Ldexp(nearOne(r), r.IntN(400)-201), math.Ldexp(nearOne(r), r.IntN(400)-201))
		if r.IntN(8) == 0 {
			z = complex(real(z), 0)
		}
		return z
	}
	inRange := func(z complex128) bool {
		size := math.Abs(real(z)) + math.Abs(imag(z))
		return size >= 0x1p-200 && size <= 0x1p200
	}
	tried := 0
	for range 20000 {
		a, b := draw(), draw()
		if !inRange(a) || !inRange(b) {
			continue
		}
		tried++
		q, ok := impl.DivideDouble(a, b)
		bound := blank().Mul(exact(0x1p-44), exactSize(exact(real(a)), exact(imag(a))))
		if !ok || missedBy(q, a, b).Cmp(bound) > 0 {
			t.Fatalf("%v divided by %v: %v %v", a, b, q, ok)
		}
		if back := impl.MultiplyDouble(q, b); impl.SizeDouble(back-a) > 0x1p-44*impl.SizeDouble(a) {
			t.Fatalf("%v divided by %v and multiplied again: %v", a, b, back)
		}
	}
	if tried < 10000 {
		t.Errorf("only %d quotients were tried", tried)
	}
}

func TestP2Powers(t *testing.T) {
	wantDouble := func(z complex128, n int) complex128 {
		power := complex128(1)
		for _, digit := range strconv.FormatInt(int64(n), 2) {
			power = wantProduct(power, power)
			if digit == '1' {
				power = wantProduct(power, z)
			}
		}
		return power
	}
	wantSingle := func(z complex64, n int) complex64 {
		power := complex64(1)
		for _, digit := range strconv.FormatInt(int64(n), 2) {
			power = wantProductSingle(power, power)
			if digit == '1' {
				power = wantProductSingle(power, z)
			}
		}
		return power
	}
	values := []complex128{1, complex(0, 1), complex(0.6, 0.8), complex(-1.1, 0.3), complex(0, 0), complex(negativeZero, negativeZero),
		complex(greatest, least), complex(inf, 0), complex(0, -inf), complex(nan, 1), complex(0.99995, -0.0001)}
	for _, z := range values {
		for _, n := range []int{0, 1, 2, 3, 5, 6, 7, 44, 1000, 65535, 65536, 99999, impl.MaxPower} {
			if power, ok := impl.PowerDouble(z, n); !ok || !sameBoth(power, wantDouble(z, n)) {
				t.Errorf("PowerDouble of %v and %d: %v %v, want %v", z, n, power, ok, wantDouble(z, n))
			}
			single := complex64(z)
			if power, ok := impl.PowerSingle(single, n); !ok || !sameBothSingle(power, wantSingle(single, n)) {
				t.Errorf("PowerSingle of %v and %d: %v %v, want %v", single, n, power, ok, wantSingle(single, n))
			}
		}
		for _, n := range []int{-1, math.MinInt, impl.MaxPower + 1, 1 << 32, math.MaxInt} {
			if power, ok := impl.PowerDouble(z, n); ok || !sameBoth(power, 0) {
				t.Errorf("PowerDouble of %v and %d: %v %v", z, n, power, ok)
			}
			if power, ok := impl.PowerSingle(complex64(z), n); ok || !sameBothSingle(power, 0) {
				t.Errorf("PowerSingle of %v and %d: %v %v", z, n, power, ok)
			}
		}
	}
}

func TestP10PowersByHand(t *testing.T) {
	if impl.MaxPower != 100000 {
		t.Errorf("MaxPower is %d", impl.MaxPower)
	}
	for _, c := range []struct {
		z    complex128
		n    int
		want complex128
	}{
		{complex(nan, inf), 0, 1},
		{0, 0, 1},
		{0, 1, 0},
		{complex(negativeZero, negativeZero), 1, complex(0, negativeZero)},
		{complex(2, -3), 1, complex(2, -3)},
		{complex(1, 1), 3, complex(-2, 2)},
		{complex(0, 1), impl.MaxPower, complex(1, negativeZero)},
		{complex(0, 1), 7, complex(negativeZero, -1)},
		{2, 10, 1024},
		{complex(inf, 0), 1, complex(inf, nan)},
	} {
		if power, ok := impl.PowerDouble(c.z, c.n); !ok || !sameBoth(power, c.want) {
			t.Errorf("PowerDouble of %v and %d: %v %v", c.z, c.n, power, ok)
		}
		if power, ok := impl.PowerSingle(complex64(c.z), c.n); !ok || !sameBothSingle(power, complex64(c.want)) {
			t.Errorf("PowerSingle of %v and %d: %v %v", c.z, c.n, power, ok)
		}
	}
}

func TestP10Finite(t *testing.T) {
	for _, z := range specialComplexes() {
		if impl.FiniteDouble(z) != finite(z) {
			t.Errorf("FiniteDouble of %v: %v", z, impl.FiniteDouble(z))
		}
	}
	for _, z := range specialComplexesSingle() {
		if impl.FiniteSingle(z) != finite(complex128(z)) {
			t.Errorf("FiniteSingle of %v: %v", z, impl.FiniteSingle(z))
		}
	}
	if !impl.FiniteDouble(complex(greatest, -greatest)) || impl.FiniteDouble(complex(nan, 0)) || impl.FiniteDouble(complex(0, -inf)) {
		t.Error("FiniteDouble of the greatest numbers, NaN or an infinity")
	}
}

func TestP2Scaling(t *testing.T) {
	r := newRandom()
	check := func(z complex128, x float64) {
		if scaled := impl.ScaleDouble(z, x); !sameBoth(scaled, complex(product(real(z), x), product(imag(z), x))) {
			t.Fatalf("ScaleDouble of %v by %v: %v", z, x, scaled)
		}
	}
	checkSingle := func(z complex64, x float32) {
		if scaled := impl.ScaleSingle(z, x); !sameBothSingle(scaled, complex(productSingle(real(z), x), productSingle(imag(z), x))) {
			t.Fatalf("ScaleSingle of %v by %v: %v", z, x, scaled)
		}
	}
	for _, x := range specialDoubles() {
		for _, y := range specialDoubles() {
			check(complex(x, -x), y)
		}
		check(nearOneComplex(r), x)
	}
	for _, x := range specialSingles() {
		for _, y := range specialSingles() {
			checkSingle(complex(x, -x), y)
		}
	}
	for range 5000 {
		check(nearOneComplex(r), nearOne(r))
		check(anyComplex(r), anyDouble(r))
		checkSingle(narrowBoth(nearOneComplex(r)), narrow(nearOne(r)))
		checkSingle(anyComplexSingle(r), anySingle(r))
	}
	if z := impl.ScaleDouble(complex(inf, negativeZero), 0); !sameBoth(z, complex(nan, negativeZero)) {
		t.Errorf("an infinity scaled by 0: %v", z)
	}
}

func TestP2Sizes(t *testing.T) {
	r := newRandom()
	check := func(z complex128) {
		if size := impl.SizeDouble(z); !same(size, sum(math.Abs(real(z)), math.Abs(imag(z)))) {
			t.Fatalf("SizeDouble of %v: %v", z, size)
		}
	}
	checkSingle := func(z complex64) {
		re, im := float32(math.Abs(float64(real(z)))), float32(math.Abs(float64(imag(z))))
		if size := impl.SizeSingle(z); !sameSingle(size, sumSingle(re, im)) {
			t.Fatalf("SizeSingle of %v: %v", z, size)
		}
	}
	for _, z := range specialComplexes() {
		check(z)
	}
	for _, z := range specialComplexesSingle() {
		checkSingle(z)
	}
	for range 5000 {
		check(nearOneComplex(r))
		check(anyComplex(r))
		checkSingle(narrowBoth(nearOneComplex(r)))
		checkSingle(anyComplexSingle(r))
	}
	if !same(impl.SizeDouble(complex(negativeZero, negativeZero)), 0) || impl.SizeDouble(complex(-greatest, greatest)) != inf {
		t.Error("SizeDouble of zeros with signs or of the greatest numbers")
	}
	if impl.SizeSingle(complex(1, 0x1p-24)) != 1 || impl.SizeSingle(complex(1, 0x3p-24)) != 1+0x1p-22 {
		t.Error("SizeSingle does not round ties to even")
	}
	if float64(impl.SizeSingle(complex(greatestSingle, -greatestSingle))) != inf {
		t.Error("SizeSingle of the greatest numbers")
	}
}

func TestP10ConjugateAndEqual(t *testing.T) {
	for _, z := range specialComplexes() {
		conjugate := impl.ConjugateDouble(z)
		if !same(real(conjugate), real(z)) || !same(imag(conjugate), math.Copysign(imag(z), -math.Copysign(1, imag(z)))) {
			t.Errorf("ConjugateDouble of %v: %v", z, conjugate)
		}
	}
	if z := impl.ConjugateDouble(0); !sameBoth(z, complex(0, negativeZero)) {
		t.Errorf("ConjugateDouble of 0: %v", z)
	}
	equalParts := func(x, y float64) bool { return x <= y && x >= y }
	for _, a := range specialComplexes() {
		for _, b := range specialComplexes() {
			if want := equalParts(real(a), real(b)) && equalParts(imag(a), imag(b)); impl.EqualDouble(a, b) != want {
				t.Fatalf("EqualDouble of %v and %v is not %v", a, b, want)
			}
		}
	}
	for _, a := range specialComplexesSingle() {
		for _, b := range specialComplexesSingle() {
			want := equalParts(float64(real(a)), float64(real(b))) && equalParts(float64(imag(a)), float64(imag(b)))
			if impl.EqualSingle(a, b) != want {
				t.Fatalf("EqualSingle of %v and %v is not %v", a, b, want)
			}
		}
	}
	if !impl.EqualDouble(0, complex(negativeZero, negativeZero)) || impl.EqualDouble(complex(nan, 0), complex(nan, 0)) {
		t.Error("EqualDouble of zeros or of NaN")
	}
}
