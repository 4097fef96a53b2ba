package tests

import (
	"math"
	"math/big"
	"math/rand/v2"
)

// The operations here are computed exactly and then rounded once, by math/big, so
// that they neither share code with the program nor depend on how a compiler
// fuses operations.

// exactDigits suffices for the sum of any two products of float64 numbers.
const exactDigits = 4500

func exact(x float64) *big.Float {
	return new(big.Float).SetPrec(exactDigits).SetFloat64(x)
}

func blank() *big.Float { return new(big.Float).SetPrec(exactDigits) }

func roundDouble(x *big.Float) float64 {
	rounded, _ := x.Float64()
	return rounded
}

func roundSingle(x *big.Float) float32 {
	rounded, _ := x.Float32()
	return rounded
}

func finitePart(x float64) bool { return !math.IsNaN(x) && !math.IsInf(x, 0) }

func finite(z complex128) bool { return finitePart(real(z)) && finitePart(imag(z)) }

// product, sum and ratio leave numbers that are not finite, for which there is
// nothing to round, to the operators.
func product(x, y float64) float64 {
	if !finitePart(x) || !finitePart(y) {
		return x * y
	}
	return roundDouble(blank().Mul(exact(x), exact(y)))
}

func sum(x, y float64) float64 {
	if !finitePart(x) || !finitePart(y) {
		return x + y
	}
	return roundDouble(blank().Add(exact(x), exact(y)))
}

func difference(x, y float64) float64 { return sum(x, -y) }

func ratio(x, y float64) float64 {
	if !finitePart(x) || !finitePart(y) || y == 0 {
		return x / y
	}
	return roundDouble(blank().Quo(exact(x), exact(y)))
}

func narrow(x float64) float32 {
	if !finitePart(x) {
		return float32(x)
	}
	return roundSingle(exact(x))
}

func narrowBoth(z complex128) complex64 { return complex(narrow(real(z)), narrow(imag(z))) }

func productSingle(x, y float32) float32 {
	wide := float64(x) * float64(y)
	if !finitePart(wide) {
		return float32(wide)
	}
	return roundSingle(blank().Mul(exact(float64(x)), exact(float64(y))))
}

func sumSingle(x, y float32) float32 {
	wide := float64(x) + float64(y)
	if !finitePart(wide) {
		return float32(wide)
	}
	return roundSingle(blank().Add(exact(float64(x)), exact(float64(y))))
}

func differenceSingle(x, y float32) float32 { return sumSingle(x, -y) }

func ratioSingle(x, y float32) float32 {
	wide := float64(x) / float64(y)
	if !finitePart(wide) || math.IsInf(float64(y), 0) {
		return float32(wide)
	}
	return roundSingle(blank().Quo(exact(float64(x)), exact(float64(y))))
}

func wantProduct(a, b complex128) complex128 {
	return complex(
		difference(product(real(a), real(b)), product(imag(a), imag(b))),
		sum(product(real(a), imag(b)), product(imag(a), real(b))))
}

func wantProductSingle(a, b complex64) complex64 {
	return narrowBoth(wantProduct(complex128(a), complex128(b)))
}

func wantQuotient(n, by complex128) (complex128, bool) {
	if !finite(n) || !finite(by) || real(by) == 0 && imag(by) == 0 {
		return 0, false
	}
	a, b, c, d := real(n), imag(n), real(by), imag(by)
	var q complex128
	if math.Abs(c) < math.Abs(d) {
		r := ratio(c, d)
		m := sum(d, product(r, c))
		q = complex(ratio(sum(product(a, r), b), m), ratio(difference(product(b, r), a), m))
	} else {
		r := ratio(d, c)
		m := sum(c, product(r, d))
		q = complex(ratio(sum(a, product(b, r)), m), ratio(difference(b, product(a, r)), m))
	}
	if !finite(q) {
		return 0, false
	}
	return q, true
}

func wantQuotientSingle(a, b complex64) (complex64, bool) {
	wide, ok := wantQuotient(complex128(a), complex128(b))
	q := narrowBoth(wide)
	if !ok || !finite(complex128(q)) {
		return 0, false
	}
	return q, true
}

// same tells whether results are the same as the document's chapter 1 says it.
func same(x, y float64) bool {
	if math.IsNaN(x) || math.IsNaN(y) {
		return math.IsNaN(x) && math.IsNaN(y)
	}
	return x == y && math.Signbit(x) == math.Signbit(y)
}

func sameBoth(a, b complex128) bool {
	return same(real(a), real(b)) && same(imag(a), imag(b))
}

func sameSingle(x, y float32) bool { return same(float64(x), float64(y)) }

func sameBothSingle(a, b complex64) bool { return sameBoth(complex128(a), complex128(b)) }

func newRandom() *rand.Rand { return rand.New(rand.NewPCG(1, 2)) }

// anyDouble and anySingle take their numbers from all bit patterns.
func anyDouble(r *rand.Rand) float64 { return math.Float64frombits(r.Uint64()) }

func anySingle(r *rand.Rand) float32 { return math.Float32frombits(r.Uint32()) }

func anyComplex(r *rand.Rand) complex128 { return complex(anyDouble(r), anyDouble(r)) }

func anyComplexSingle(r *rand.Rand) complex64 { return complex(anySingle(r), anySingle(r)) }

// nearOne returns a number with all digits in use, near enough to 1 for sums to
// be rounded and to cancel.
func nearOne(r *rand.Rand) float64 {
	return math.Ldexp(float64(r.Int64N(1<<54)-1<<53), -52-r.IntN(4))
}

func nearOneComplex(r *rand.Rand) complex128 { return complex(nearOne(r), nearOne(r)) }

var (
	inf          = math.Inf(1)
	nan          = math.NaN()
	negativeZero = math.Copysign(0, -1)
)

const (
	greatest       = math.MaxFloat64
	least          = math.SmallestNonzeroFloat64
	leastNormal    = 0x1p-1022
	greatestSingle = math.MaxFloat32
	leastSingle    = math.SmallestNonzeroFloat32
)

func specialDoubles() []float64 {
	return []float64{0, negativeZero, 1, -1, 1 + 0x1p-52, -3, 0.1, greatest, -greatest,
		least, -least, leastNormal, 0x1p-540, 0x1p512, inf, -inf, nan}
}

func specialSingles() []float32 {
	var list []float32
	for _, x := range []float64{0, negativeZero, 1, -1, 1 + 0x1p-23, -3, 0.1, greatestSingle,
		-greatestSingle, leastSingle, -leastSingle, 0x1p-126, 0x1p-75, 0x1p64, inf, -inf, nan} {
		list = append(list, float32(x))
	}
	return list
}

func specialComplexes() []complex128 {
	var list []complex128
	for _, re := range specialDoubles() {
		for _, im := range specialDoubles() {
			list = append(list, complex(re, im))
		}
	}
	return list
}

func specialComplexesSingle() []complex64 {
	var list []complex64
	for _, re := range specialSingles() {
		for _, im := range specialSingles() {
			list = append(list, complex(re, im))
		}
	}
	return list
}
