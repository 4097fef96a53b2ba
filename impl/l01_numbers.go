package impl

import (
	"math"
	"math/bits"
	"strconv"
	"strings"
)

const MaxPower = 100000

// doubleDigits is the number of binary digits of the greatest odd part of a float64.
const doubleDigits = 53

func isFinitePart(x float64) bool { return !math.IsNaN(x) && !math.IsInf(x, 0) }

func FiniteSingle(z complex64) bool { return FiniteDouble(WidenNumber(z)) }

func FiniteDouble(z complex128) bool { return isFinitePart(real(z)) && isFinitePart(imag(z)) }

func WidenNumber(z complex64) complex128 { return complex128(z) }

func NarrowNumber(z complex128) complex64 { return complex64(z) }

func MultiplySingle(a complex64, b complex64) complex64 {
	return NarrowNumber(MultiplyDouble(WidenNumber(a), WidenNumber(b)))
}

// The conversions keep the compiler from fusing a product with the sum it goes
// into, as the operator * of complex128 may: each product is rounded on its own.
func MultiplyDouble(a complex128, b complex128) complex128 {
	re := float64(real(a)*real(b)) - float64(imag(a)*imag(b))
	im := float64(real(a)*imag(b)) + float64(imag(a)*real(b))
	return complex(re, im)
}

func DivideSingle(a complex64, b complex64) (complex64, bool) {
	wide, ok := DivideDouble(WidenNumber(a), WidenNumber(b))
	quotient := NarrowNumber(wide)
	if !ok || !FiniteSingle(quotient) {
		return 0, false
	}
	return quotient, true
}

// For such numbers, the operator / takes the steps of the document, where the
// compiler does not fuse products with sums (README.md).
func DivideDouble(a complex128, b complex128) (complex128, bool) {
	if !FiniteDouble(a) || !FiniteDouble(b) || b == 0 {
		return 0, false
	}
	quotient := a / b
	if !FiniteDouble(quotient) {
		return 0, false
	}
	return quotient, true
}

// The products are converted because a caller may add to them: inlined there,
// they could otherwise be fused with the sum.
func ScaleSingle(z complex64, x float32) complex64 {
	return complex(float32(real(z)*x), float32(imag(z)*x))
}

func ScaleDouble(z complex128, x float64) complex128 {
	return complex(float64(real(z)*x), float64(imag(z)*x))
}

func ConjugateDouble(z complex128) complex128 { return complex(real(z), -imag(z)) }

func absoluteSingle(x float32) float32 { return float32(math.Abs(float64(x))) }

func SizeSingle(z complex64) float32 { return absoluteSingle(real(z)) + absoluteSingle(imag(z)) }

func SizeDouble(z complex128) float64 { return math.Abs(real(z)) + math.Abs(imag(z)) }

func EqualSingle(a complex64, b complex64) bool { return a == b }

func EqualDouble(a complex128, b complex128) bool { return a == b }

func PowerSingle(z complex64, n int) (complex64, bool) { return powerOf(z, n, MultiplySingle) }

func PowerDouble(z complex128, n int) (complex128, bool) { return powerOf(z, n, MultiplyDouble) }

func powerOf[Z complex64 | complex128](z Z, n int, multiply func(Z, Z) Z) (Z, bool) {
	if n < 0 || n > MaxPower {
		return 0, false
	}
	power := Z(1)
	for place := bits.Len(uint(n)) - 1; place >= 0; place-- {
		power = multiply(power, power)
		if n>>place&1 == 1 {
			power = multiply(power, z)
		}
	}
	return power, true
}

// A number has the same odd part and exponent in both precisions.
func FormatSingle(x float32) string { return FormatDouble(float64(x)) }

func FormatDouble(x float64) string {
	if !isFinitePart(x) {
		return ""
	}
	sign := ""
	if math.Signbit(x) {
		sign = "-"
	}
	if x == 0 {
		return sign + "0"
	}
	odd, exponent := oddPart(math.Abs(x))
	return sign + strconv.FormatUint(odd, 10) + "p" + strconv.Itoa(exponent)
}

// oddPart returns the odd number and the exponent of 2 that x is the product of;
// x is finite and greater than 0.
func oddPart(x float64) (uint64, int) {
	fraction, exponent := math.Frexp(x)
	digits := uint64(math.Ldexp(fraction, doubleDigits))
	zeros := bits.TrailingZeros64(digits)
	return digits >> zeros, exponent - doubleDigits + zeros
}

func ParseSingle(s string) (float32, bool) {
	wide, ok := ParseDouble(s)
	x := float32(wide)
	if !ok || float64(x) != wide {
		return 0, false
	}
	return x, true
}

// Formatting the number again rejects every text but the one it has: other
// spellings, even parts, and parts and exponents that no number has.
func ParseDouble(s string) (float64, bool) {
	x, ok := readDouble(s)
	if !ok || FormatDouble(x) != s {
		return 0, false
	}
	return x, true
}

// readDouble returns the number whose text is s; for other texts, it may fail or
// return any number.
func readDouble(s string) (float64, bool) {
	switch s {
	case "0":
		return 0, true
	case "-0":
		return math.Copysign(0, -1), true
	}
	before, after, _ := strings.Cut(s, "p")
	odd, err := strconv.ParseInt(before, 10, 64)
	if err != nil {
		return 0, false
	}
	exponent, err := strconv.Atoi(after)
	if err != nil {
		return 0, false
	}
	return math.Ldexp(float64(odd), exponent), true
}
