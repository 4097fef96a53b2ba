package tests

import (
	"math"
	"math/big"
	"regexp"
	"strconv"
	"strings"
	"testing"

	"loop.example/g03222/impl"
)

// wantText makes the text of a finite number from that of strconv, whose factor
// need not be odd.
func wantText(x float64) string {
	if x == 0 {
		return strconv.FormatFloat(x, 'f', -1, 64)
	}
	before, after, _ := strings.Cut(strconv.FormatFloat(x, 'b', -1, 64), "p")
	factor, _ := strconv.Atoi(before)
	exponent, _ := strconv.Atoi(after)
	for factor%2 == 0 {
		factor /= 2
		exponent++
	}
	return strconv.Itoa(factor) + "p" + strconv.Itoa(exponent)
}

func checkText(t *testing.T, x float64) {
	t.Helper()
	want := wantText(x)
	if s := impl.FormatDouble(x); s != want {
		t.Fatalf("FormatDouble of %v: %q, want %q", x, s, want)
	}
	if back, ok := impl.ParseDouble(want); !ok || !same(back, x) {
		t.Fatalf("ParseDouble of %q: %v %v, want %v", want, back, ok, x)
	}
}

func checkTextSingle(t *testing.T, x float32) {
	t.Helper()
	want := wantText(float64(x))
	if s := impl.FormatSingle(x); s != want {
		t.Fatalf("FormatSingle of %v: %q, want %q", x, s, want)
	}
	if back, ok := impl.ParseSingle(want); !ok || !sameSingle(back, x) {
		t.Fatalf("ParseSingle of %q: %v %v, want %v", want, back, ok, x)
	}
}

func TestP10TextsOfNumbers(t *testing.T) {
	for _, x := range specialDoubles() {
		if finitePart(x) {
			checkText(t, x)
		}
	}
	for _, x := range specialSingles() {
		if finitePart(float64(x)) {
			checkTextSingle(t, x)
		}
	}
	r := newRandom()
	for range 50000 {
		if x := anyDouble(r); finitePart(x) {
			checkText(t, x)
		}
		if x := anySingle(r); finitePart(float64(x)) {
			checkTextSingle(t, x)
		}
		checkText(t, nearOne(r))
		checkText(t, math.Float64frombits(r.Uint64N(1<<52)))
	}
}

func TestP10TextsByHand(t *testing.T) {
	for _, c := range []struct {
		x    float64
		want string
	}{
		{0, "0"},
		{negativeZero, "-0"},
		{1, "1p0"},
		{-1, "-1p0"},
		{6, "3p1"},
		{-0.75, "-3p-2"},
		{1024, "1p10"},
		{0.1, "3602879701896397p-55"},
		{greatest, "9007199254740991p971"},
		{-greatest, "-9007199254740991p971"},
		{least, "1p-1074"},
		{-leastNormal, "-1p-1022"},
		{leastNormal - least, "4503599627370495p-1074"},
		{greatestSingle, "16777215p104"},
		{leastSingle, "1p-149"},
	} {
		if s := impl.FormatDouble(c.x); s != c.want {
			t.Errorf("FormatDouble of %v: %q, want %q", c.x, s, c.want)
		}
		if x, ok := impl.ParseDouble(c.want); !ok || !same(x, c.x) {
			t.Errorf("ParseDouble of %q: %v %v", c.want, x, ok)
		}
		single := float32(c.x)
		if float64(single) != c.x {
			continue
		}
		if s := impl.FormatSingle(single); s != c.want {
			t.Errorf("FormatSingle of %v: %q, want %q", single, s, c.want)
		}
		if x, ok := impl.ParseSingle(c.want); !ok || !sameSingle(x, single) {
			t.Errorf("ParseSingle of %q: %v %v", c.want, x, ok)
		}
	}
	for _, x := range []float64{nan, inf, -inf} {
		if impl.FormatDouble(x) != "" || impl.FormatSingle(float32(x)) != "" {
			t.Errorf("%v has a text", x)
		}
	}
}

func TestP10TextsOfNoNumber(t *testing.T) {
	for _, s := range []string{"", "-", "p", "-p", "1", "-1", "1p", "p0", "-p0", "+0", "00", "0p0", "-0p0", "--0", "0p1",
		"1p-0", "1p+1", "+1p0", "1p01", "1p-01", "01p0", "-01p0", "2p0", "4p0", "-6p2", "10p0", "1P0", "1p0 ", " 1p0", "1 p0", "1p 0",
		"1p0\n", "1p0p0", "1pp0", "1p0p", "--1p0", "1p--1", "1e0", "0x1p0", "1_1p0", "1p1_0", "1.0p0", "1.5", "NaN", "Inf", "-Inf", "+Inf",
		"1p1024", "3p1023", "1p-1075", "3p-1075", "-1p-1075", "9007199254740993p0", "9007199254740993p-1", "9007199254740991p972",
		"18446744073709551615p0", "18446744073709551617p0", "9223372036854775807p0", "1p9223372036854775807", "1p9223372036854775808",
		"1p-9223372036854775808", "1p-9223372036854775809", "1p18446744073709551616", "-9223372036854775809p0",
		strings.Repeat("9", 400) + "p0", "1p" + strings.Repeat("9", 400), "1p-" + strings.Repeat("0", 400), "\xff", "1\x00p0", "１p0", "1p٣"} {
		if x, ok := impl.ParseDouble(s); ok || !same(x, 0) {
			t.Errorf("ParseDouble of %q: %v %v", s, x, ok)
		}
		if x, ok := impl.ParseSingle(s); ok || !sameSingle(x, 0) {
			t.Errorf("ParseSingle of %q: %v %v", s, x, ok)
		}
	}
	for _, s := range []string{"16777217p0", "-33554431p0", "1p128", "-1p128", "33554431p103", "1p-150", "-1p-150", "3p-150", "9007199254740991p971", "1p-1074"} {
		if x, ok := impl.ParseSingle(s); ok || !sameSingle(x, 0) {
			t.Errorf("ParseSingle of %q: %v %v", s, x, ok)
		}
		if _, ok := impl.ParseDouble(s); !ok {
			t.Errorf("ParseDouble of %q fails", s)
		}
	}
}

var textShape = regexp.MustCompile(`^-?(0|([1-9][0-9]*)p(0|-?[1-9][0-9]*))$`)

// hasNumber tells whether a text is that of a number of this many digits, with
// exponents from lowest up, below 2^top.
func hasNumber(s string, digits, lowest, top int) bool {
	parts := textShape.FindStringSubmatch(s)
	if parts == nil || parts[2] == "" {
		return parts != nil
	}
	odd, _ := new(big.Int).SetString(parts[2], 10)
	exponent, err := strconv.Atoi(parts[3])
	return err == nil && odd.Bit(0) == 1 && odd.BitLen() <= digits && exponent >= lowest && odd.BitLen()+exponent <= top
}

func TestP10AllShortTexts(t *testing.T) {
	const signs = "-0123p+ "
	var try func(s string, more int)
	try = func(s string, more int) {
		x, ok := impl.ParseDouble(s)
		if want := hasNumber(s, 53, -1074, 1024); ok != want || ok && impl.FormatDouble(x) != s || !ok && !same(x, 0) {
			t.Fatalf("ParseDouble of %q: %v %v, want %v", s, x, ok, want)
		}
		y, ok := impl.ParseSingle(s)
		if want := hasNumber(s, 24, -149, 128); ok != want || ok && impl.FormatSingle(y) != s || !ok && !sameSingle(y, 0) {
			t.Fatalf("ParseSingle of %q: %v %v, want %v", s, y, ok, want)
		}
		if more == 0 {
			return
		}
		for i := range signs {
			try(s+signs[i:i+1], more-1)
		}
	}
	try("", 6)
}
