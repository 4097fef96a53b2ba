package tests

import (
	"fmt"
	"math"
	"testing"

	"loop.example/g03222/impl"
)

func wantReport(m impl.Mode, n int) (impl.Report, bool) {
	if !wantMode(m) || n < 1 || n > 2000 {
		return impl.Report{}, false
	}
	half, _ := wantHalf(m, n)
	pole, click := complex128(m.Pole), []float32{1}
	fitted, _ := wantFitSquares(wantRingMode(pole, complex128(m.Gain), n))
	return impl.Report{
		Half: half, Fitted: fitted, Error: wantSize(wantDifference(fitted, pole)),
		Drift: wantDrift(wantRing(bodyOf(m), click, n), wantRingDouble(bodyOf(m), click, n)),
	}, true
}

func wantTextOrNone(x float64) string {
	if !finitePart(x) {
		return "none"
	}
	return wantText(x)
}

func wantReportText(r impl.Report) string {
	return fmt.Sprintf("half %d fitted %s %s error %s drift %s", r.Half,
		wantTextOrNone(real(r.Fitted)), wantTextOrNone(imag(r.Fitted)), wantTextOrNone(r.Error), wantTextOrNone(r.Drift))
}

func sameReport(a, b impl.Report) bool {
	return a.Half == b.Half && sameBoth(a.Fitted, b.Fitted) && same(a.Error, b.Error) && same(a.Drift, b.Drift)
}

func checkReport(t *testing.T, m impl.Mode, n int) {
	t.Helper()
	want, valid := wantReport(m, n)
	report, ok := impl.MeasureMode(m, n)
	if ok != valid || !sameReport(report, want) {
		t.Fatalf("MeasureMode of %v, %d numbers: %v %v, want %v %v", m, n, report, ok, want, valid)
	}
	checkReportText(t, report)
}

func checkReportText(t *testing.T, r impl.Report) {
	t.Helper()
	if s, want := impl.FormatReport(r), wantReportText(r); s != want {
		t.Fatalf("FormatReport of %v: %q, want %q", r, s, want)
	}
}

func TestP9ReportsByHand(t *testing.T) {
	minus := narrow(negativeZero)
	for _, c := range []struct {
		pole, gain complex64
		n          int
		want       string
	}{
		{0.5, 2, 4, "half 1 fitted 1p-1 0 error 0 drift 0"},
		{0.5, 2, 100, "half 1 fitted 1p-1 0 error 0 drift 0"},
		{0.75, 1, 2, "half 0 fitted 3p-2 0 error 0 drift 0"},
		{0.75, 1, 3, "half 3 fitted 3p-2 0 error 0 drift 0"},
		{complex(0, -0.5), complex(0, 8), 3, "half 1 fitted 0 -1p-1 error 0 drift 0"},
		// From one number, no pole is fitted.
		{0.5, 2, 1, "half 1 fitted 0 0 error 1p-1 drift 0"},
		{complex(0.5, -0.75), 2, 1, "half 0 fitted 0 0 error 5p-2 drift 0"},
		// There is no half life.
		{1, 1, 1, "half 0 fitted 0 0 error 1p0 drift 0"},
		{1, 1, 2, "half 0 fitted 1p0 0 error 0 drift 0"},
		{-1, 3, 9, "half 0 fitted -1p0 0 error 0 drift 0"},
		{complex(0, 1), 1, impl.MaxSamples, "half 0 fitted 0 1p0 error 0 drift 0"},
		// The Pole is 0, or the Gain.
		{0, 1, 3, "half 1 fitted 0 0 error 0 drift 0"},
		{0, 1, 1, "half 1 fitted 0 0 error 0 drift 0"},
		{complex(minus, minus), 1, 1, "half 1 fitted 0 0 error 0 drift 0"},
		{0.5, 0, 3, "half 1 fitted 0 0 error 1p-1 drift 0"},
		{complex(0.25, -0.5), complex(minus, minus), impl.MaxSamples, "half 1 fitted 0 0 error 3p-2 drift 0"},
		{0, 0, 2, "half 1 fitted 0 0 error 0 drift 0"},
		// 11184811p-25 is a third in single precision; what its square is rounded by
		// is the drift at the third number.
		{1.0 / 3, 1, 2, "half 1 fitted 11184811p-25 0 error 0 drift 0"},
		{1.0 / 3, 1, 3, "half 1 fitted 11184811p-25 0 error 0 drift 1864135p-50"},
		{complex(0.6, 0.3), complex(1, 2), 2, "half 1 fitted 5033165p-23 5033165p-24 error 0 drift 0"},
		{complex(0.6, 0.3), complex(1, 2), 5, "half 1 fitted 5404319767592959p-53 5404319767592959p-54 error 3p-54 drift 48318385p-50"},
		{0.9, 3, 10, "half 7 fitted 8106479114518529p-53 0 error 1p-53 drift 1p-23"},
		{complex(0.1, -0.7), complex(5, 1), impl.MaxSamples, "half 3 fitted 7205759511166977p-56 -3152519685472257p-52 error 17p-56 drift 11492393p-46"},
		// In single precision it becomes 0, from 2^-150 on.
		{0.5, 2, impl.MaxSamples, "half 1 fitted 1p-1 0 error 0 drift 1p-150"},
		{0.5, leastSingle, 2, "half 1 fitted 1p-1 0 error 0 drift 1p-150"},
	} {
		m := impl.Mode{Pole: c.pole, Gain: c.gain}
		report, ok := impl.MeasureMode(m, c.n)
		if s := impl.FormatReport(report); !ok || s != c.want {
			t.Errorf("MeasureMode of %v, %d numbers: %q %v, want %q", m, c.n, s, ok, c.want)
		}
		checkReport(t, m, c.n)
	}
}

func TestP9Reports(t *testing.T) {
	r := newRandom()
	for range 500 {
		m := anyMode(r)
		if r.IntN(3) == 0 {
			m.Gain = complex(float32(r.IntN(9))*leastSingle, float32(r.IntN(3))*leastSingle)
		}
		checkReport(t, m, 1+anyLength(r))
		checkReport(t, impl.Mode{Pole: anyComplexSingle(r), Gain: anyComplexSingle(r)}, r.IntN(5))
	}
	for _, n := range []int{1, 2, impl.MaxSamples - 1, impl.MaxSamples} {
		checkReport(t, anyMode(r), n)
	}
	for _, z := range specialComplexesSingle() {
		checkReport(t, impl.Mode{Pole: z, Gain: 1}, 2)
		checkReport(t, impl.Mode{Pole: complex(0.3, 0.6), Gain: z}, 3)
	}
}

func TestP10ReportsThatFail(t *testing.T) {
	fails := func(m impl.Mode, n int) {
		t.Helper()
		if report, ok := impl.MeasureMode(m, n); ok || !sameReport(report, impl.Report{}) {
			t.Errorf("MeasureMode of %v, %d numbers: %v %v", m, n, report, ok)
		}
	}
	for _, n := range append(wrongSteps(), 0) {
		fails(impl.Mode{Pole: 0.5, Gain: 2}, n)
		fails(impl.Mode{}, n)
	}
	bodies := append(wrongBodies(), bodyOf(impl.Mode{Pole: 0, Gain: complex(greatestSingle, greatestSingle)}), bodyOf(impl.Mode{Pole: 2}))
	for _, b := range bodies {
		for _, n := range []int{0, 1, 2, impl.MaxSamples} {
			if len(b.Modes) == 1 {
				fails(b.Modes[0], n)
			}
		}
	}
}

func TestP9TextsOfReportsByHand(t *testing.T) {
	for _, c := range []struct {
		r    impl.Report
		want string
	}{
		{impl.Report{}, "half 0 fitted 0 0 error 0 drift 0"},
		{impl.Report{Half: 7, Fitted: complex(0.5, -0.75), Error: 3, Drift: 0.1}, "half 7 fitted 1p-1 -3p-2 error 3p0 drift 3602879701896397p-55"},
		{impl.Report{Half: 10, Fitted: minusBoth(), Error: negativeZero, Drift: negativeZero}, "half 10 fitted -0 -0 error -0 drift -0"},
		{impl.Report{Half: 2000, Fitted: complex(negativeZero, 0), Error: -1, Drift: -2}, "half 2000 fitted -0 0 error -1p0 drift -1p1"},
		{impl.Report{Half: -1, Fitted: complex(greatest, -least)}, "half -1 fitted 9007199254740991p971 -1p-1074 error 0 drift 0"},
		{impl.Report{Half: math.MinInt, Error: greatest, Drift: least}, "half -9223372036854775808 fitted 0 0 error 9007199254740991p971 drift 1p-1074"},
		{impl.Report{Half: math.MaxInt, Fitted: 1}, "half 9223372036854775807 fitted 1p0 0 error 0 drift 0"},
		{impl.Report{Fitted: complex(nan, 1)}, "half 0 fitted none 1p0 error 0 drift 0"},
		{impl.Report{Fitted: complex(1, nan)}, "half 0 fitted 1p0 none error 0 drift 0"},
		{impl.Report{Fitted: complex(inf, -inf), Error: 1, Drift: 2}, "half 0 fitted none none error 1p0 drift 1p1"},
		{impl.Report{Error: inf}, "half 0 fitted 0 0 error none drift 0"},
		{impl.Report{Error: nan, Drift: 1}, "half 0 fitted 0 0 error none drift 1p0"},
		{impl.Report{Drift: -inf}, "half 0 fitted 0 0 error 0 drift none"},
		{impl.Report{Half: 1, Error: 1, Drift: nan}, "half 1 fitted 0 0 error 1p0 drift none"},
		{impl.Report{Half: -12, Fitted: complex(nan, nan), Error: -inf, Drift: inf}, "half -12 fitted none none error none drift none"},
	} {
		if s := impl.FormatReport(c.r); s != c.want {
			t.Errorf("FormatReport of %v: %q, want %q", c.r, s, c.want)
		}
		checkReportText(t, c.r)
	}
}

func TestP10TextsOfReports(t *testing.T) {
	r := newRandom()
	special := specialDoubles()
	for range 5000 {
		checkReportText(t, impl.Report{Half: int(r.Uint64()), Fitted: anyComplex(r), Error: anyDouble(r), Drift: anyDouble(r)})
		any := func() float64 { return special[r.IntN(len(special))] }
		checkReportText(t, impl.Report{Half: wildIntegers()[r.IntN(29)], Fitted: complex(any(), any()), Error: any(), Drift: any()})
	}
}
