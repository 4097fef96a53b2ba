package tests

import (
	"math"
	"math/rand/v2"
	"slices"
	"testing"

	"loop.example/g03222/impl"
)

func widePoles(poles ...complex128) []impl.WideMode {
	var list []impl.WideMode
	for _, pole := range poles {
		list = append(list, impl.WideMode{Pole: pole, Gain: 1})
	}
	return list
}

// distinctWide returns a list whose poles have more digits than narrowed ones.
func distinctWide(n int) []impl.WideMode {
	var list []impl.WideMode
	for i := range n {
		list = append(list, impl.WideMode{Pole: complex(float64(i)/64, 0.7-0x1p-53), Gain: complex(0.1, float64(i))})
	}
	return list
}

func wantWide(list []impl.WideMode) bool {
	for _, m := range list {
		if !finite(m.Pole) || !finite(m.Gain) {
			return false
		}
		squares := sum(product(real(m.Pole), real(m.Pole)), product(imag(m.Pole), imag(m.Pole)))
		if squares > 1 || math.Abs(real(m.Gain)) > 1024 || math.Abs(imag(m.Gain)) > 1024 {
			return false
		}
	}
	return len(list) <= 16
}

func wantWidened(b impl.Body) []impl.WideMode {
	var list []impl.WideMode
	for _, m := range b.Modes {
		list = append(list, impl.WideMode{Pole: complex128(m.Pole), Gain: complex128(m.Gain)})
	}
	return list
}

func wantNarrowed(list []impl.WideMode) (impl.Body, bool) {
	var b impl.Body
	for _, m := range list {
		b.Modes = append(b.Modes, impl.Mode{Pole: narrowBoth(m.Pole), Gain: narrowBoth(m.Gain)})
	}
	if !wantWide(list) || wrong(b) {
		return impl.Body{}, false
	}
	return b, true
}

func wantRingWide(list []impl.WideMode, input []float64, n int) []float64 {
	states := make([]complex128, len(list))
	outputs := make([]float64, n)
	for i := range outputs {
		x := 0.0
		if i < len(input) {
			x = input[i]
		}
		for k, m := range list {
			scaled := complex(product(real(m.Gain), x), product(imag(m.Gain), x))
			states[k] = wantSum(wantProduct(states[k], m.Pole), scaled)
			outputs[i] = sum(outputs[i], real(states[k]))
		}
	}
	return outputs
}

func wantNarrowError(list []impl.WideMode) float64 {
	greatestSize := 0.0
	for _, m := range list {
		moved := wantDifference(m.Pole, complex128(narrowBoth(m.Pole)))
		greatestSize = math.Max(greatestSize, sum(math.Abs(real(moved)), math.Abs(imag(moved))))
	}
	return greatestSize
}

func sameWide(a, b []impl.WideMode) bool {
	return slices.EqualFunc(a, b, func(x, y impl.WideMode) bool { return sameBoth(x.Pole, y.Pole) && sameBoth(x.Gain, y.Gain) })
}

func over(x float64) float64 { return math.Nextafter(x, inf) }

// anyWide returns valid modes, often such that hardly decay, or that a text
// takes the extreme numbers for.
func anyWide(r *rand.Rand, n int) []impl.WideMode {
	var list []impl.WideMode
	for len(list) < n {
		m := impl.WideMode{Pole: onCircle(r), Gain: nearOneComplex(r) * complex(math.Ldexp(1, r.IntN(12)-3), 0)}
		switch r.IntN(5) {
		case 0:
			m.Pole *= complex(r.Float64(), 0)
		case 1:
			m.Pole = complex(math.Ldexp(r.Float64(), -r.IntN(1074)), -math.Ldexp(r.Float64(), -r.IntN(1074)))
		case 2:
			numbers := partsAtLimits()
			m.Gain = complex(numbers[r.IntN(len(numbers))], 1024*numbers[r.IntN(len(numbers))])
		}
		if wantWide([]impl.WideMode{m}) {
			list = append(list, m)
		}
	}
	return list
}

func onCircle(r *rand.Rand) complex128 {
	sine, cosine := math.Sincos(2 * math.Pi * r.Float64())
	return complex(cosine, sine)
}

// partsAtLimits are numbers that a part of a pole may be.
func partsAtLimits() []float64 {
	return []float64{0, negativeZero, 1, -1, 1 - 0x1p-53, -1 + 0x1p-53, 1 - 0x1p-24, 0.1, -0.7, least, -least, leastNormal,
		leastNormal - least, leastSingle, -leastSingle, leastSingle / 2, 0x1p-126 - leastSingle, 0x1p-540}
}

// wrongLists breaks each condition for wide modes, in the first, in a middle or
// in the last mode.
func wrongLists() [][]impl.WideMode {
	good := impl.WideMode{Pole: 0.5, Gain: 1}
	list := [][]impl.WideMode{distinctWide(impl.MaxModes + 1), make([]impl.WideMode, impl.MaxModes+1), distinctWide(1000)}
	for _, bad := range []impl.WideMode{
		{Pole: complex(nan, 0), Gain: 1},
		{Pole: complex(0, nan), Gain: 1},
		{Pole: complex(-inf, 0), Gain: 1},
		{Pole: complex(0, inf), Gain: 1},
		{Pole: complex(over(1), 0), Gain: 1},
		{Pole: complex(0, -over(1)), Gain: 1},
		{Pole: complex(1, 0x1p-26), Gain: 1},
		{Pole: complex(0.6, over(0.8)), Gain: 1},
		{Pole: complex(0.8, 0.7), Gain: 1},
		{Pole: complex(greatest, 0), Gain: 1},
		{Pole: 0.5, Gain: complex(nan, 0)},
		{Pole: 0.5, Gain: complex(0, nan)},
		{Pole: 0.5, Gain: complex(inf, 0)},
		{Pole: 0.5, Gain: complex(0, -inf)},
		{Pole: 0.5, Gain: complex(over(1024), 0)},
		{Pole: 0.5, Gain: complex(0, -over(1024))},
	} {
		list = append(list, []impl.WideMode{bad}, []impl.WideMode{bad, good}, []impl.WideMode{good, bad, good}, []impl.WideMode{good, good, bad})
	}
	return list
}

func TestP10ValidWideModes(t *testing.T) {
	for n := range impl.MaxModes + 1 {
		if !impl.AreWide(distinctWide(n)) || !impl.AreWide(make([]impl.WideMode, n)) {
			t.Errorf("a list of %d wide modes is not valid", n)
		}
	}
	for _, list := range wrongLists() {
		if impl.AreWide(list) || wantWide(list) {
			t.Errorf("%v is valid", list)
		}
	}
	for _, c := range []struct {
		pole, gain complex128
		want       bool
	}{
		{complex(0.6, 0.8), 1, true}, // although it is not when narrowed
		{complex(-0.6, -0.8), 1, true},
		{complex(1, 0x1p-27), 1, true},
		{complex(1, 0x1.6a09e667f3bccp-27), 1, true}, // its square is just below 2^-53
		{complex(1, 0x1.6a09e667f3bcdp-27), 1, false},
		{complex(1-0x1p-53, 0x1p-27), 1, true},
		{complex(negativeZero, -1), complex(1024, -1024), true},
		{complex(least, -least), complex(-1024, least), true},
		{0, complex(-over(1024), 0), false},
		{0, complex(0, over(1024)), false},
	} {
		list := []impl.WideMode{{Pole: c.pole, Gain: c.gain}}
		if impl.AreWide(list) != c.want || wantWide(list) != c.want {
			t.Errorf("AreWide of %v is not %v", list, c.want)
		}
	}
}

func TestP10ValidWideModesOfAnyNumbers(t *testing.T) {
	for _, z := range specialComplexes() {
		pole, gain := []impl.WideMode{{Pole: z}}, []impl.WideMode{{Gain: z}}
		if impl.AreWide(pole) != wantWide(pole) || impl.AreWide(gain) != wantWide(gain) {
			t.Errorf("AreWide of the pole or the gain %v", z)
		}
	}
	r := newRandom()
	valid := 0
	for range 50000 {
		list := widePoles(onCircle(r))
		if impl.AreWide(list) != wantWide(list) {
			t.Fatalf("AreWide of %v is not %v", list, wantWide(list))
		}
		if wantWide(list) {
			valid++
		}
	}
	if valid < 10000 || valid > 45000 {
		t.Errorf("%d of 50000 are valid", valid)
	}
}

func checkWidened(t *testing.T, b impl.Body) {
	t.Helper()
	list, ok := impl.WidenBody(b)
	if want := wantWidened(b); !ok || !sameWide(list, want) {
		t.Fatalf("WidenBody of %v: %v %v, want %v", b, list, ok, want)
	}
	if back, ok := impl.NarrowModes(list); !ok || !sameBody(back, b) {
		t.Fatalf("%v, widened and narrowed: %v %v", b, back, ok)
	}
	if moved, ok := impl.NarrowError(list); !ok || !same(moved, 0) {
		t.Fatalf("NarrowError of %v, widened: %v %v", b, moved, ok)
	}
}

func TestP10WidenedBodies(t *testing.T) {
	r := newRandom()
	for n := range impl.MaxModes + 1 {
		for range 50 {
			checkWidened(t, anyBody(r, n))
			checkWidened(t, extremeBody(r, n))
		}
	}
	for _, b := range wrongBodies() {
		if list, ok := impl.WidenBody(b); ok || len(list) != 0 {
			t.Errorf("WidenBody of %v: %v %v", b, list, ok)
		}
	}
}

func checkNarrowed(t *testing.T, list []impl.WideMode) bool {
	t.Helper()
	want, valid := wantNarrowed(list)
	if b, ok := impl.NarrowModes(list); ok != valid || !sameBody(b, want) {
		t.Fatalf("NarrowModes of %v: %v %v, want %v %v", list, b, ok, want, valid)
	}
	return valid
}

func TestP10NarrowedModes(t *testing.T) {
	r := newRandom()
	valid, failed := 0, 0
	for range 5000 {
		list := anyWide(r, r.IntN(4))
		if r.IntN(100) == 0 {
			list = anyWide(r, impl.MaxModes)
		}
		if checkNarrowed(t, list) {
			valid++
		} else {
			failed++
		}
	}
	if valid < 1000 || failed < 1000 {
		t.Errorf("%d are valid, %d fail", valid, failed)
	}
	for _, re := range partsAtLimits() {
		for _, im := range partsAtLimits() {
			checkNarrowed(t, []impl.WideMode{{Pole: complex(re, im), Gain: complex(1024*re, im)}})
		}
	}
}

func TestP10NarrowedModesByHand(t *testing.T) {
	minus := narrow(negativeZero)
	for _, c := range []struct {
		m    impl.WideMode
		want impl.Mode
	}{
		{impl.WideMode{Pole: 0.5, Gain: complex(2, -3)}, impl.Mode{Pole: 0.5, Gain: complex(2, -3)}},
		{impl.WideMode{Pole: complex(0.5+0x1p-25, 0.5+0x3p-25), Gain: 1}, impl.Mode{Pole: complex(0.5, 0.5+0x1p-23), Gain: 1}}, // ties
		{impl.WideMode{Pole: complex(0.6, -0.5)}, impl.Mode{Pole: complex(0x99999ap-24, -0.5)}},
		{impl.WideMode{Pole: 1 - 0x1p-53, Gain: 1024 - 0x1p-43}, impl.Mode{Pole: 1, Gain: 1024}},
		{impl.WideMode{Pole: complex(0, -1+0x1p-26), Gain: complex(0, -1024+0x1p-43)}, impl.Mode{Pole: complex(0, -1), Gain: complex(0, -1024)}},
		{impl.WideMode{Pole: complex(least, -least), Gain: complex(negativeZero, 0x1p-150)}, impl.Mode{Pole: complex(0, minus), Gain: complex(minus, 0)}},
		{impl.WideMode{Pole: complex(0x1.8p-150, 0x1.8p-149)}, impl.Mode{Pole: complex(leastSingle, 2*leastSingle)}},
		{impl.WideMode{Pole: complex(1, 0x1p-27)}, impl.Mode{Pole: complex(1, 0x1p-27)}},
	} {
		if b, ok := impl.NarrowModes([]impl.WideMode{c.m}); !ok || !sameBody(b, bodyOf(c.want)) {
			t.Errorf("NarrowModes of %v: %v %v, want %v", c.m, b, ok, c.want)
		}
	}
	if b, ok := impl.NarrowModes(nil); !ok || len(b.Modes) != 0 {
		t.Errorf("NarrowModes of nothing: %v %v", b, ok)
	}
}

func TestP10NarrowingThatFails(t *testing.T) {
	refuse := func(list []impl.WideMode) {
		if b, ok := impl.NarrowModes(list); ok || len(b.Modes) != 0 {
			t.Errorf("NarrowModes of %v: %v %v", list, b, ok)
		}
	}
	for _, list := range wrongLists() {
		refuse(list)
		if moved, ok := impl.NarrowError(list); ok || !same(moved, 0) {
			t.Errorf("NarrowError of %v: %v %v", list, moved, ok)
		}
	}
	// These poles are inside, but are narrowed outwards; how far they are moved can
	// be told all the same.
	for _, pole := range []complex128{complex(1-0x1p-53, 0x1.2p-26), complex(0.6, 0.8), complex(-0.8, 0.6)} {
		for _, list := range [][]impl.WideMode{widePoles(pole), widePoles(pole, 0), widePoles(0, pole, 0), widePoles(0, 0, pole)} {
			if !impl.AreWide(list) {
				t.Errorf("%v is not valid", list)
			}
			refuse(list)
			if moved, ok := impl.NarrowError(list); !ok || moved == 0 || !same(moved, wantNarrowError(list)) {
				t.Errorf("NarrowError of %v: %v %v", list, moved, ok)
			}
		}
	}
}

// checkMoved checks the bound of P6 for a valid list.
func checkMoved(t *testing.T, list []impl.WideMode) {
	t.Helper()
	moved, ok := impl.NarrowError(list)
	if want := wantNarrowError(list); !ok || !same(moved, want) || moved > 0x1p-24 {
		t.Fatalf("NarrowError of %v: %v %v, want %v", list, moved, ok, want)
	}
}

func TestP6NarrowingMovesLittle(t *testing.T) {
	r := newRandom()
	for range 10000 {
		checkMoved(t, anyWide(r, r.IntN(4)))
		// The numbers between 1/2 and the root of 1/2 move the most.
		checkMoved(t, widePoles(complex(0.5+0.2*r.Float64(), -0.5-0.2*r.Float64()), complex(0.5+0x1p-53*r.Float64(), 0.7)))
	}
	checkMoved(t, anyWide(r, impl.MaxModes))
	for _, re := range partsAtLimits() {
		for _, im := range partsAtLimits() {
			if list := widePoles(complex(re, im)); wantWide(list) {
				checkMoved(t, list)
			}
		}
	}
}

func TestP6NarrowErrorsByHand(t *testing.T) {
	third := 1.0 / 3
	for _, c := range []struct {
		list []impl.WideMode
		want float64
	}{
		{nil, 0},
		{widePoles(0), 0},
		{widePoles(1, complex(0, -1), complex(0.5, 0.25)), 0},
		{widePoles(0.5 + 0x1p-25), 0x1p-25},
		{widePoles(complex(0.5+0x1p-25, -0.5-0x3p-25)), 0x1p-24},
		{widePoles(complex(0, 0.5+0x1p-26)), 0x1p-26},
		{widePoles(complex(0.5+0x1p-26, 0.25-0x1p-28)), 0x5p-28},
		{widePoles(0.5+0x1p-27, 0.5+0x1p-26, 0.5+0x1p-28), 0x1p-26},
		{widePoles(1 - 0x1p-53), 0x1p-53},
		{widePoles(complex(least, -least)), 2 * least},
		{widePoles(0x1p-150), 0x1p-150},
		{widePoles(1.0 / 3), 0xaaaaabp-25 - third},
		{widePoles(-0.1, 1.0/3, 0.1), 0xaaaaabp-25 - third},
		{[]impl.WideMode{{Pole: 0.5, Gain: 1.0 / 3}}, 0},
	} {
		if moved, ok := impl.NarrowError(c.list); !ok || !same(moved, c.want) {
			t.Errorf("NarrowError of %v: %v %v, want %v", c.list, moved, ok, c.want)
		}
	}
}

func checkRingWide(t *testing.T, list []impl.WideMode, input []float64, n int) {
	t.Helper()
	outputs, ok := impl.RingWide(list, input, n)
	if want := wantRingWide(list, input, n); !ok || !sameAs(outputs, want) {
		t.Fatalf("RingWide of %v by %v for %d steps: %v %v, want %v", list, input, n, outputs, ok, want)
	}
}

func anyWideInput(r *rand.Rand, n int) []float64 {
	input := make([]float64, n)
	for i := range input {
		input[i] = nearOne(r)
	}
	return input
}

func TestP10WideModesRing(t *testing.T) {
	r := newRandom()
	for range 400 {
		n := r.IntN(60)
		checkRingWide(t, anyWide(r, r.IntN(impl.MaxModes+1)), anyWideInput(r, r.IntN(2*n+2)), n)
	}
	for range 400 {
		n := r.IntN(20)
		input := anyWideInput(r, r.IntN(20))
		for i := range input {
			if r.IntN(4) == 0 {
				input[i] = specialDoubles()[r.IntN(17)]
			}
		}
		checkRingWide(t, anyWide(r, 1+r.IntN(4)), input, n)
	}
	for _, modes := range []int{0, 1, impl.MaxModes} {
		for _, n := range []int{0, 1, impl.MaxSamples} {
			for _, length := range []int{0, 1, n, n + 1, impl.MaxSamples + 10} {
				checkRingWide(t, anyWide(r, modes), anyWideInput(r, length), n)
			}
		}
	}
}

// A body rings in double precision as its modes do when widened.
func TestP10WidenedBodiesRing(t *testing.T) {
	r := newRandom()
	for range 200 {
		b, n := anyBody(r, r.IntN(impl.MaxModes+1)), r.IntN(60)
		input := anyInput(r, r.IntN(60))
		var wide []float64
		for _, x := range input {
			wide = append(wide, float64(x))
		}
		list, ok := impl.WidenBody(b)
		outputs, rings := impl.RingWide(list, wide, n)
		if want := wantRingDouble(b, input, n); !ok || !rings || !sameAs(outputs, want) {
			t.Fatalf("RingWide of %v by %v for %d steps: %v %v %v, want %v", list, wide, n, outputs, ok, rings, want)
		}
	}
}

func TestP10WideModesRingByHand(t *testing.T) {
	half, turning := impl.WideMode{Pole: 0.5, Gain: 2}, impl.WideMode{Pole: complex(0, 1), Gain: 1}
	for _, c := range []struct {
		list  []impl.WideMode
		input []float64
		n     int
		want  []float64
	}{
		{nil, []float64{1, nan}, 3, []float64{0, 0, 0}},
		{[]impl.WideMode{half}, []float64{1}, 3, []float64{2, 1, 0.5}},
		{[]impl.WideMode{half}, []float64{1, 4, 9}, 2, []float64{2, 9}},
		{[]impl.WideMode{half}, nil, 2, []float64{0, 0}},
		{[]impl.WideMode{half}, []float64{1}, 0, nil},
		{[]impl.WideMode{turning}, []float64{1}, 4, []float64{1, 0, -1, 0}},
		{[]impl.WideMode{half, turning}, []float64{1}, 4, []float64{3, 1, -0.5, 0.25}},
		{[]impl.WideMode{{Pole: 1, Gain: 1}}, []float64{1, 0x1p-52, -1}, 3, []float64{1, 1 + 0x1p-52, 0x1p-52}},
		{[]impl.WideMode{{Gain: complex(negativeZero, 0)}}, []float64{1}, 1, []float64{0}},
		{[]impl.WideMode{half}, []float64{inf}, 2, []float64{inf, nan}}, // the gain has the imaginary part 0
		{[]impl.WideMode{half}, []float64{0x1p1023}, 2, []float64{inf, inf}},
		{[]impl.WideMode{{Gain: 1}, {Gain: 0x1p-53}, {Gain: 0x1p-53}, {Gain: -1}}, []float64{1}, 1, []float64{0}}, // in order
	} {
		if outputs, ok := impl.RingWide(c.list, c.input, c.n); !ok || !sameAs(outputs, c.want) {
			t.Errorf("RingWide of %v by %v for %d steps: %v %v, want %v", c.list, c.input, c.n, outputs, ok, c.want)
		}
	}
}

func TestP10RingingWideThatFails(t *testing.T) {
	refuse := func(list []impl.WideMode, n int) {
		if outputs, ok := impl.RingWide(list, []float64{1}, n); ok || len(outputs) != 0 {
			t.Errorf("RingWide of %v for %d steps: %v %v", list, n, outputs, ok)
		}
	}
	for _, list := range wrongLists() {
		refuse(list, 3)
		refuse(list, 0)
	}
	for _, n := range wrongSteps() {
		refuse(nil, n)
		refuse(distinctWide(2), n)
	}
}

func TestP10WideModesKeepNothing(t *testing.T) {
	spare := impl.WideMode{Pole: 7, Gain: 7}
	list := append(distinctWide(2), spare, spare)[:2]
	modes := append(distinctModes(2).Modes, impl.Mode{Pole: 7, Gain: 7}, impl.Mode{Pole: 7, Gain: 7})[:2]
	input := []float64{1, 2, 7, 7}[:2]
	check := func(name string) {
		t.Helper()
		if !sameWide(list[:4], append(distinctWide(2), spare, spare)) || !sameAs(input[:4], []float64{1, 2, 7, 7}) ||
			!sameBody(bodyOf(modes[:2]...), distinctModes(2)) || modes[:4][2].Pole != 7 || modes[:4][3].Pole != 7 {
			t.Errorf("%s changes its arguments, or the memory behind them: %v, %v, %v", name, list[:4], modes[:4], input[:4])
		}
	}
	impl.AreWide(list)
	impl.NarrowError(list)
	check("AreWide or NarrowError")
	widened, _ := impl.WidenBody(impl.Body{Modes: modes})
	again, _ := impl.WidenBody(impl.Body{Modes: modes})
	widened[0].Pole = 9
	_ = append(widened, impl.WideMode{Pole: 9})
	if check("WidenBody"); again[0].Pole == 9 {
		t.Error("two lists of one body share memory")
	}
	narrowed, _ := impl.NarrowModes(list)
	other, _ := impl.NarrowModes(list)
	narrowed.Modes[0].Pole = 9
	_ = append(narrowed.Modes, impl.Mode{Pole: 9})
	if check("NarrowModes"); other.Modes[0].Pole == 9 {
		t.Error("two bodies of one list share memory")
	}
	for range 2 {
		outputs, _ := impl.RingWide(list, input, 2)
		if !sameAs(outputs, wantRingWide(list, input, 2)) {
			t.Errorf("RingWide keeps what was in its memory: %v", outputs)
		}
		outputs[0] = 9
		_ = append(outputs, 9)
		check("RingWide")
	}
}
