package tests

import (
	"math"
	"testing"

	"loop.example/g03222/impl"
)

func TestP10LimitsOfBodies(t *testing.T) {
	if impl.MaxModes != 16 || impl.MaxSamples != 2000 || impl.MaxGain != 1024 {
		t.Errorf("MaxModes is %d, MaxSamples %d, MaxGain %d", impl.MaxModes, impl.MaxSamples, impl.MaxGain)
	}
}

func TestP10ValidModes(t *testing.T) {
	minus, noNumber, endless := narrow(negativeZero), float32(nan), float32(inf)
	for _, c := range []struct {
		pole complex64
		gain complex64
		want bool
	}{
		{0, 0, true},
		{complex(minus, minus), complex(minus, minus), true},
		{1, 1, true},
		{-1, 1, true},
		{complex(0, -1), 1, true},
		{complex(1, leastSingle), 1, true},
		{complex(1, 0x1p-27), 1, true},  // 1 + 2^-54 is 1 in double precision
		{complex(1, 0x1p-26), 1, false}, // 1 + 2^-52 is more
		{complex(1, 0x1p-20), 1, false}, // in single precision, this would be 1
		{complex(oneOver(1), 0), 1, false},
		{complex(0, -oneOver(1)), 1, false},
		{complex(0.6, 0.8), 1, false}, // both parts have been rounded up
		{complex(0.6, 0.79999995), 1, true},
		{complex(0.8, 0.8), 1, false},
		{complex(greatestSingle, -greatestSingle), 1, false},
		{complex(leastSingle, -leastSingle), 1, true},
		{complex(noNumber, 0), 1, false},
		{complex(0, noNumber), 1, false},
		{complex(endless, 0), 1, false},
		{complex(0, -endless), 1, false},
		{0, complex(1024, -1024), true},
		{0, complex(-1024, 1024), true},
		{0, complex(oneOver(1024), 0), false},
		{0, complex(-oneOver(1024), 0), false},
		{0, complex(0, oneOver(1024)), false},
		{0, complex(0, -oneOver(1024)), false},
		{0, complex(noNumber, 0), false},
		{0, complex(0, noNumber), false},
		{0, complex(-endless, 0), false},
		{0, complex(0, endless), false},
	} {
		m := impl.Mode{Pole: c.pole, Gain: c.gain}
		if impl.IsMode(m) != c.want || wantMode(m) != c.want || impl.IsBody(bodyOf(m)) != c.want {
			t.Errorf("IsMode of %v is not %v", m, c.want)
		}
	}
	r := newRandom()
	for _, z := range specialComplexesSingle() {
		pole, gain := impl.Mode{Pole: z}, impl.Mode{Gain: z}
		if impl.IsMode(pole) != wantMode(pole) || impl.IsMode(gain) != wantMode(gain) {
			t.Errorf("IsMode of the pole or the gain %v", z)
		}
	}
	for range 50000 {
		sine, cosine := math.Sincos(2 * math.Pi * r.Float64())
		m := impl.Mode{Pole: narrowBoth(complex(cosine, sine)), Gain: 1}
		if impl.IsMode(m) != wantMode(m) {
			t.Fatalf("IsMode of %v is not %v", m, wantMode(m))
		}
	}
}

func TestP10ValidBodies(t *testing.T) {
	for n := range impl.MaxModes + 1 {
		if !impl.IsBody(distinctModes(n)) {
			t.Errorf("a body of %d modes is not valid", n)
		}
	}
	if !impl.IsBody(impl.Body{}) || !impl.IsBody(impl.Body{Modes: []impl.Mode{}}) {
		t.Error("a body without modes is not valid")
	}
	for _, b := range wrongBodies() {
		if impl.IsBody(b) {
			t.Errorf("%v is valid", b)
		}
	}
}

func TestP10DampedBodies(t *testing.T) {
	r := newRandom()
	check := func(b impl.Body, factor float32) {
		want := wantDamped(b, factor)
		if damped, ok := impl.DampBody(b, factor); !ok || !sameBody(damped, want) || !impl.IsBody(damped) {
			t.Fatalf("DampBody of %v by %v: %v %v, want %v", b, factor, damped, ok, want)
		}
	}
	for _, factor := range factors() {
		check(impl.Body{}, factor)
		check(distinctModes(impl.MaxModes), factor)
		check(bodyOfPoles(-1, complex(0, -1), complex(narrow(negativeZero), leastSingle), complex(0.6, -0.79999995)), factor)
		check(anyBody(r, 5), factor)
		check(anyBody(r, 5), r.Float32())
	}
	damped, ok := impl.DampBody(bodyOf(impl.Mode{Pole: complex(-0.5, 0.25), Gain: 3}), 0)
	if !ok || !sameBody(damped, bodyOf(impl.Mode{Pole: complex(narrow(negativeZero), 0), Gain: 3})) {
		t.Errorf("DampBody by 0: %v %v", damped, ok)
	}
	for _, factor := range wrongFactors() {
		for _, b := range []impl.Body{{}, distinctModes(2)} {
			if damped, ok := impl.DampBody(b, factor); ok || len(damped.Modes) != 0 {
				t.Errorf("DampBody of %v by %v: %v %v", b, factor, damped, ok)
			}
		}
	}
	for _, b := range wrongBodies() {
		if damped, ok := impl.DampBody(b, 0.5); ok || len(damped.Modes) != 0 {
			t.Errorf("DampBody of %v: %v %v", b, damped, ok)
		}
	}
}

func TestP10TunedBodies(t *testing.T) {
	r := newRandom()
	check := func(b impl.Body, turn complex64) {
		want, valid := impl.Body{}, true
		for _, m := range b.Modes {
			next := impl.Mode{Pole: wantProductSingle(m.Pole, turn), Gain: m.Gain}
			want.Modes = append(want.Modes, next)
			valid = valid && wantMode(next)
		}
		if !valid {
			want = impl.Body{}
		}
		if tuned, ok := impl.TuneBody(b, turn); ok != valid || !sameBody(tuned, want) {
			t.Fatalf("TuneBody of %v by %v: %v %v, want %v %v", b, turn, tuned, ok, want, valid)
		}
	}
	for _, turn := range specialComplexesSingle() {
		check(impl.Body{}, turn)
		check(bodyOfPoles(0, 0.5, complex(-0.5, narrow(negativeZero))), turn)
		check(bodyOfPoles(leastSingle, complex(leastSingle, -leastSingle)), turn)
	}
	for range 2000 {
		check(anyBody(r, r.IntN(4)), anyPole(r))
		check(anyBody(r, 1), narrowBoth(nearOneComplex(r)))
	}
	tuned, ok := impl.TuneBody(bodyOf(impl.Mode{Pole: complex(0.25, 0.5), Gain: 3}), complex(0, 1))
	if !ok || !sameBody(tuned, bodyOf(impl.Mode{Pole: complex(-0.5, 0.25), Gain: 3})) {
		t.Errorf("TuneBody by a quarter turn: %v %v", tuned, ok)
	}
	if tuned, ok = impl.TuneBody(bodyOfPoles(0.25, -0.5), 2); !ok || !sameBody(tuned, bodyOfPoles(0.5, -1)) {
		t.Errorf("TuneBody by 2: %v %v", tuned, ok)
	}
	for _, b := range wrongBodies() {
		for _, turn := range []complex64{1, 0, 0.5} {
			if tuned, ok := impl.TuneBody(b, turn); ok || len(tuned.Modes) != 0 {
				t.Errorf("TuneBody of %v by %v: %v %v", b, turn, tuned, ok)
			}
		}
	}
}

func TestP10MergedBodies(t *testing.T) {
	minus := narrow(negativeZero)
	mode := func(pole, gain complex64) impl.Mode { return impl.Mode{Pole: pole, Gain: gain} }
	for _, c := range []struct{ a, b, want impl.Body }{
		{impl.Body{}, impl.Body{}, impl.Body{}},
		{distinctModes(3), impl.Body{}, distinctModes(3)},
		{impl.Body{}, distinctModes(impl.MaxModes), distinctModes(impl.MaxModes)},
		{bodyOf(mode(0.5, 1), mode(0.25, 2)), bodyOf(mode(-0.5, 3)), bodyOf(mode(0.5, 1), mode(0.25, 2), mode(-0.5, 3))},
		{bodyOf(mode(0.5, 1), mode(0.25, 2)), bodyOf(mode(0.25, complex(3, 4)), mode(0.5, 8)), bodyOf(mode(0.5, 9), mode(0.25, complex(5, 4)))},
		{bodyOf(mode(complex(0.5, 1), 1)), bodyOf(mode(complex(0.5, -1), 1)), impl.Body{}}, // not valid
		{bodyOf(mode(complex(0.5, 0.25), 1)), bodyOf(mode(complex(0.5, -0.25), 2)), bodyOf(mode(complex(0.5, 0.25), 1), mode(complex(0.5, -0.25), 2))},
		// Poles that differ in the signs of zeros only; the first pole stays.
		{bodyOf(mode(complex(minus, minus), 1)), bodyOf(mode(0, 2), mode(complex(0, minus), 4)), bodyOf(mode(complex(minus, minus), 7))},
		{bodyOf(mode(complex(0, 1), 1)), bodyOf(mode(complex(minus, 1), 2)), bodyOf(mode(complex(0, 1), 3))},
		// Within one body, too, and always into the first one.
		{bodyOf(mode(0.5, 1), mode(0.25, 1), mode(0.5, 2)), impl.Body{}, bodyOf(mode(0.5, 3), mode(0.25, 1))},
		{impl.Body{}, bodyOf(mode(0.5, 1), mode(0.5, 2), mode(0.5, 4)), bodyOf(mode(0.5, 7))},
		// Gains are added in single precision, one after the other.
		{bodyOf(mode(0, 1), mode(0, 0x1p-24), mode(0, 0x1p-24)), bodyOf(mode(0, -1)), bodyOf(mode(0, 0))},
		{bodyOf(mode(0, complex(minus, minus))), bodyOf(mode(0, complex(minus, 0))), bodyOf(mode(0, complex(minus, 0)))},
		// Only at the end must the result be valid.
		{bodyOf(mode(0, 1024)), bodyOf(mode(0, complex(0, 1024))), bodyOf(mode(0, complex(1024, 1024)))},
		{bodyOf(mode(0, 1024)), bodyOf(mode(0, 1), mode(0, -1)), bodyOf(mode(0, 1024))},
		{distinctModes(impl.MaxModes), distinctModes(impl.MaxModes), doubled(distinctModes(impl.MaxModes))},
	} {
		merged, ok := impl.MergeBodies(c.a, c.b)
		if fails := wrong(c.a) || wrong(c.b); ok == fails || !sameBody(merged, c.want) {
			t.Errorf("MergeBodies of %v and %v: %v %v, want %v", c.a, c.b, merged, ok, c.want)
		}
	}
}

func wrong(b impl.Body) bool {
	for _, m := range b.Modes {
		if !wantMode(m) {
			return true
		}
	}
	return len(b.Modes) > 16
}

func doubled(b impl.Body) impl.Body {
	for i := range b.Modes {
		b.Modes[i].Gain *= 2
	}
	return b
}

func TestP10MergingThatFails(t *testing.T) {
	refuse := func(a, b impl.Body) {
		if merged, ok := impl.MergeBodies(a, b); ok || len(merged.Modes) != 0 {
			t.Errorf("MergeBodies of %v and %v: %v %v", a, b, merged, ok)
		}
	}
	for _, b := range wrongBodies() {
		refuse(b, impl.Body{})
		refuse(impl.Body{}, b)
		refuse(distinctModes(2), b)
	}
	refuse(distinctModes(impl.MaxModes), bodyOfPoles(-0.5))
	refuse(bodyOfPoles(-0.5), distinctModes(impl.MaxModes))
	loud := func(gain complex64) impl.Body { return bodyOf(impl.Mode{Pole: 0.5, Gain: gain}) }
	refuse(loud(1024), loud(1))
	refuse(loud(complex(0, -1024)), loud(complex(0, -0x1p-13)))
	refuse(bodyOf(impl.Mode{Gain: 1024}, impl.Mode{Gain: 1024}), impl.Body{})
}

// wantMerged finds the result from the poles as pairs of ordinary numbers.
func wantMerged(a, b impl.Body) (impl.Body, bool) {
	var merged impl.Body
	place := map[[2]float32]int{}
	for _, m := range append(append([]impl.Mode{}, a.Modes...), b.Modes...) {
		pole := [2]float32{real(m.Pole) + 0, imag(m.Pole) + 0}
		if k, known := place[pole]; known {
			gain := merged.Modes[k].Gain
			merged.Modes[k].Gain = complex(sumSingle(real(gain), real(m.Gain)), sumSingle(imag(gain), imag(m.Gain)))
			continue
		}
		place[pole] = len(merged.Modes)
		merged.Modes = append(merged.Modes, m)
	}
	if wrong(merged) {
		return impl.Body{}, false
	}
	return merged, true
}

func TestP10MergedBodiesOfFewPoles(t *testing.T) {
	r := newRandom()
	values := []float32{0, narrow(negativeZero), 0.5, -0.5, 0.25, -0.25}
	draw := func() impl.Body {
		b := anyBody(r, r.IntN(impl.MaxModes+1))
		for i := range b.Modes {
			b.Modes[i].Pole = complex(values[r.IntN(6)], values[r.IntN(6)])
		}
		return b
	}
	failed := 0
	for range 2000 {
		a, b := draw(), draw()
		want, valid := wantMerged(a, b)
		if merged, ok := impl.MergeBodies(a, b); ok != valid || !sameBody(merged, want) {
			t.Fatalf("MergeBodies of %v and %v: %v %v, want %v %v", a, b, merged, ok, want, valid)
		}
		if !valid {
			failed++
		}
	}
	if failed < 100 || failed > 1900 {
		t.Errorf("%d of 2000 are not valid", failed)
	}
}

func TestP10ChangedBodiesShareNothing(t *testing.T) {
	modes := make([]impl.Mode, 2, 8)
	copy(modes, distinctModes(2).Modes)
	b, other := impl.Body{Modes: modes}, bodyOfPoles(-0.25)
	spare := impl.Mode{Pole: 7, Gain: 7}
	modes[:3][2] = spare
	changes := map[string]func() (impl.Body, bool){
		"DampBody":               func() (impl.Body, bool) { return impl.DampBody(b, 1) },
		"TuneBody":               func() (impl.Body, bool) { return impl.TuneBody(b, 1) },
		"MergeBodies, the first": func() (impl.Body, bool) { return impl.MergeBodies(b, other) },
		"MergeBodies, the last":  func() (impl.Body, bool) { return impl.MergeBodies(impl.Body{}, b) },
	}
	for name, change := range changes {
		first, ok := change()
		if !ok {
			t.Errorf("%s fails", name)
			continue
		}
		second, _ := change()
		kept := second.Modes[0]
		first.Modes[0] = impl.Mode{Pole: 9}
		_ = append(first.Modes, impl.Mode{Pole: 9})
		if !sameBody(b, distinctModes(2)) || !sameMode(modes[:3][2], spare) || !sameMode(second.Modes[0], kept) || !sameBody(other, bodyOfPoles(-0.25)) {
			t.Errorf("%s changes or shares its arguments: %v", name, modes[:3])
		}
	}
}

func wantBeat(a, b impl.Mode) (complex128, bool) {
	if !wantMode(a) || !wantMode(b) {
		return 0, false
	}
	return wantQuotient(complex128(a.Pole), complex128(b.Pole))
}

func wantPeriod(a, b impl.Mode, most int) (int, bool) {
	beat, ok := wantBeat(a, b)
	if !ok || most < 1 || most > 2000 {
		return 0, false
	}
	power := beat
	for n := 1; n <= most; n++ {
		if sum(math.Abs(difference(real(power), 1)), math.Abs(imag(power))) <= 0.0625 {
			return n, true
		}
		power = wantProduct(power, beat)
	}
	return 0, false
}

func TestP10Beats(t *testing.T) {
	r := newRandom()
	found := 0
	for range 1000 {
		a, b, most := anyMode(r), anyMode(r), 1+r.IntN(100)
		if r.IntN(2) == 0 {
			b = impl.Mode{Pole: narrowBoth(complex128(a.Pole) * complex(math.Cos(0.01), math.Sin(0.01)))}
		}
		want, valid := wantBeat(a, b)
		if beat, ok := impl.BeatOf(a, b); ok != valid || !sameBoth(beat, want) {
			t.Fatalf("BeatOf %v and %v: %v %v, want %v %v", a, b, beat, ok, want, valid)
		}
		period, has := wantPeriod(a, b, most)
		if n, ok := impl.BeatPeriod(a, b, most); ok != has || n != period {
			t.Fatalf("BeatPeriod of %v and %v up to %d: %v %v, want %v %v", a, b, most, n, ok, period, has)
		}
		if has {
			found++
		}
	}
	if found < 100 || found > 900 {
		t.Errorf("%d of 1000 periods were found", found)
	}
}

// With powers of single precision, each of these periods would be another one.
func TestP10PeriodsInDoublePrecision(t *testing.T) {
	for _, c := range []struct {
		pole complex64
		want int
	}{
		{complex(0.73321134, -0.679104), 42},
		{complex(-0.42010185, 0.9065713), 0},
		{complex(-0.15948561, -0.98654467), 98},
		{complex(-0.4826237, 0.8748731), 3},
		{complex(-0.9914148, -0.12728763), 123},
	} {
		a, b := impl.Mode{Pole: c.pole}, impl.Mode{Pole: 1}
		if n, _ := wantPeriod(a, b, impl.MaxSamples); n != c.want {
			t.Errorf("the period of %v is %d, not %d", c.pole, n, c.want)
		}
		if n, ok := impl.BeatPeriod(a, b, impl.MaxSamples); n != c.want || ok != (c.want > 0) {
			t.Errorf("BeatPeriod of %v and 1: %v %v, want %v", c.pole, n, ok, c.want)
		}
	}
}

func TestP10BeatsByHand(t *testing.T) {
	pole := func(z complex64) impl.Mode { return impl.Mode{Pole: z, Gain: 1} }
	for _, c := range []struct {
		a, b   impl.Mode
		want   complex128
		most   int
		period int
	}{
		{pole(complex(0, 1)), pole(1), complex(0, 1), 9, 4},
		{pole(complex(0, 1)), pole(1), complex(0, 1), 4, 4},
		{pole(complex(0, 1)), pole(1), complex(0, 1), 3, 0},
		{pole(0.5), pole(complex(0, 0.25)), complex(0, -2), impl.MaxSamples, 0}, // up to infinity and NaN
		{pole(-0.5), pole(0.5), -1, impl.MaxSamples, 2},
		{pole(0.5), pole(0.5), 1, 1, 1},
		{pole(0), pole(0.5), 0, impl.MaxSamples, 0},
		{pole(1 - 0x1p-4), pole(1), 1 - 0x1p-4, 1, 1},                     // just near enough
		{pole(1 - 0x1p-4 - 0x1p-24), pole(1), 1 - 0x1p-4 - 0x1p-24, 1, 0}, // just not
		{pole(0.5), pole(0.53125), 0.5 / 0.53125, 1, 1},
		{pole(complex(0.5, 0.03125)), pole(0.5), complex(1, 0.0625), 1, 1},
		{pole(complex(0.5, 0.0625)), pole(0.5), complex(1, 0.125), 1, 0},
		{pole(complex(0.96875, 0.03125)), pole(1), complex(0.96875, 0.03125), 1, 1}, // the size, not the length
		{pole(complex(0.96875, 0.046875)), pole(1), complex(0.96875, 0.046875), 1, 0},
		{pole(leastSingle), pole(1), leastSingle, 10, 0},
		{pole(1), pole(leastSingle), 0x1p149, 10, 0},
	} {
		if beat, ok := impl.BeatOf(c.a, c.b); !ok || beat != c.want {
			t.Errorf("BeatOf %v and %v: %v %v, want %v", c.a, c.b, beat, ok, c.want)
		}
		if n, ok := impl.BeatPeriod(c.a, c.b, c.most); n != c.period || ok != (c.period > 0) {
			t.Errorf("BeatPeriod of %v and %v up to %d: %v %v, want %v", c.a, c.b, c.most, n, ok, c.period)
		}
	}
}

func TestP10BeatsThatFail(t *testing.T) {
	good := impl.Mode{Pole: 0.5, Gain: 1}
	refuse := func(a, b impl.Mode, most int) {
		if n, ok := impl.BeatPeriod(a, b, most); ok || n != 0 {
			t.Errorf("BeatPeriod of %v and %v up to %d: %v %v", a, b, most, n, ok)
		}
	}
	refuseAll := func(a, b impl.Mode) {
		if beat, ok := impl.BeatOf(a, b); ok || !sameBoth(beat, 0) {
			t.Errorf("BeatOf %v and %v: %v %v", a, b, beat, ok)
		}
		refuse(a, b, 5)
	}
	for _, b := range wrongBodies() {
		for _, m := range b.Modes {
			if !wantMode(m) {
				refuseAll(m, good)
				refuseAll(good, m)
			}
		}
	}
	minus := narrow(negativeZero)
	for _, zero := range []complex64{0, complex(minus, 0), complex(0, minus), complex(minus, minus)} {
		refuseAll(good, impl.Mode{Pole: zero, Gain: 1})
		refuseAll(impl.Mode{}, impl.Mode{Pole: zero, Gain: 1})
	}
	for _, most := range []int{0, -1, math.MinInt, impl.MaxSamples + 1, 1 << 32, math.MaxInt} {
		refuse(good, good, most)
	}
	if n, ok := impl.BeatPeriod(good, good, impl.MaxSamples); !ok || n != 1 {
		t.Errorf("BeatPeriod up to MaxSamples: %v %v", n, ok)
	}
}
