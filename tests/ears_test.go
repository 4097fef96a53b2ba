package tests

import (
	"math/rand/v2"
	"slices"
	"testing"

	"loop.example/g03222/impl"
)

func wantLoudest(r impl.Room, source int, input []float32, n int) (int, bool) {
	if len(r.Shapes) == 0 {
		return 0, false
	}
	var energies []float64
	for ear := range r.Shapes {
		outputs, ok := wantRingRoom(r, source, ear, input, n)
		if !ok {
			return 0, false
		}
		energy := 0.0
		for _, x := range outputs {
			energy = sum(energy, product(float64(x), float64(x)))
		}
		energies = append(energies, energy)
	}
	present := 0
	for next := 1; next < len(energies); next++ {
		if energies[next] > energies[present] {
			present = next
		}
	}
	return present, true
}

func checkLoudest(t *testing.T, r impl.Room, source int, input []float32, n int) (int, bool) {
	t.Helper()
	want, valid := wantLoudest(r, source, input, n)
	ear, ok := impl.LoudestEar(r, source, input, n)
	if ok != valid || ear != want {
		t.Fatalf("LoudestEar of %v from %d by %v for %d steps: %v %v, want %v %v", r, source, input, n, ear, ok, want, valid)
	}
	return ear, ok
}

func TestP4LoudestEars(t *testing.T) {
	r := newRandom()
	later, failed := 0, 0
	for range 400 {
		places := 1 + r.IntN(6)
		room, n := anyRoom(r, r.IntN(4), places), r.IntN(10)
		ear, ok := checkLoudest(t, room, r.IntN(places), anyInput(r, r.IntN(12)), n)
		if ear > 0 {
			later++
		}
		if !ok {
			failed++
		}
		checkLoudest(t, room, r.IntN(places), wildSamples(r, 3), 4)
	}
	if later < 50 || failed < 5 {
		t.Errorf("%d ears are not the first, %d rooms fail", later, failed)
	}
	for _, modes := range []int{1, impl.MaxModes} {
		room := evenRoom(distinctModes(modes), impl.MaxPlaces, 0.25)
		for p := range room.Shapes {
			room.Shapes[p][0] = narrow(nearOne(r))
		}
		checkLoudest(t, room, 3, anyInput(r, 9), 12)
	}
	checkLoudest(t, evenRoom(distinctModes(1), 2, 0.5), 1, []float32{1}, impl.MaxSamples)
}

func TestP4LoudestEarsByHand(t *testing.T) {
	endless, noNumber, minus := float32(inf), float32(nan), narrow(negativeZero)
	one := bodyOf(impl.Mode{Pole: 0.5, Gain: 1})
	click := []float32{1}
	for _, c := range []struct {
		weights []float32 // of a single mode, the source being at place 0
		input   []float32
		n       int
		want    int
	}{
		{[]float32{1}, click, 5, 0},
		{[]float32{1, 2}, click, 5, 1},
		{[]float32{2, 1}, click, 5, 0},
		{[]float32{1, -2}, click, 5, 1}, // how loud it is does not depend on the sign
		{[]float32{1, 2, 3, 4, 5}, click, 5, 4},
		{[]float32{5, 3, 4}, click, 5, 0}, // 4 is greater than 3, but the present place is 0
		{[]float32{2, 5, 3, 4, 1}, click, 5, 1},
		{[]float32{2, 1, 3}, click, 5, 2},
		// Of ears that are as loud as one another, the first one.
		{[]float32{2, 2, 2}, click, 5, 0},
		{[]float32{2, -2}, click, 5, 0},
		{[]float32{1, 3, 2, 3, -3}, click, 5, 1},
		{[]float32{0, 0, 16}, click, 5, 0},
		{[]float32{minus, 0, 0}, click, 5, 0},
		{[]float32{1, 2}, nil, 5, 0},
		{[]float32{1, 2}, []float32{0, minus}, 5, 0},
		{[]float32{1, 2}, click, 0, 0},
		{[]float32{1, 1 + 0x1p-23}, click, 1, 1},
		// No energy is greater than NaN, and NaN is greater than none.
		{[]float32{1, 2}, []float32{noNumber}, 1, 0},
		{[]float32{1, 2}, []float32{endless}, 1, 0},
		{[]float32{1, 2}, []float32{1, endless}, 2, 0},
		{[]float32{1, 0, 2}, []float32{endless}, 1, 0},
		{[]float32{0, 1, 2}, []float32{endless}, 1, 0},
		{[]float32{1, 0.5, 2, 3}, []float32{0x1p127}, 1, 2},
		{[]float32{1, 0.5, 1.5, 3, 4}, []float32{0x1p127}, 1, 3},
	} {
		room := roomOf(one)
		for _, weight := range c.weights {
			room.Shapes = append(room.Shapes, []float32{weight})
		}
		if ear, ok := impl.LoudestEar(room, 0, c.input, c.n); !ok || ear != c.want {
			t.Errorf("LoudestEar of places with the weights %v, by %v for %d steps: %v %v, want %v", c.weights, c.input, c.n, ear, ok, c.want)
		}
	}
	// By the energy of all samples, not by the greatest one.
	room := roomOf(bodyOf(impl.Mode{Pole: 0, Gain: 1}, impl.Mode{Pole: 1, Gain: 1}), []float32{1, 1}, []float32{3, 0}, []float32{0, 2})
	for n, want := range []int{0, 1, 1, 2, 2} {
		if ear, ok := impl.LoudestEar(room, 0, click, n); !ok || ear != want {
			t.Errorf("LoudestEar for %d steps: %v %v, want %v", n, ear, ok, want)
		}
	}
	// From another source, another ear.
	room = roomOf(distinctModes(2), []float32{1, 0}, []float32{0, 1}, []float32{2, -3})
	room.Shapes = append(room.Shapes, []float32{-3, 2})
	for source, want := range []int{3, 2, 2, 3} {
		if ear, ok := impl.LoudestEar(room, source, click, 1); !ok || ear != want {
			t.Errorf("LoudestEar from %d: %v %v, want %v", source, ear, ok, want)
		}
	}
	if ear, ok := impl.LoudestEar(evenRoom(impl.Body{}, impl.MaxPlaces, 0), 15, click, 5); !ok || ear != 0 {
		t.Errorf("LoudestEar of a room without modes: %v %v", ear, ok)
	}
}

func TestP10LoudestEarsThatFail(t *testing.T) {
	refuse := func(r impl.Room, source, n int) {
		if ear, ok := impl.LoudestEar(r, source, []float32{1}, n); ok || ear != 0 {
			t.Errorf("LoudestEar of %v from %d for %d steps: %v %v", r, source, n, ear, ok)
		}
	}
	for _, room := range wrongRooms() {
		refuse(room, 0, 3)
		refuse(room, 1, 0)
	}
	for _, room := range loudRooms() {
		refuse(room, 0, 3)
		refuse(room, 1, 3)
	}
	refuse(impl.Room{}, 0, 3)
	refuse(roomOf(distinctModes(3)), 0, 0)
	for _, source := range wrongPlaces(3) {
		refuse(evenRoom(distinctModes(2), 3, 1), source, 3)
		refuse(evenRoom(impl.Body{}, 3, 1), source, 3)
	}
	for _, n := range wrongSteps() {
		refuse(evenRoom(distinctModes(2), 3, 1), 0, n)
		refuse(evenRoom(impl.Body{}, 1, 1), 0, n)
	}
	// A gain may grow too great for one ear alone, which need not be the loudest one.
	loud := bodyOf(impl.Mode{Pole: 0.5, Gain: 1024})
	for ear := range 4 {
		room := evenRoom(loud, 4, 0.5)
		room.Shapes[ear][0] = 1.5
		if n, ok := impl.LoudestEar(room, (ear+1)%4, []float32{1}, 3); !ok || n != ear {
			t.Errorf("LoudestEar of %v: %v %v, want %v", room, n, ok, ear)
		}
		refuse(room, ear, 3)
		room.Shapes[ear][0] = 2.5
		refuse(room, (ear+1)%4, 3)
		refuse(room, (ear+3)%4, 3)
	}
}

func wantListen(r impl.Room, source int, ears []int, input []float32) ([]float32, bool) {
	if !isIn(r, append([]int{source}, ears...)...) || len(ears) > 2000 {
		return nil, false
	}
	states := make([]complex64, len(r.Modes))
	samples := make([]float32, len(ears))
	for i, ear := range ears {
		x := float32(0)
		if i < len(input) {
			x = input[i]
		}
		for k, m := range r.Modes {
			m.Gain = wantScaled(m.Gain, r.Shapes[source][k])
			states[k] = wantStep(m, states[k], x)
			samples[i] = sumSingle(samples[i], productSingle(real(states[k]), r.Shapes[ear][k]))
		}
	}
	return samples, true
}

func checkListen(t *testing.T, r impl.Room, source int, ears []int, input []float32) {
	t.Helper()
	want, valid := wantListen(r, source, ears, input)
	samples, ok := impl.ListenAlong(r, source, ears, input)
	if !ok || !valid || !sameAs(samples, want) {
		t.Fatalf("ListenAlong of %v from %d at %v by %v: %v %v, want %v %v", r, source, ears, input, samples, ok, want, valid)
	}
}

func anyEars(r *rand.Rand, places, n int) []int {
	ears := make([]int, n)
	for i := range ears {
		ears[i] = r.IntN(places)
	}
	return ears
}

func TestP4Listening(t *testing.T) {
	r := newRandom()
	for range 400 {
		places := 1 + r.IntN(impl.MaxPlaces)
		room := anyRoom(r, r.IntN(impl.MaxModes+1), places)
		checkListen(t, room, r.IntN(places), anyEars(r, places, r.IntN(20)), anyInput(r, r.IntN(20)))
		checkListen(t, room, r.IntN(places), anyEars(r, places, 5), wildSamples(r, 4))
	}
	for _, modes := range []int{0, 1, impl.MaxModes} {
		room := anyRoom(r, modes, impl.MaxPlaces)
		for place := range room.Shapes {
			checkListen(t, room, place, slices.Repeat([]int{place}, 5), []float32{1, -1})
		}
		checkListen(t, room, 0, nil, []float32{1})
		checkListen(t, room, 0, []int{1, 2}, nil)
		checkListen(t, anyRoom(r, modes, 1), 0, make([]int, 9), anyInput(r, 6))
	}
	checkListen(t, anyRoom(r, 2, 3), 1, anyEars(r, 3, impl.MaxSamples), anyInput(r, 1000))
	checkListen(t, anyRoom(r, 1, 3), 2, anyEars(r, 3, impl.MaxSamples), anyInput(r, impl.MaxSamples+10))
}

func TestP4ListeningByHand(t *testing.T) {
	endless, noNumber, minus := float32(inf), float32(nan), narrow(negativeZero)
	half := roomOf(bodyOf(impl.Mode{Pole: 0.5, Gain: 2}), []float32{1}, []float32{0.5}, []float32{0}, []float32{-3})
	turning := roomOf(bodyOf(impl.Mode{Pole: complex(0, 1), Gain: complex(1, 2)}), []float32{1}, []float32{2})
	loud := roomOf(bodyOf(impl.Mode{Pole: 0.5, Gain: 1024}), []float32{16}, []float32{-16})
	faint := roomOf(bodyOf(impl.Mode{Pole: 1, Gain: 0x1p-100}), []float32{0x1p-60}, []float32{16})
	clean := roomOf(bodyOf(impl.Mode{Gain: 1 + 0x1p-11}, impl.Mode{Gain: 1 + 0x1p-12}), []float32{1, 1}, []float32{-1, 1 + 0x1p-12})
	three := roomOf(bodyOf(impl.Mode{Gain: 1}, impl.Mode{Gain: 0x1p-24}, impl.Mode{Gain: 0x1p-24}), []float32{1, 1, 1}, []float32{-1, 2, 4})
	for _, c := range []struct {
		r      impl.Room
		source int
		ears   []int
		input  []float32
		want   []float32
	}{
		{half, 0, []int{0, 1, 0}, []float32{1}, []float32{2, 0.5, 0.5}},
		{half, 1, []int{0, 1, 0}, []float32{1}, []float32{1, 0.25, 0.25}},
		{half, 0, []int{3, 3, 2, 1}, []float32{1, 4}, []float32{-6, -27, 0, 1.125}},
		{half, 3, []int{0, 3}, []float32{1, 4, 9}, []float32{-6, 81}},
		{half, 0, nil, []float32{1}, nil},
		{half, 0, []int{}, nil, nil},
		{half, 2, []int{0, 1}, []float32{1, 2}, []float32{0, 0}},
		{half, 0, []int{2, 0}, []float32{1}, []float32{0, 1}}, // the modes go on while nothing is heard
		{half, 0, []int{2, 0}, []float32{endless}, []float32{noNumber, noNumber}},
		{half, 0, []int{0}, []float32{endless}, []float32{endless}},
		{half, 0, []int{0, 2}, []float32{1, noNumber}, []float32{2, noNumber}},
		{half, 0, []int{0, 0}, []float32{minus, minus}, []float32{0, 0}}, // the sum begins with 0
		{half, 0, []int{3}, nil, []float32{0}},
		{turning, 0, []int{0, 1, 0, 1, 0}, []float32{1}, []float32{1, -4, -1, 4, 1}}, // of the real parts alone
		{roomOf(impl.Body{}, nil, nil), 1, []int{0, 1}, []float32{1, noNumber}, []float32{0, 0}},
		// The scaled Gain may be greater than MaxGain.
		{loud, 0, []int{0, 1}, []float32{1}, []float32{0x1p18, -0x1p17}},
		{loud, 1, []int{0}, []float32{1}, []float32{-0x1p18}},
		// The Gain is scaled before the sample is known.
		{faint, 0, []int{1}, []float32{0x1p110}, []float32{0}},
		{faint, 1, []int{0, 1}, []float32{0x1p110}, []float32{0x1p-46, 0x1p18}},
		// The second product is rounded before it is added to the first one.
		{clean, 0, []int{1}, []float32{1}, []float32{0}},
		// The sum is taken in order, in single precision.
		{three, 0, []int{0, 1}, []float32{1, 1}, []float32{1, -1 + 0x6p-24}},
	} {
		if samples, ok := impl.ListenAlong(c.r, c.source, c.ears, c.input); !ok || !sameAs(samples, c.want) {
			t.Errorf("ListenAlong of %v from %d at %v by %v: %v %v, want %v", c.r, c.source, c.ears, c.input, samples, ok, c.want)
		}
	}
}

func TestP10ListeningThatFails(t *testing.T) {
	refuse := func(r impl.Room, source int, ears []int) {
		if samples, ok := impl.ListenAlong(r, source, ears, []float32{1, 2}); ok || len(samples) != 0 {
			t.Errorf("ListenAlong of %v from %d at %v: %v %v", r, source, ears, samples, ok)
		}
	}
	for _, room := range wrongRooms() {
		refuse(room, 0, nil)
		refuse(room, 0, []int{0, 0})
	}
	for _, modes := range []int{0, 2} {
		refuse(roomOf(distinctModes(modes)), 0, nil)
		refuse(roomOf(distinctModes(modes)), 0, []int{0})
		room := evenRoom(distinctModes(modes), 3, 1)
		for _, place := range wrongPlaces(3) {
			refuse(room, place, nil)
			refuse(room, place, []int{0, 1})
			refuse(room, 0, []int{place})
			refuse(room, 0, []int{place, 0, 1, 2})
			refuse(room, 0, []int{0, 1, place, 2})
			refuse(room, 0, append(make([]int, impl.MaxSamples-1), place))
		}
		for _, ears := range []int{impl.MaxSamples + 1, impl.MaxSamples + 2, 100000} {
			refuse(room, 0, make([]int, ears))
		}
		samples, ok := impl.ListenAlong(room, 0, make([]int, impl.MaxSamples), nil)
		if !ok || !sameAs(samples, make([]float32, impl.MaxSamples)) {
			t.Errorf("ListenAlong of MaxSamples ears: %v %v", samples, ok)
		}
	}
}
