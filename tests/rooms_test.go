package tests

import (
	"math"
	"math/rand/v2"
	"slices"
	"testing"

	"loop.example/g03222/impl"
)

func roomOf(b impl.Body, shapes ...[]float32) impl.Room {
	return impl.Room{Modes: b.Modes, Shapes: shapes}
}

// evenRoom has places at which all modes have the weight.
func evenRoom(b impl.Body, places int, weight float32) impl.Room {
	r := roomOf(b)
	for range places {
		r.Shapes = append(r.Shapes, slices.Repeat([]float32{weight}, len(b.Modes)))
	}
	return r
}

// anyRoom has weights of all sizes, but seldom so great ones that gains grow
// beyond MaxGain.
func anyRoom(r *rand.Rand, modes, places int) impl.Room {
	room := evenRoom(anyBody(r, modes), places, 0)
	for _, weights := range room.Shapes {
		for k := range weights {
			weights[k] = anyWeight(r)
		}
	}
	return room
}

func anyWeight(r *rand.Rand) float32 {
	if r.IntN(8) == 0 {
		return weightsAtLimits()[r.IntN(9)]
	}
	return narrow(nearOne(r))
}

func weightsAtLimits() []float32 {
	return []float32{0, narrow(negativeZero), 1, -1, leastSingle, -leastSingle, 0x1p-75, impl.MaxWeight, -impl.MaxWeight}
}

func wrongWeights() []float32 {
	return []float32{oneOver(16), -oneOver(16), 17, -greatestSingle, float32(inf), float32(-inf), float32(nan)}
}

// wrongPlaces are no places of a room that has that many.
func wrongPlaces(places int) []int {
	return []int{-1, math.MinInt, places, places + 1, impl.MaxPlaces, 1 << 32, math.MaxInt}
}

// wrongRooms breaks each condition for rooms, at the first, a middle or the last
// place; the modes are those of a valid body at the end.
func wrongRooms() []impl.Room {
	var list []impl.Room
	for _, b := range wrongBodies() {
		list = append(list, roomOf(b), evenRoom(b, 1, 1), evenRoom(b, impl.MaxPlaces, 0))
	}
	good, pair := []float32{1, 1}, distinctModes(2)
	bad := [][]float32{nil, {1}, {1, 1, 1}, {0, 0, 0, 0}}
	for _, weight := range wrongWeights() {
		bad = append(bad, []float32{weight, 1}, []float32{1, weight})
	}
	for _, weights := range bad {
		list = append(list, roomOf(pair, weights), roomOf(pair, weights, good, good),
			roomOf(pair, good, weights, good), roomOf(pair, good, good, weights))
	}
	return append(list,
		evenRoom(impl.Body{}, impl.MaxPlaces+1, 0), evenRoom(pair, impl.MaxPlaces+1, 1), evenRoom(pair, 1000, 1),
		roomOf(impl.Body{}, []float32{0}), roomOf(impl.Body{}, nil, nil, []float32{1}))
}

func copyRoom(r impl.Room) impl.Room {
	kept := impl.Room{Modes: slices.Clone(r.Modes)}
	for _, weights := range r.Shapes {
		kept.Shapes = append(kept.Shapes, slices.Clone(weights))
	}
	return kept
}

func sameRoom(a, b impl.Room) bool {
	if len(a.Shapes) != len(b.Shapes) || !sameBody(impl.Body{Modes: a.Modes}, impl.Body{Modes: b.Modes}) {
		return false
	}
	for p := range a.Shapes {
		if !sameAs(a.Shapes[p], b.Shapes[p]) {
			return false
		}
	}
	return true
}

func wantRoom(r impl.Room) bool {
	if wrong(impl.Body{Modes: r.Modes}) || len(r.Shapes) > 16 {
		return false
	}
	for _, weights := range r.Shapes {
		if len(weights) != len(r.Modes) {
			return false
		}
		for _, weight := range weights {
			if !finitePart(float64(weight)) || weight > 16 || weight < -16 {
				return false
			}
		}
	}
	return true
}

// isIn reports whether the room is valid and has all these places.
func isIn(r impl.Room, places ...int) bool {
	for _, place := range places {
		if place < 0 || place > len(r.Shapes)-1 {
			return false
		}
	}
	return wantRoom(r)
}

func wantScaled(gain complex64, weight float32) complex64 {
	return complex(productSingle(real(gain), weight), productSingle(imag(gain), weight))
}

func wantRoomBody(r impl.Room, source, ear int) (impl.Body, bool) {
	if !isIn(r, source, ear) {
		return impl.Body{}, false
	}
	b := impl.Body{}
	for k, m := range r.Modes {
		m.Gain = wantScaled(m.Gain, productSingle(r.Shapes[source][k], r.Shapes[ear][k]))
		b.Modes = append(b.Modes, m)
	}
	if wrong(b) {
		return impl.Body{}, false
	}
	return b, true
}

func wantRingRoom(r impl.Room, source, ear int, input []float32, n int) ([]float32, bool) {
	b, ok := wantRoomBody(r, source, ear)
	if !ok || n < 0 || n > 2000 {
		return nil, false
	}
	return wantRing(b, input, n), true
}

func TestP10LimitsOfRooms(t *testing.T) {
	if impl.MaxPlaces != 16 || impl.MaxWeight != 16 {
		t.Errorf("MaxPlaces is %d, MaxWeight %d", impl.MaxPlaces, impl.MaxWeight)
	}
}

func TestP10ValidRooms(t *testing.T) {
	for _, modes := range []int{0, 1, 2, impl.MaxModes} {
		for _, places := range []int{0, 1, 2, impl.MaxPlaces} {
			for _, weight := range weightsAtLimits() {
				if room := evenRoom(distinctModes(modes), places, weight); !impl.IsRoom(room) {
					t.Errorf("%v is not valid", room)
				}
			}
		}
	}
	if !impl.IsRoom(impl.Room{Modes: []impl.Mode{}, Shapes: [][]float32{{}, nil, {}}}) {
		t.Error("a room of places without weights is not valid")
	}
	for _, room := range wrongRooms() {
		if impl.IsRoom(room) {
			t.Errorf("%v is valid", room)
		}
	}
}

func TestP10ValidRoomsOfAnyWeights(t *testing.T) {
	r := newRandom()
	valid := 0
	for range 2000 {
		room := anyRoom(r, r.IntN(impl.MaxModes+2), r.IntN(impl.MaxPlaces+2))
		if len(room.Shapes) > 0 && r.IntN(2) == 0 {
			place := r.IntN(len(room.Shapes))
			room.Shapes[place] = wildSamples(r, max(0, len(room.Modes)-r.IntN(2)))
		}
		if impl.IsRoom(room) != wantRoom(room) {
			t.Fatalf("IsRoom of %v is not %v", room, wantRoom(room))
		}
		if wantRoom(room) {
			valid++
		}
	}
	if valid < 500 || valid > 1500 {
		t.Errorf("%d of 2000 are valid", valid)
	}
}

func checkRoomBody(t *testing.T, r impl.Room, source, ear int) bool {
	t.Helper()
	want, valid := wantRoomBody(r, source, ear)
	b, ok := impl.RoomBody(r, source, ear)
	if ok != valid || !sameBody(b, want) {
		t.Fatalf("RoomBody of %v from %d to %d: %v %v, want %v %v", r, source, ear, b, ok, want, valid)
	}
	return ok
}

func TestP4RoomBodies(t *testing.T) {
	r := newRandom()
	valid, failed := 0, 0
	for range 200 {
		room := anyRoom(r, r.IntN(impl.MaxModes+1), r.IntN(6))
		for source := range room.Shapes {
			for ear := range room.Shapes {
				if checkRoomBody(t, room, source, ear) {
					valid++
				} else {
					failed++
				}
			}
		}
	}
	if valid < 50 || failed < 50 {
		t.Errorf("%d are valid, %d fail", valid, failed)
	}
	whole := anyRoom(r, impl.MaxModes, impl.MaxPlaces)
	for source := range whole.Shapes {
		checkRoomBody(t, whole, source, impl.MaxPlaces-1)
	}
	for _, source := range weightsAtLimits() {
		for _, ear := range weightsAtLimits() {
			for _, gain := range []complex64{0, 1, complex(-3, 0.1), complex(narrow(negativeZero), 1024), complex(0, -4)} {
				room := roomOf(bodyOf(impl.Mode{Pole: 0.5, Gain: gain}), []float32{source}, []float32{ear})
				checkRoomBody(t, room, 0, 1)
				checkRoomBody(t, room, 1, 1)
			}
		}
	}
}

func TestP4RoomBodiesByHand(t *testing.T) {
	minus, justOver, justUnder := narrow(negativeZero), oneOver(1), float32(1-0x1p-23)
	for _, c := range []struct {
		gain        complex64
		source, ear float32
		want        complex64
	}{
		{complex(3, -2), 1, 1, complex(3, -2)},
		{complex(3, -2), 0.5, 4, complex(6, -4)},
		{complex(3, -2), -1, 1, complex(-3, 2)},
		{complex(3, -2), -1, -1, complex(3, -2)},
		{complex(3, -2), 0, 1, complex(0, minus)},
		{complex(3, -2), minus, 1, complex(minus, 0)},
		{complex(3, -2), 0, minus, complex(minus, 0)},
		{complex(3, -2), minus, -16, complex(0, minus)},
		{complex(minus, 0), 1, -1, complex(0, minus)},
		// Gains just within MaxGain.
		{4, 16, 16, 1024},
		{complex(0, 4), 16, -16, complex(minus, -1024)},
		{complex(-4, -4), -16, -16, complex(-1024, -1024)},
		{complex(1024, 1024), justOver, justUnder, complex(1024, 1024)},
		{complex(64, -64), 16, 1, complex(1024, -1024)},
		// The product of the weights comes first, in single precision: 2^-75
		// squared is 0.
		{1024, 0x1p-75, 0x1p-75, 0},
		{1024, 0x1p-75, 0x1p-74, 1024 * leastSingle},
		{1024, 0x1.8p-75, 0x1p-75, 1024 * leastSingle}, // three quarters of the least number
		{3, 1 + 0x1p-12, 1 + 0x1p-12, 3 + 0x3p-11},
	} {
		room := roomOf(bodyOf(impl.Mode{Pole: complex(0.5, -0.25), Gain: c.gain}), []float32{9}, []float32{c.source}, []float32{c.ear})
		want := bodyOf(impl.Mode{Pole: complex(0.5, -0.25), Gain: c.want})
		if b, ok := impl.RoomBody(room, 1, 2); !ok || !sameBody(b, want) {
			t.Errorf("RoomBody of %v: %v %v, want %v", room, b, ok, want)
		}
	}
	pair := roomOf(distinctModes(2), []float32{1, 2}, []float32{4, 8}, []float32{-0.5, 0})
	for _, c := range []struct {
		source, ear   int
		first, second complex64
	}{
		{0, 0, 1, complex(4, 4)},
		{0, 1, 4, complex(16, 16)},
		{1, 0, 4, complex(16, 16)},
		{1, 1, 16, complex(64, 64)},
		{2, 1, complex(-2, minus), 0},
		{0, 2, complex(-0.5, minus), 0},
		{2, 2, 0.25, 0},
	} {
		want := distinctModes(2)
		want.Modes[0].Gain, want.Modes[1].Gain = c.first, c.second
		if b, ok := impl.RoomBody(pair, c.source, c.ear); !ok || !sameBody(b, want) {
			t.Errorf("RoomBody from %d to %d: %v %v, want %v", c.source, c.ear, b, ok, want)
		}
	}
	for _, places := range []int{1, impl.MaxPlaces} {
		if b, ok := impl.RoomBody(evenRoom(impl.Body{}, places, 0), places-1, 0); !ok || len(b.Modes) != 0 {
			t.Errorf("RoomBody of a room without modes: %v %v", b, ok)
		}
	}
}

// loudRooms are valid, but a gain grows beyond MaxGain from place 0 to place 1.
func loudRooms() []impl.Room {
	var list []impl.Room
	for _, c := range []struct {
		gain        complex64
		source, ear float32
	}{
		{complex(oneOver(4), 0), 16, 16},
		{complex(0, -oneOver(4)), 16, -16},
		{1024, oneOver(1), 1},
		{complex(1, -1024), 1, oneOver(1)},
		{complex(1024, 1024), -16, -16},
		{1000, 16, -0.125},
	} {
		loud, quiet := impl.Mode{Pole: 0.5, Gain: c.gain}, impl.Mode{Pole: 0.5, Gain: 1}
		list = append(list,
			roomOf(bodyOf(loud), []float32{c.source}, []float32{c.ear}),
			roomOf(bodyOf(loud, quiet), []float32{c.source, 1}, []float32{c.ear, 1}),
			roomOf(bodyOf(quiet, quiet, loud), []float32{0, 0, c.source}, []float32{0, 0, c.ear}))
	}
	return list
}

func TestP10RoomsThatFail(t *testing.T) {
	refuse := func(r impl.Room, source, ear, n int) {
		if outputs, ok := impl.RingRoom(r, source, ear, []float32{1}, n); ok || len(outputs) != 0 {
			t.Errorf("RingRoom of %v from %d to %d for %d steps: %v %v", r, source, ear, n, outputs, ok)
		}
	}
	refuseAll := func(r impl.Room, source, ear int) {
		if b, ok := impl.RoomBody(r, source, ear); ok || len(b.Modes) != 0 {
			t.Errorf("RoomBody of %v from %d to %d: %v %v", r, source, ear, b, ok)
		}
		refuse(r, source, ear, 3)
		refuse(r, source, ear, 0)
	}
	for _, room := range wrongRooms() {
		refuseAll(room, 0, 0)
		refuseAll(room, 0, 1)
	}
	for _, room := range loudRooms() {
		if !impl.IsRoom(room) {
			t.Errorf("%v is not valid", room)
		}
		refuseAll(room, 0, 1)
		refuseAll(room, 1, 0)
	}
	for _, modes := range []int{0, 2} {
		for _, places := range []int{0, 1, 3, impl.MaxPlaces} {
			room := evenRoom(distinctModes(modes), places, 1)
			for _, place := range wrongPlaces(places) {
				refuseAll(room, place, 0)
				refuseAll(room, 0, place)
				refuseAll(room, place, place)
			}
		}
		for _, n := range wrongSteps() {
			refuse(evenRoom(distinctModes(modes), 2, 1), 0, 1, n)
		}
	}
}

func checkRingRoom(t *testing.T, r impl.Room, source, ear int, input []float32, n int) {
	t.Helper()
	want, valid := wantRingRoom(r, source, ear, input, n)
	outputs, ok := impl.RingRoom(r, source, ear, input, n)
	if ok != valid || !sameAs(outputs, want) {
		t.Fatalf("RingRoom of %v from %d to %d by %v for %d steps: %v %v, want %v %v", r, source, ear, input, n, outputs, ok, want, valid)
	}
}

func TestP4RingingRooms(t *testing.T) {
	r := newRandom()
	for range 300 {
		places := 1 + r.IntN(5)
		room, n := anyRoom(r, r.IntN(5), places), r.IntN(20)
		checkRingRoom(t, room, r.IntN(places), r.IntN(places), anyInput(r, r.IntN(2*n+2)), n)
		checkRingRoom(t, room, r.IntN(places), r.IntN(places), wildSamples(r, 4), 6)
	}
	for _, n := range []int{0, 1, impl.MaxSamples} {
		checkRingRoom(t, evenRoom(distinctModes(3), impl.MaxPlaces, 0.3), 2, impl.MaxPlaces-1, anyInput(r, 5), n)
		checkRingRoom(t, evenRoom(impl.Body{}, 1, 0), 0, 0, anyInput(r, 5), n)
	}
	checkRingRoom(t, evenRoom(distinctModes(impl.MaxModes), 1, 0.7), 0, 0, anyInput(r, 50), 50)
}

func TestP4RingingRoomsByHand(t *testing.T) {
	endless, noNumber := float32(inf), float32(nan)
	half := roomOf(bodyOf(impl.Mode{Pole: 0.5, Gain: 2}), []float32{1}, []float32{0.5}, []float32{0}, []float32{-3})
	for _, c := range []struct {
		source, ear int
		input       []float32
		n           int
		want        []float32
	}{
		{0, 1, []float32{1}, 3, []float32{1, 0.5, 0.25}},
		{0, 0, []float32{1}, 3, []float32{2, 1, 0.5}},
		{1, 1, []float32{1, 4}, 3, []float32{0.5, 2.25, 1.125}},
		{3, 0, []float32{1, 4, 9}, 2, []float32{-6, -27}},
		{3, 3, []float32{1}, 1, []float32{18}},
		{2, 3, []float32{1, 5}, 3, []float32{0, 0, 0}},
		{2, 0, []float32{endless}, 1, []float32{noNumber}},
		{0, 1, []float32{endless}, 1, []float32{endless}},
		{0, 0, nil, 2, []float32{0, 0}},
		{0, 0, []float32{1}, 0, nil},
	} {
		if outputs, ok := impl.RingRoom(half, c.source, c.ear, c.input, c.n); !ok || !sameAs(outputs, c.want) {
			t.Errorf("RingRoom from %d to %d by %v for %d steps: %v %v, want %v", c.source, c.ear, c.input, c.n, outputs, ok, c.want)
		}
	}
}

func TestP4SourceAndEarExchanged(t *testing.T) {
	r := newRandom()
	for range 100 {
		room, input := anyRoom(r, r.IntN(6), 1+r.IntN(4)), anyInput(r, 10)
		if shared, ok := impl.ShareModes(room, anyRoom(r, r.IntN(4), 2), r.Float32()); ok && r.IntN(2) == 0 {
			room = shared
		}
		for source := range room.Shapes {
			for ear := range room.Shapes {
				there, ok := impl.RingRoom(room, source, ear, input, 30)
				back, backOK := impl.RingRoom(room, ear, source, input, 30)
				if ok != backOK || !sameAs(there, back) {
					t.Fatalf("RingRoom of %v from %d to %d: %v %v, but back: %v %v", room, source, ear, there, ok, back, backOK)
				}
			}
		}
	}
}
