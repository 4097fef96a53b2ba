package tests

import (
	"slices"
	"testing"

	"loop.example/g03222/impl"
)

// wantShared finds each weight by itself, from its place and its mode.
func wantShared(a, b impl.Room, door float32) (impl.Room, bool) {
	if !isIn(a, 0) || !isIn(b, 0) {
		return impl.Room{}, false
	}
	shared := evenRoom(impl.Body{Modes: slices.Concat(a.Modes, b.Modes)}, len(a.Shapes)+len(b.Shapes), 0)
	for p, weights := range shared.Shapes {
		for k := range weights {
			own, place, mode := a, p, k
			if k >= len(a.Modes) {
				own, place, mode = b, p-len(a.Shapes), k-len(a.Modes)
			}
			if place >= 0 && place < len(own.Shapes) {
				weights[k] = own.Shapes[place][mode]
			} else {
				weights[k] = productSingle(door, own.Shapes[0][mode])
			}
		}
	}
	if !wantRoom(shared) {
		return impl.Room{}, false
	}
	return shared, true
}

func checkShared(t *testing.T, a, b impl.Room, door float32) bool {
	t.Helper()
	want, valid := wantShared(a, b, door)
	shared, ok := impl.ShareModes(a, b, door)
	if ok != valid || !sameRoom(shared, want) {
		t.Fatalf("ShareModes of %v and %v by a door of %v: %v %v, want %v %v", a, b, door, shared, ok, want, valid)
	}
	return ok
}

func doors() []float32 { return append(specialSingles(), 16, -16, 0.3, -1.5, 2) }

func TestP4SharedRooms(t *testing.T) {
	r := newRandom()
	for _, door := range doors() {
		for _, aModes := range []int{0, 1, 5, 8} {
			for _, bModes := range []int{0, 1, 8} {
				checkShared(t, anyRoom(r, aModes, 1+r.IntN(8)), anyRoom(r, bModes, 1+r.IntN(8)), door)
				checkShared(t, anyRoom(r, aModes, 1), anyRoom(r, bModes, 1), door)
			}
		}
	}
	valid, failed := 0, 0
	for range 500 {
		a := anyRoom(r, r.IntN(impl.MaxModes+1), 1+r.IntN(10))
		if checkShared(t, a, anyRoom(r, r.IntN(10), 1+r.IntN(10)), narrow(nearOne(r))) {
			valid++
		} else {
			failed++
		}
	}
	if valid < 100 || failed < 100 {
		t.Errorf("%d rooms are shared, %d are not", valid, failed)
	}
}

func TestP4SharedRoomsByHand(t *testing.T) {
	minus, endless, noNumber := narrow(negativeZero), float32(inf), float32(nan)
	mode := func(pole, gain complex64) impl.Mode { return impl.Mode{Pole: pole, Gain: gain} }
	a := roomOf(bodyOf(mode(0.5, 1), mode(0.25, 2)), []float32{1, 2}, []float32{3, minus})
	b := roomOf(bodyOf(mode(0.5, 3)), []float32{-4}, []float32{5}, []float32{16})
	both := bodyOf(mode(0.5, 1), mode(0.25, 2), mode(0.5, 3)) // modes of the same pole stay apart
	none := evenRoom(impl.Body{}, 2, 0)
	for _, c := range []struct {
		a, b impl.Room
		door float32
		want impl.Room
	}{
		{a, b, 0.5, roomOf(both, []float32{1, 2, -2}, []float32{3, minus, -2}, []float32{0.5, 1, -4}, []float32{0.5, 1, 5}, []float32{0.5, 1, 16})},
		{a, b, 1, roomOf(both, []float32{1, 2, -4}, []float32{3, minus, -4}, []float32{1, 2, -4}, []float32{1, 2, 5}, []float32{1, 2, 16})},
		{a, b, 0, roomOf(both, []float32{1, 2, minus}, []float32{3, minus, minus}, []float32{0, 0, -4}, []float32{0, 0, 5}, []float32{0, 0, 16})},
		{a, b, minus, roomOf(both, []float32{1, 2, 0}, []float32{3, minus, 0}, []float32{minus, minus, -4}, []float32{minus, minus, 5}, []float32{minus, minus, 16})},
		{a, b, -4, roomOf(both, []float32{1, 2, 16}, []float32{3, minus, 16}, []float32{-4, -8, -4}, []float32{-4, -8, 5}, []float32{-4, -8, 16})},
		{b, b, 1, roomOf(bodyOf(mode(0.5, 3), mode(0.5, 3)), []float32{-4, -4}, []float32{5, -4}, []float32{16, -4}, []float32{-4, -4}, []float32{-4, 5}, []float32{-4, 16})},
		{none, b, -1, roomOf(bodyOf(mode(0.5, 3)), []float32{4}, []float32{4}, []float32{-4}, []float32{5}, []float32{16})},
		{b, none, 4, roomOf(bodyOf(mode(0.5, 3)), []float32{-4}, []float32{5}, []float32{16}, []float32{-16}, []float32{-16})},
		// Without modes, no weight goes through the door.
		{none, none, noNumber, evenRoom(impl.Body{}, 4, 0)},
		{none, none, endless, evenRoom(impl.Body{}, 4, 0)},
		{none, none, -greatestSingle, evenRoom(impl.Body{}, 4, 0)},
		// The door may be greater than MaxWeight.
		{roomOf(bodyOf(mode(0.5, 1)), []float32{0}, []float32{7}), roomOf(bodyOf(mode(0, 1)), []float32{0x1p-123}), 0x1p127,
			roomOf(bodyOf(mode(0.5, 1), mode(0, 1)), []float32{0, 16}, []float32{7, 16}, []float32{0, 0x1p-123})},
		{roomOf(bodyOf(mode(0.5, 1)), []float32{-leastSingle}), none, 0.75,
			roomOf(bodyOf(mode(0.5, 1)), []float32{-leastSingle}, []float32{-leastSingle}, []float32{-leastSingle})},
	} {
		if shared, ok := impl.ShareModes(c.a, c.b, c.door); !ok || !sameRoom(shared, c.want) {
			t.Errorf("ShareModes of %v and %v by a door of %v: %v %v, want %v", c.a, c.b, c.door, shared, ok, c.want)
		}
	}
}

// Through a door of 0 nothing is heard, and each room answers as it did.
func TestP4ClosedDoors(t *testing.T) {
	r := newRandom()
	a, b := evenRoom(distinctModes(3), 2, 0.5), evenRoom(distinctModes(2), 3, -0.75)
	shared, ok := impl.ShareModes(a, b, 0)
	if !ok {
		t.Fatal("ShareModes fails")
	}
	input := anyInput(r, 10)
	for source := range shared.Shapes {
		for ear := range shared.Shapes {
			want := make([]float32, 20)
			if source < 2 && ear < 2 {
				want, _ = impl.RingRoom(a, source, ear, input, 20)
			} else if source >= 2 && ear >= 2 {
				want, _ = impl.RingRoom(b, source-2, ear-2, input, 20)
			}
			if outputs, ok := impl.RingRoom(shared, source, ear, input, 20); !ok || !sameAs(outputs, want) {
				t.Errorf("RingRoom from %d to %d: %v %v, want %v", source, ear, outputs, ok, want)
			}
		}
	}
}

func TestP10SharedRoomsAtTheLimits(t *testing.T) {
	for _, c := range []struct {
		aModes, aPlaces, bModes, bPlaces int
		want                             bool
	}{
		{8, 8, 8, 8, true},
		{16, 15, 0, 1, true},
		{0, 1, 16, 15, true},
		{1, 1, 15, 15, true},
		{9, 8, 8, 8, false},
		{8, 8, 9, 8, false},
		{8, 9, 8, 8, false},
		{8, 8, 8, 9, false},
		{16, 1, 1, 1, false},
		{1, 1, 16, 1, false},
		{1, 16, 1, 1, false},
		{1, 1, 1, 16, false},
		{0, 16, 0, 1, false},
		{0, 1, 0, 15, true},
		{16, 16, 16, 16, false},
	} {
		a, b := evenRoom(distinctModes(c.aModes), c.aPlaces, 16), evenRoom(distinctModes(c.bModes), c.bPlaces, -16)
		if checkShared(t, a, b, 1) != c.want || checkShared(t, a, b, -0.5) != c.want {
			t.Errorf("ShareModes of %d and %d modes, %d and %d places is not %v", c.aModes, c.bModes, c.aPlaces, c.bPlaces, c.want)
		}
	}
}

func TestP10SharingThatFails(t *testing.T) {
	refuse := func(a, b impl.Room, door float32) {
		if shared, ok := impl.ShareModes(a, b, door); ok || len(shared.Modes) != 0 || len(shared.Shapes) != 0 {
			t.Errorf("ShareModes of %v and %v by a door of %v: %v %v", a, b, door, shared, ok)
		}
	}
	none, good := evenRoom(impl.Body{}, 1, 0), evenRoom(distinctModes(2), 2, 1)
	for _, room := range wrongRooms() {
		refuse(room, none, 0)
		refuse(none, room, 0)
		refuse(room, good, 1)
		refuse(good, room, 1)
	}
	for _, empty := range []impl.Room{{}, roomOf(distinctModes(2)), {Shapes: [][]float32{}}} {
		refuse(empty, good, 1)
		refuse(good, empty, 1)
		refuse(empty, none, 0)
		refuse(none, empty, 0)
		refuse(empty, empty, 1)
	}
	for _, door := range []float32{float32(nan), float32(inf), float32(-inf), oneOver(16), -17, greatestSingle} {
		refuse(good, none, door)
		refuse(none, good, door)
		refuse(good, good, door)
	}
	// The places of the result would have one weight for each mode.
	refuse(roomOf(distinctModes(1), []float32{1, 1}), roomOf(distinctModes(2), []float32{1}), 1)
	refuse(roomOf(distinctModes(2), []float32{1}), roomOf(distinctModes(1), []float32{1, 1}), 1)
	// The door alone makes a weight too great, or no number.
	refuse(evenRoom(distinctModes(1), 1, 0), none, float32(inf))
	refuse(none, evenRoom(distinctModes(1), 1, 0), float32(nan))
	refuse(roomOf(distinctModes(3), []float32{1, 1, 8}), none, oneOver(2))
	refuse(none, roomOf(distinctModes(3), []float32{1, -8, 1}), oneOver(2))
}

// memoryOfRoom returns a room with spare capacity behind all of its slices.
func memoryOfRoom() (impl.Room, []impl.Mode, []float32) {
	modes := append(distinctModes(2).Modes, impl.Mode{Pole: 7, Gain: 7}, impl.Mode{Pole: 7, Gain: 7})
	weights := []float32{1, 2, 7, 7, 3, 4, 7, 7}
	shapes := [][]float32{weights[0:2], weights[4:6], weights[6:8]}
	return impl.Room{Modes: modes[:2], Shapes: shapes[:2]}, modes, weights
}

func TestP10RoomsKeepNothing(t *testing.T) {
	room, modes, weights := memoryOfRoom()
	other, otherModes, otherWeights := memoryOfRoom()
	before, spare := copyRoom(room), impl.Mode{Pole: 7, Gain: 7}
	input, ears := []float32{1, 2, 7}, []int{0, 1, 7}
	check := func(name string) {
		t.Helper()
		for _, kept := range [][]impl.Mode{modes, otherModes} {
			if !sameMode(kept[2], spare) || !sameMode(kept[3], spare) {
				t.Errorf("%s changes the memory behind its modes: %v", name, kept)
			}
		}
		for _, kept := range [][]float32{weights, otherWeights} {
			if !sameAs(kept, []float32{1, 2, 7, 7, 3, 4, 7, 7}) {
				t.Errorf("%s changes its weights, or the memory behind them: %v", name, kept)
			}
		}
		if !sameRoom(room, before) || !sameRoom(other, before) || !sameAs(input, []float32{1, 2, 7}) || ears[0] != 0 || ears[1] != 1 || ears[2] != 7 {
			t.Errorf("%s changes its arguments: %v, %v, %v, %v", name, room, other, input, ears)
		}
	}
	body, _ := impl.RoomBody(room, 0, 1)
	again, _ := impl.RoomBody(room, 0, 1)
	body.Modes[0] = impl.Mode{Pole: 9}
	_ = append(body.Modes, impl.Mode{Pole: 9})
	if check("RoomBody"); again.Modes[0].Pole == 9 {
		t.Error("two bodies of a room share memory")
	}
	outputs, _ := impl.RingRoom(room, 0, 1, input[:2], 2)
	outputs[0] = 9
	check("RingRoom")
	samples, _ := impl.ListenAlong(room, 0, ears[:2], input[:2])
	samples[0] = 9
	check("ListenAlong")
	impl.LoudestEar(room, 0, input[:2], 2)
	check("LoudestEar")
	impl.IsRoom(room)
	check("IsRoom")
	shared, _ := impl.ShareModes(room, other, 0.5)
	scribble(shared)
	check("ShareModes")
}

func scribble(r impl.Room) {
	r.Modes[0] = impl.Mode{Pole: 9}
	r.Modes[len(r.Modes)-1] = impl.Mode{Pole: 9}
	for _, weights := range r.Shapes {
		for k := range weights {
			weights[k] = 9
		}
		_ = append(weights, 9)
	}
}

func TestP10SharedRoomsShareNothing(t *testing.T) {
	a, none := evenRoom(distinctModes(2), 3, 1), evenRoom(impl.Body{}, 3, 0)
	for _, pair := range [][2]impl.Room{{a, a}, {a, none}, {none, a}} {
		for place := range 6 {
			shared, _ := impl.ShareModes(pair[0], pair[1], 0.5)
			kept := copyRoom(shared)
			for k := range shared.Shapes[place] {
				shared.Shapes[place][k], kept.Shapes[place][k] = 9, 9
			}
			_ = append(shared.Shapes[place], 9)
			if !sameRoom(shared, kept) || !sameRoom(a, evenRoom(distinctModes(2), 3, 1)) {
				t.Errorf("place %d of a shared room shares memory: %v, want %v", place, shared, kept)
			}
		}
	}
}
