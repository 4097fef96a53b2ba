package tests

import (
	"fmt"
	"math"
	"slices"
	"testing"

	"loop.example/g03222/impl"
)

// Scores whose samples are told by hand. The bodies 0 and 1 hold what they are
// struck by (1 holds 16 times as much), 2 has no modes, and 3 loses half of it at
// each step; no finite sample reaches the ceiling. So a sample tells which voices
// play.

func handScore(length, voices int, events ...impl.Event) impl.Score {
	return impl.Score{
		Length: length, Voices: voices, Ceiling: greatestSingle, Events: events,
		Bodies: []impl.Body{bodyOf(impl.Mode{Pole: 1, Gain: 1}), bodyOf(impl.Mode{Pole: 1, Gain: 16}), {}, bodyOf(impl.Mode{Pole: 0.5, Gain: 1})},
	}
}

func hit(at, body int, force float32) impl.Event { return shaped(at, body, impl.ShapeClick, 1, force) }

func shaped(at, body, shape, count int, force float32) impl.Event {
	return impl.Event{At: at, Kind: impl.EventStrike, Body: body, Shape: shape, Count: count, Force: force}
}

func damp(at, body int, force float32) impl.Event {
	return impl.Event{At: at, Kind: impl.EventDamp, Body: body, Force: force}
}

func stop(at, body int) impl.Event {
	return impl.Event{At: at, Kind: impl.EventStop, Body: body}
}

func eventsOf(events ...impl.Event) []impl.Event { return events }

type playingByHand struct {
	length, voices int
	events         []impl.Event
	samples        []float32
	bodies         string // the bodies of the voices, sample by sample
}

// checkByHand checks also what the other tests lean on.
func checkByHand(t *testing.T, list []playingByHand) {
	t.Helper()
	r := newRandom()
	for _, c := range list {
		s := handScore(c.length, c.voices, c.events...)
		if h := checkPlaying(t, s, r); !sameAs(h.samples, c.samples) {
			t.Errorf("%v: %v, want %v", c.events, h.samples, c.samples)
		}
		if samples, ok := impl.RenderScore(s); !ok || !sameAs(samples, c.samples) {
			t.Errorf("RenderScore of %v: %v %v, want %v", c.events, samples, ok, c.samples)
		}
		bodies := ""
		for at := range c.length {
			list, _ := impl.VoicesAt(s, at)
			bodies += fmt.Sprint(list)
		}
		if bodies != c.bodies {
			t.Errorf("VoicesAt of %v: %s, want %s", c.events, bodies, c.bodies)
		}
	}
}

func TestP10ScoresWithLittleInThem(t *testing.T) {
	checkByHand(t, []playingByHand{
		{0, 1, nil, nil, ""},
		{0, 8, eventsOf(hit(0, 0, 1), damp(0, 0, 0.5), stop(0, 0)), nil, ""},
		{1, 1, nil, []float32{0}, "[]"},
		{3, 8, eventsOf(), []float32{0, 0, 0}, "[][][]"},
		{1, 1, eventsOf(hit(0, 0, 3)), []float32{3}, "[0]"},
		{1, 1, eventsOf(hit(1, 0, 3)), []float32{0}, "[]"},
		{2, 1, eventsOf(hit(0, 2, 3)), []float32{0, 0}, "[2][2]"},
		{2, 1, eventsOf(damp(0, 2, 0.5), stop(1, 2), stop(1, 1)), []float32{0, 0}, "[][]"},
		// Events at the last sample happen, those at Length and above it do not.
		{3, 2, eventsOf(hit(2, 1, 1)), []float32{0, 0, 16}, "[][][1]"},
		{3, 2, eventsOf(hit(3, 1, 1), hit(2000, 0, 1)), []float32{0, 0, 0}, "[][][]"},
		{3, 2, eventsOf(hit(0, 0, 1), stop(3, 0), damp(3, 0, 0)), []float32{1, 1, 1}, "[0][0][0]"},
		{3, 2, eventsOf(hit(0, 0, 1), stop(2, 0), damp(2, 0, 0)), []float32{1, 1, 0}, "[0][0][]"},
		{3, 2, eventsOf(stop(2, 0), hit(0, 0, 1)), []float32{1, 1, 0}, "[0][0][]"},
	})
	for _, s := range []impl.Score{
		{Voices: 1, Ceiling: 1},
		{Length: 1, Voices: 1, Ceiling: 1},
		{Length: impl.MaxSamples, Voices: 8, Ceiling: leastSingle, Release: 1},
		{Length: 2, Voices: 1, Ceiling: greatestSingle, Bodies: make([]impl.Body, 8)},
	} {
		if h := checkPlaying(t, s, newRandom()); slices.ContainsFunc(h.samples, func(x float32) bool { return !sameSingle(x, 0) }) {
			t.Errorf("%v does not play zeros: %v", s, h.samples)
		}
	}
}

func TestP10EventsByHand(t *testing.T) {
	minus := narrow(negativeZero)
	checkByHand(t, []playingByHand{
		// Strikes
		{4, 8, eventsOf(hit(1, 0, 1), hit(2, 1, 1)), []float32{0, 1, 17, 17}, "[][0][0 1][0 1]"},
		{3, 8, eventsOf(hit(1, 0, 0)), []float32{0, 0, 0}, "[][0][0]"},
		{3, 8, eventsOf(hit(1, 0, minus)), []float32{0, 0, 0}, "[][0][0]"},
		{3, 8, eventsOf(hit(0, 0, minus), hit(1, 0, -2)), []float32{0, -2, -2}, "[0][0 0][0 0]"},
		{4, 8, eventsOf(shaped(0, 0, impl.ShapeRamp, 2, 4)), []float32{2, 6, 6, 6}, "[0][0][0][0]"},
		{4, 8, eventsOf(shaped(1, 3, impl.ShapeArch, 2, 4)), []float32{0, 3, 4.5, 2.25}, "[][3][3][3]"},
		{3, 8, eventsOf(shaped(1, 3, impl.ShapeRamp, 4, 4)), []float32{0, 1, 2.5}, "[][3][3]"}, // the Input goes on behind Length
		{4, 8, eventsOf(shaped(0, 0, impl.ShapeClick, 64, 4)), []float32{4, 4, 4, 4}, "[0][0][0][0]"},
		// Damps
		{4, 8, eventsOf(hit(0, 0, 8), damp(1, 0, 0.5)), []float32{8, 4, 2, 1}, "[0][0][0][0]"},
		{4, 8, eventsOf(hit(0, 0, 8), damp(0, 0, 0.5)), []float32{8, 4, 2, 1}, "[0][0][0][0]"},
		{4, 8, eventsOf(damp(0, 0, 0.5), hit(0, 0, 8)), []float32{8, 8, 8, 8}, "[0][0][0][0]"},
		{4, 8, eventsOf(hit(1, 0, 8), damp(0, 0, 0.5)), []float32{0, 8, 8, 8}, "[][0][0][0]"},
		{4, 8, eventsOf(hit(0, 0, 8), damp(1, 0, 0)), []float32{8, 0, 0, 0}, "[0][0][0][0]"},
		{4, 8, eventsOf(hit(0, 0, 8), damp(1, 0, minus)), []float32{8, 0, 0, 0}, "[0][0][0][0]"},
		{4, 8, eventsOf(hit(0, 0, 8), damp(1, 0, 1)), []float32{8, 8, 8, 8}, "[0][0][0][0]"},
		{4, 8, eventsOf(hit(0, 0, 8), damp(1, 0, 0.5), damp(2, 0, 0.5)), []float32{8, 4, 1, 0.25}, "[0][0][0][0]"},
		{4, 8, eventsOf(hit(0, 0, 8), damp(1, 0, 0.5), damp(1, 0, 0.5)), []float32{8, 2, 0.5, 0.125}, "[0][0][0][0]"},
		{4, 8, eventsOf(hit(0, 0, 8), damp(1, 0, 0), damp(2, 0, 1)), []float32{8, 0, 0, 0}, "[0][0][0][0]"},
		{3, 8, eventsOf(shaped(0, 0, impl.ShapeRamp, 2, 4), damp(1, 0, 0)), []float32{2, 4, 0}, "[0][0][0]"}, // the Gain is not damped
		// A damp is for the voices of its body, not for those that begin behind it.
		{4, 8, eventsOf(hit(0, 0, 8), hit(0, 1, 8), hit(0, 0, 16), damp(1, 0, 0.5)), []float32{152, 140, 134, 131}, "[0 1 0][0 1 0][0 1 0][0 1 0]"},
		{4, 8, eventsOf(hit(0, 0, 8), hit(0, 1, 8), hit(0, 0, 16), damp(1, 1, 0.5)), []float32{152, 88, 56, 40}, "[0 1 0][0 1 0][0 1 0][0 1 0]"},
		{4, 8, eventsOf(hit(0, 0, 8), damp(1, 0, 0.5), hit(1, 0, 32)), []float32{8, 36, 34, 33}, "[0][0 0][0 0][0 0]"},
		{3, 8, eventsOf(hit(0, 0, 8), damp(1, 1, 0), damp(1, 2, 0), damp(1, 3, 0)), []float32{8, 8, 8}, "[0][0][0]"},
		// Stops
		{4, 8, eventsOf(hit(0, 0, 8), stop(2, 0)), []float32{8, 8, 0, 0}, "[0][0][][]"},
		{4, 8, eventsOf(hit(0, 0, 8), stop(2, 0), hit(3, 0, 4)), []float32{8, 8, 0, 4}, "[0][0][][0]"},
		{3, 8, eventsOf(hit(0, 0, 8), hit(1, 1, 1), hit(1, 0, 4), hit(1, 3, 32), hit(1, 0, 2), stop(2, 0)), []float32{8, 62, 32}, "[0][0 1 0 3 0][1 3]"},
		{3, 8, eventsOf(hit(0, 1, 1), hit(0, 0, 4), hit(0, 1, 2), stop(1, 0)), []float32{52, 48, 48}, "[1 0 1][1 1][1 1]"},
		{3, 8, eventsOf(hit(0, 0, 8), stop(1, 1), stop(1, 2), stop(2, 3)), []float32{8, 8, 8}, "[0][0][0]"},
		{3, 8, eventsOf(hit(0, 0, 8), stop(0, 0)), []float32{0, 0, 0}, "[][][]"},
		{3, 8, eventsOf(stop(0, 0), hit(0, 0, 8)), []float32{8, 8, 8}, "[0][0][0]"},
		{3, 8, eventsOf(hit(1, 0, 8), stop(1, 0), hit(1, 0, 4)), []float32{0, 4, 4}, "[][0][0]"},
		// A damp of a voice that is stopped is of no consequence for the next one.
		{4, 8, eventsOf(hit(0, 0, 8), damp(1, 0, 0), stop(2, 0), hit(2, 0, 4)), []float32{8, 0, 4, 4}, "[0][0][0][0]"},
	})
}

func TestP8VoicesByHand(t *testing.T) {
	checkByHand(t, []playingByHand{
		{4, 1, eventsOf(hit(0, 0, 1), hit(2, 0, 2)), []float32{1, 1, 2, 2}, "[0][0][0][0]"},
		{4, 1, eventsOf(hit(0, 0, 1), hit(2, 1, 2)), []float32{1, 1, 32, 32}, "[0][0][1][1]"},
		{4, 1, eventsOf(hit(1, 0, 1), hit(1, 1, 1), hit(1, 0, 2)), []float32{0, 2, 2, 2}, "[][0][0][0]"},
		{4, 2, eventsOf(hit(0, 0, 1), hit(1, 0, 2), hit(2, 0, 4)), []float32{1, 3, 6, 6}, "[0][0 0][0 0][0 0]"},
		{4, 2, eventsOf(hit(1, 0, 1), hit(1, 0, 2), hit(1, 0, 4), hit(1, 0, 8), hit(3, 1, 1)), []float32{0, 12, 12, 24}, "[][0 0][0 0][0 1]"},
		{4, 3, eventsOf(hit(0, 0, 1), hit(1, 0, 2), hit(2, 0, 4)), []float32{1, 3, 7, 7}, "[0][0 0][0 0 0][0 0 0]"},
		// A voice without modes counts, and so does one that is silent.
		{3, 2, eventsOf(hit(0, 0, 1), hit(0, 2, 1), hit(1, 2, 1)), []float32{1, 0, 0}, "[0 2][2 2][2 2]"},
		{3, 2, eventsOf(hit(0, 0, 1), hit(0, 0, 0), hit(1, 0, 4), hit(2, 0, 8)), []float32{1, 4, 12}, "[0 0][0 0][0 0]"},
		// A voice is removed with its Input.
		{4, 1, eventsOf(shaped(0, 0, impl.ShapeRamp, 4, 4), hit(2, 0, 16)), []float32{1, 3, 16, 16}, "[0][0][0][0]"},
		// What is stopped makes room.
		{4, 2, eventsOf(hit(0, 0, 1), hit(0, 1, 1), stop(1, 0), hit(1, 0, 2), hit(3, 0, 4)), []float32{17, 18, 18, 6}, "[0 1][1 0][1 0][0 0]"},
		{4, 2, eventsOf(hit(0, 0, 1), hit(0, 1, 1), hit(1, 0, 2), stop(1, 0)), []float32{17, 16, 16, 16}, "[0 1][1][1][1]"},
		{4, 2, eventsOf(hit(0, 0, 1), hit(0, 1, 1), stop(1, 1), hit(1, 0, 2), hit(2, 0, 4)), []float32{17, 3, 6, 6}, "[0 1][0 0][0 0][0 0]"},
		{2, 8, eventsOf(hit(0, 0, 1), hit(0, 0, 2), hit(0, 0, 4), hit(0, 0, 8), hit(0, 0, 16), hit(0, 0, 32), hit(0, 0, 64), hit(0, 0, 128)),
			[]float32{255, 255}, "[0 0 0 0 0 0 0 0][0 0 0 0 0 0 0 0]"},
		{2, 8, eventsOf(hit(0, 0, 1), hit(0, 0, 2), hit(0, 0, 4), hit(0, 0, 8), hit(0, 0, 16), hit(0, 0, 32), hit(0, 0, 64), hit(0, 0, 128), hit(1, 0, 256)),
			[]float32{255, 510}, "[0 0 0 0 0 0 0 0][0 0 0 0 0 0 0 0]"},
		{2, 8, eventsOf(hit(0, 1, 1), hit(0, 1, 2), hit(0, 0, 4), hit(0, 0, 8), hit(0, 0, 16), hit(0, 0, 32), hit(0, 0, 64), hit(0, 0, 128), hit(0, 3, 256), hit(1, 3, 512)),
			[]float32{252 + 256 + 32, 252 + 128 + 512}, "[1 0 0 0 0 0 0 3][0 0 0 0 0 0 3 3]"},
	})
}

func TestP10OutputsThatAreNotFinite(t *testing.T) {
	noNumber, endless := float32(nan), float32(inf)
	most := float32(math.MaxFloat32)
	checkByHand(t, []playingByHand{
		// An infinite state has a part that is NaN at the next step, and is NaN itself
		// behind that. The limiter divides infinity by infinity, and from then on, its
		// envelope is NaN.
		{3, 8, eventsOf(hit(0, 1, most)), []float32{noNumber, endless, noNumber}, "[1][1][1]"},
		{3, 8, eventsOf(hit(1, 1, 0x1p127), hit(2, 0, 1)), []float32{0, noNumber, endless}, "[][1][1 0]"},
		{3, 8, eventsOf(hit(1, 1, 0x1p127), stop(2, 1), hit(2, 0, 1)), []float32{0, noNumber, 1}, "[][1][0]"},
		// Voices whose sum overflows, though they do not; whether it does depends on
		// their order.
		{3, 8, eventsOf(hit(0, 0, 0x1p127), hit(1, 0, 0x1p127)), []float32{0x1p127, noNumber, endless}, "[0][0 0][0 0]"},
		{3, 8, eventsOf(hit(1, 0, most), hit(1, 0, most), hit(1, 0, -most)), []float32{0, noNumber, endless}, "[][0 0 0][0 0 0]"},
		{3, 8, eventsOf(hit(1, 0, most), hit(1, 0, -most), hit(1, 0, most)), []float32{0, most, most}, "[][0 0 0][0 0 0]"},
		{3, 8, eventsOf(hit(1, 0, most), hit(1, 0, -most), hit(1, 0, 1)), []float32{0, 1, 1}, "[][0 0 0][0 0 0]"},
		{3, 8, eventsOf(hit(1, 0, 1), hit(1, 0, most), hit(1, 0, -most)), []float32{0, 0, 0}, "[][0 0 0][0 0 0]"},
		{3, 8, eventsOf(hit(1, 0, -1), hit(1, 0, 1)), []float32{0, 0, 0}, "[][0 0][0 0]"},
		{3, 8, eventsOf(hit(0, 0, 0x1p24), hit(0, 0, 1), hit(0, 0, 1)), []float32{0x1p24, 0x1p24, 0x1p24}, "[0 0 0][0 0 0][0 0 0]"},
		{3, 8, eventsOf(hit(0, 0, 1), hit(0, 0, 1), hit(0, 0, 0x1p24)), []float32{0x1p24 + 2, 0x1p24 + 2, 0x1p24 + 2}, "[0 0 0][0 0 0][0 0 0]"},
	})
}
