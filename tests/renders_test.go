package tests

import (
	"math"
	"math/rand/v2"
	"slices"
	"testing"

	"loop.example/g03222/impl"
)

// livelyScore draws a score of few samples, with events at most of them, and
// levels around the ceiling.
func livelyScore(r *rand.Rand, length int) impl.Score {
	s := impl.Score{
		Length: length, Voices: 1 + r.IntN(8), Ceiling: absolute(anyLevel(r)) + leastSingle,
		Release: []float32{0, 1, 0.9, r.Float32(), r.Float32()}[r.IntN(5)],
	}
	for range 1 + r.IntN(4) {
		s.Bodies = append(s.Bodies, anyBody(r, r.IntN(4)))
	}
	for range []int{0, 1, 3, 10, 30, 60}[r.IntN(6)] {
		e := anyEvent(r, len(s.Bodies))
		if e.At = r.IntN(length + 3); e.Kind == impl.EventStrike {
			e.Count, e.Force = 1+r.IntN(1+r.IntN(64)), anyLevel(r)
		}
		if e.Kind == impl.EventStop && r.IntN(2) == 0 {
			e = hit(e.At, e.Body, anyLevel(r))
		}
		s.Events = append(s.Events, e)
	}
	return s
}

func livelyOrAnyScore(r *rand.Rand, length int) impl.Score {
	if r.IntN(3) == 0 {
		return anyScore(r)
	}
	return livelyScore(r, length)
}

func TestP1ScoresOfAnyKind(t *testing.T) {
	r := newRandom()
	voices, events := 0, 0
	for i := range 600 {
		h := checkPlaying(t, livelyScore(r, r.IntN(40)), r)
		voices, events = voices+len(h.voices), events+len(h.events)
		if i%10 == 0 {
			h := checkPlaying(t, livelyScore(r, 41+r.IntN(100)), r)
			voices, events = voices+len(h.voices), events+len(h.events)
		}
	}
	if voices < 2000 || events < 5000 {
		t.Errorf("only %d voices and %d events were played", voices, events)
	}
	for range 300 {
		// Of these, most samples are infinite or NaN.
		s := anyScore(r)
		s.Length = min(s.Length, 30)
		checkPlaying(t, s, r)
	}
}

func TestP1LongScores(t *testing.T) {
	r := newRandom()
	for range 4 {
		checkPlaying(t, livelyScore(r, impl.MaxSamples), r)
	}
	full := impl.Score{Length: impl.MaxSamples, Voices: impl.MaxVoices, Ceiling: 0.5, Release: 0.999}
	for range impl.MaxBodies {
		full.Bodies = append(full.Bodies, anyBody(r, impl.MaxModes))
	}
	for i := range impl.MaxEvents {
		full.Events = append(full.Events, shaped(i*33, i%8, i%3, 1+i, anyLevel(r)))
	}
	checkPlaying(t, full, r)
}

// All scores of up to three events, out of few kinds, at the first or the second
// one of three samples, and some of more.
func TestP1AllScoresOfFewEvents(t *testing.T) {
	r := newRandom()
	kinds := []impl.Event{hit(0, 0, 1), shaped(0, 1, impl.ShapeRamp, 2, 4), damp(0, 0, 0.5), stop(0, 0), stop(0, 1)}
	var try func(events []impl.Event)
	try = func(events []impl.Event) {
		for voices := 1; voices <= 3; voices++ {
			s := handScore(3, voices, events...)
			s.Ceiling, s.Release = 3, 0.5
			checkPlaying(t, s, r)
		}
		if len(events) == 3 {
			return
		}
		for _, e := range kinds {
			for at := range 2 {
				e.At, e.Force = at, e.Force*float32(1+len(events))
				if e.Kind == impl.EventDamp {
					e.Force = 0.5
				}
				try(append(slices.Clone(events), e))
			}
		}
	}
	try(nil)
	for range 3000 {
		var events []impl.Event
		for range 4 + r.IntN(5) {
			e := kinds[r.IntN(5)]
			e.At = r.IntN(2)
			events = append(events, e)
		}
		checkPlaying(t, handScore(3, 1+r.IntN(4), events...), r)
	}
}

// All five events of one time, in every order, on voices that play already.
func TestP10EventsOfOneTimeInEveryOrder(t *testing.T) {
	r := newRandom()
	before := []impl.Event{hit(0, 0, 1), hit(0, 1, 1), shaped(0, 3, impl.ShapeRamp, 5, 8), hit(0, 0, 2)}
	same := []impl.Event{hit(2, 0, 64), damp(2, 0, 0.5), stop(2, 0), hit(2, 1, 128), damp(2, 3, 0.25)}
	var try func(events, left []impl.Event)
	try = func(events, left []impl.Event) {
		if len(left) == 0 {
			for _, voices := range []int{1, 3, 5} {
				checkPlaying(t, handScore(5, voices, slices.Concat(before, events)...), r)
			}
		}
		for i, e := range left {
			try(append(slices.Clone(events), e), slices.Delete(slices.Clone(left), i, i+1))
		}
	}
	try(nil, same)
}

// A score is the same whether it is written and read, cut, given to workers or
// mixed; here no model of it is needed.
func TestP1AllWaysOfRendering(t *testing.T) {
	r := newRandom()
	for range 150 {
		s := livelyOrAnyScore(r, r.IntN(400))
		want, ok := impl.RenderScore(s)
		if !ok || len(want) != s.Length {
			t.Fatalf("RenderScore of %s: %v, %d samples", wantScoreText(s), ok, len(want))
		}
		read, _ := impl.ParseScore(impl.FormatScore(s))
		for workers := 1; workers <= impl.MaxWorkers; workers++ {
			if samples, ok := impl.RenderWorkers(read, workers); !ok || !sameAs(samples, want) {
				t.Fatalf("RenderWorkers of %s by %d: %v %v, want %v", wantScoreText(s), workers, samples, ok, want)
			}
			cuts := anyCuts(r, s.Length)
			if samples, ok := impl.RenderCut(read, cuts); !ok || !sameAs(samples, want) {
				t.Fatalf("RenderCut of %s by %v: %v %v, want %v", wantScoreText(s), cuts, samples, ok, want)
			}
		}
		tracks, ok := impl.RenderVoices(read)
		mix, fine := impl.MixTracks(tracks, s.Ceiling, s.Release)
		if !ok || !fine || len(tracks) > 0 && !sameAs(mix, want) || len(tracks) == 0 && len(mix) != 0 {
			t.Fatalf("MixTracks of the voices of %s: %v %v %v, want %v", wantScoreText(s), mix, ok, fine, want)
		}
	}
}

// Workers finish in any order, and the samples are the same each time.
func TestP1WorkersInEveryRun(t *testing.T) {
	r := newRandom()
	s := livelyScore(r, 60)
	s.Events = nil
	for i := range 60 {
		s.Events = append(s.Events, shaped(i/2, i%len(s.Bodies), i%3, 1+i%10, anyLevel(r)))
	}
	want := wantHeard(s)
	for i := range 300 {
		if samples, ok := impl.RenderWorkers(s, 1+i%16); !ok || !sameAs(samples, want.samples) {
			t.Fatalf("RenderWorkers by %d, run %d: %v %v, want %v", 1+i%16, i, samples, ok, want.samples)
		}
		if tracks, ok := impl.RenderVoices(s); !ok || !sameTracks(tracks, want.tracks()) {
			t.Fatalf("RenderVoices, run %d: %v %v, want %v", i, tracks, ok, want.tracks())
		}
	}
}

func TestP10NumbersOfWorkers(t *testing.T) {
	if impl.MaxWorkers != 16 || impl.MaxCuts != 100 {
		t.Errorf("MaxWorkers is %d, MaxCuts %d", impl.MaxWorkers, impl.MaxCuts)
	}
	r := newRandom()
	for _, s := range []impl.Score{
		handScore(0, 1, hit(0, 0, 1)),
		handScore(4, 8),
		handScore(4, 8, damp(1, 0, 0.5), stop(2, 1), hit(4, 0, 1)),
		handScore(4, 8, hit(1, 0, 1)),
		handScore(4, 1, hit(1, 0, 1), hit(2, 1, 1), hit(2, 3, 1)),
		handScore(4, 8, hit(1, 0, 1), hit(2, 1, 1), hit(2, 3, 1), damp(3, 0, 0.5)),
		livelyScore(r, 30),
	} {
		want := wantHeard(s)
		for _, n := range append(wildIntegers(), 15, 16, 17, -16, 1<<32+1, math.MinInt+1) {
			valid := n >= 1 && n <= 16
			samples, ok := impl.RenderWorkers(s, n)
			if ok != valid || valid && !sameAs(samples, want.samples) || !valid && len(samples) != 0 {
				t.Errorf("RenderWorkers of %s by %d: %v %v, want %v", wantScoreText(s), n, samples, ok, want.samples)
			}
		}
	}
}

func TestP10Cuts(t *testing.T) {
	s := handScore(10, 2, hit(0, 3, 1), hit(2, 0, 2), shaped(4, 1, impl.ShapeArch, 5, 8), damp(5, 1, 0.5), stop(8, 0))
	s.Ceiling, s.Release = 3, 0.75
	empty := handScore(0, 2)
	one := handScore(1, 1, hit(0, 0, 8))
	ones, zeros := slices.Repeat([]int{1}, 200), make([]int, 200)
	for _, c := range []struct {
		s     impl.Score
		cuts  []int
		valid bool
	}{
		{s, []int{10}, true},
		{s, []int{0, 10}, true},
		{s, []int{10, 0}, true},
		{s, []int{5, 0, 5}, true},
		{s, []int{1, 2, 3, 4}, true},
		{s, ones[:10], true},
		{s, slices.Concat(zeros[:90], ones[:10]), true},
		{s, slices.Concat(zeros[:99], []int{10}), true},
		{s, slices.Concat([]int{10}, zeros[:99]), true},
		{s, slices.Concat([]int{10}, zeros[:100]), false},
		{s, slices.Concat(zeros[:100], []int{10}), false},
		{s, slices.Concat(zeros[:91], ones[:10]), false},
		{s, nil, false},
		{s, []int{}, false},
		{s, []int{0}, false},
		{s, []int{9}, false},
		{s, []int{11}, false},
		{s, []int{5, 4}, false},
		{s, []int{5, 6}, false},
		{s, []int{10, 10}, false},
		{s, []int{10, 1}, false},
		{s, []int{-1, 11}, false},
		{s, []int{11, -1}, false},
		{s, []int{5, -1, 6}, false},
		{s, []int{10, -1, 1}, false},
		{s, []int{-10}, false},
		{s, []int{10, 1, -1}, false},
		// Sums that wrap around to 10
		{s, []int{math.MaxInt, math.MaxInt, 12}, false},
		{s, []int{math.MaxInt, 1, math.MaxInt, 11}, false},
		{s, []int{math.MaxInt, math.MinInt, 11}, false},
		{s, []int{5, math.MaxInt, math.MaxInt, 7}, false},
		{s, []int{1 << 62, 1 << 62, 1 << 62, 1 << 62, 10}, false},
		{s, []int{10, 1 << 62, 1 << 62, 1 << 62, 1 << 62}, false},
		{s, []int{math.MinInt}, false},
		{s, []int{math.MaxInt}, false},
		{s, []int{1<<32 + 10}, false},
		{s, ones[:100], false},
		{s, slices.Repeat([]int{10}, 1000), false},
		{empty, nil, true},
		{empty, []int{0}, true},
		{empty, zeros[:100], true},
		{empty, zeros[:101], false},
		{empty, []int{1}, false},
		{empty, []int{-1}, false},
		{empty, []int{1, -1}, false},
		{empty, []int{math.MaxInt, math.MaxInt, 2}, false},
		{one, []int{1}, true},
		{one, []int{0, 1, 0}, true},
		{one, []int{0, 0}, false},
		{one, []int{1, 1}, false},
		{one, nil, false},
	} {
		kept := slices.Clone(c.cuts)
		samples, ok := impl.RenderCut(c.s, c.cuts)
		want := wantHeard(c.s).samples
		if ok != c.valid || c.valid && !sameAs(samples, want) || !c.valid && len(samples) != 0 || !slices.Equal(c.cuts, kept) {
			t.Errorf("RenderCut by %v: %v %v, want %v %v", kept, samples, ok, c.valid, want)
		}
	}
}

func TestP1ManyCuts(t *testing.T) {
	r := newRandom()
	s := livelyScore(r, impl.MaxSamples)
	want, _ := impl.RenderScore(s)
	for range 20 {
		cuts, left := make([]int, impl.MaxCuts), impl.MaxSamples
		for i := range cuts[1:] {
			cuts[i] = min(left, r.IntN(41))
			left -= cuts[i]
		}
		cuts[99] = left
		if samples, ok := impl.RenderCut(s, cuts); !ok || !sameAs(samples, want) {
			t.Errorf("RenderCut by %v: %v", cuts, ok)
		}
	}
}

func TestP10TracksByHand(t *testing.T) {
	for _, c := range []struct {
		s    impl.Score
		want [][]float32
	}{
		{handScore(0, 8, hit(0, 0, 1)), nil},
		{handScore(3, 8), nil},
		{handScore(3, 8, damp(0, 0, 1), stop(1, 0)), nil},
		{handScore(3, 8, hit(3, 0, 1), hit(4, 0, 1), hit(2000, 0, 1)), nil},
		{handScore(3, 8, hit(2, 0, 1)), [][]float32{{0, 0, 1}}},
		{handScore(3, 8, hit(1, 2, 1)), [][]float32{{0, 0, 0}}},
		{handScore(3, 8, hit(1, 3, 4)), [][]float32{{0, 4, 2}}},
		{handScore(3, 8, hit(1, 0, 1), hit(0, 1, 1)), [][]float32{{16, 16, 16}, {0, 1, 1}}},
		{handScore(3, 8, hit(1, 0, 1), hit(1, 0, 2), hit(1, 0, 1)), [][]float32{{0, 1, 1}, {0, 2, 2}, {0, 1, 1}}},
		// A voice is removed by a strike, at its own sample or later
		{handScore(3, 1, hit(0, 0, 1), hit(1, 0, 2)), [][]float32{{1, 0, 0}, {0, 2, 2}}},
		{handScore(3, 1, hit(1, 0, 1), hit(1, 0, 2)), [][]float32{{0, 0, 0}, {0, 2, 2}}},
		{handScore(3, 2, hit(0, 0, 1), hit(0, 1, 2), hit(2, 0, 4)), [][]float32{{1, 1, 0}, {32, 32, 32}, {0, 0, 4}}},
		{handScore(3, 1, hit(0, 0, 1), hit(3, 0, 2)), [][]float32{{1, 1, 1}}},
		// ... or by a stop
		{handScore(3, 8, hit(0, 0, 1), hit(0, 1, 2), stop(2, 0)), [][]float32{{1, 1, 0}, {32, 32, 32}}},
		{handScore(3, 8, hit(0, 0, 1), stop(0, 0), hit(0, 0, 4)), [][]float32{{0, 0, 0}, {4, 4, 4}}},
		{handScore(3, 8, hit(0, 0, 1), hit(1, 0, 2), stop(2, 0)), [][]float32{{1, 1, 0}, {0, 2, 0}}},
		{handScore(3, 8, hit(0, 0, 1), stop(3, 0)), [][]float32{{1, 1, 1}}},
		// A damp is for the voices that there are
		{handScore(3, 8, hit(0, 0, 8), damp(1, 0, 0.5), hit(1, 0, 32)), [][]float32{{8, 4, 2}, {0, 32, 32}}},
		{handScore(3, 1, hit(0, 0, 8), hit(1, 0, 32), damp(2, 0, 0.5)), [][]float32{{8, 0, 0}, {0, 32, 16}}},
		{handScore(3, 8, hit(0, 0, 8), damp(1, 1, 0.5)), [][]float32{{8, 8, 8}}},
	} {
		if tracks, ok := impl.RenderVoices(c.s); !ok || !sameTracks(tracks, c.want) {
			t.Errorf("RenderVoices of %v: %v %v, want %v", c.s.Events, tracks, ok, c.want)
		}
		if tracks := wantHeard(c.s).tracks(); !sameTracks(tracks, c.want) {
			t.Errorf("%v are not what is told by hand, %v", tracks, c.want)
		}
	}
}

func wantMix(tracks [][]float32, ceiling, release float32) []float32 {
	var sums []float32
	for i := range len(slices.Concat(tracks...)) / max(1, len(tracks)) {
		sums = append(sums, 0)
		for _, track := range tracks {
			sums[i] = sumSingle(sums[i], track[i])
		}
	}
	return wantLimited(sums, ceiling, release)
}

func TestP10MixesByHand(t *testing.T) {
	noNumber, endless, minus := float32(nan), float32(inf), narrow(negativeZero)
	const most = greatestSingle
	for _, c := range []struct {
		tracks           [][]float32
		ceiling, release float32
		want             []float32
		valid            bool
	}{
		{nil, 1, 0, nil, true},
		{[][]float32{}, 1, 1, nil, true},
		{[][]float32{nil}, 1, 1, nil, true},
		{[][]float32{nil, {}, nil}, 1, 1, nil, true},
		{[][]float32{{1, -2, 3}}, 4, 0, []float32{1, -2, 3}, true},
		{[][]float32{{minus, 0}}, 4, 0, []float32{0, 0}, true}, // the sum begins with 0
		{[][]float32{{minus}, {minus}}, 4, 0, []float32{0}, true},
		{[][]float32{{1, 2}, {4, 8}, {16, 32}}, 100, 0, []float32{21, 42}, true},
		{[][]float32{{1, 2}, {3, -2}}, 2, 0.5, []float32{2, 0}, true},
		{[][]float32{{4, 1}, {4, 1}}, 2, 0.5, []float32{2, 1}, true},
		{[][]float32{{0x1p24}, {1}, {1}}, most, 0, []float32{0x1p24}, true},
		{[][]float32{{1}, {1}, {0x1p24}}, most, 0, []float32{0x1p24 + 2}, true},
		{[][]float32{{most}, {-most}, {1}}, most, 0, []float32{1}, true},
		{[][]float32{{most, 5}, {most, 5}, {-most, 5}}, 1, 0.5, []float32{noNumber, 0}, true},
		{[][]float32{{endless, 1}, {-endless, 2}}, 1, 0, []float32{noNumber, 1}, true},
		{[][]float32{{noNumber, 1}, {1, 1}}, 4, 0, []float32{noNumber, 2}, true},
		{[][]float32{{1}, {1, 2}}, 1, 0, nil, false},
		{[][]float32{{1, 2}, {1}}, 1, 0, nil, false},
		{[][]float32{{1, 2}, {1, 2}, {1}}, 1, 0, nil, false},
		{[][]float32{{1, 2}, {1, 2}, {1, 2, 3}}, 1, 0, nil, false},
		{[][]float32{nil, {1}}, 1, 0, nil, false},
		{[][]float32{{1}, nil}, 1, 0, nil, false},
		{[][]float32{{1}, {}, {1}}, 1, 0, nil, false},
		{[][]float32{{1}}, 0, 0, nil, false},
		{[][]float32{{1}}, 1, minus, nil, false},
		{[][]float32{{1}, nil}, 1, 2, nil, false},
		{nil, endless, 0, nil, false},
		{nil, 1, oneOver(1), nil, false},
	} {
		samples, ok := impl.MixTracks(c.tracks, c.ceiling, c.release)
		if ok != c.valid || !sameAs(samples, c.want) {
			t.Errorf("MixTracks of %v, %v, %v: %v %v, want %v %v", c.tracks, c.ceiling, c.release, samples, ok, c.want, c.valid)
		}
	}
}

func TestP10MixesOfAnyTracks(t *testing.T) {
	r := newRandom()
	for range 2000 {
		tracks := make([][]float32, r.IntN(6))
		length := r.IntN(10)
		for i := range tracks {
			tracks[i] = wildOrTame(r, length)
		}
		s := livelyScore(r, 0)
		samples, ok := impl.MixTracks(tracks, s.Ceiling, s.Release)
		if want := wantMix(tracks, s.Ceiling, s.Release); !ok || !sameAs(samples, want) {
			t.Fatalf("MixTracks of %v, %v, %v: %v %v, want %v", tracks, s.Ceiling, s.Release, samples, ok, want)
		}
		if len(tracks) > 1 {
			i := r.IntN(len(tracks))
			tracks[i] = append(tracks[i], 1)
			if samples, ok := impl.MixTracks(tracks, s.Ceiling, s.Release); ok || len(samples) != 0 {
				t.Fatalf("MixTracks of %v: %v %v", tracks, samples, ok)
			}
		}
	}
	// There may be more tracks and samples than a score has.
	tracks := make([][]float32, 300)
	for i := range tracks {
		tracks[i] = anyInput(r, 3000)
	}
	if samples, ok := impl.MixTracks(tracks, 1, 0.5); !ok || !sameAs(samples, wantMix(tracks, 1, 0.5)) {
		t.Errorf("MixTracks of many tracks: %v", ok)
	}
}

func TestP10PlacesOfVoicesAt(t *testing.T) {
	for _, s := range []impl.Score{
		handScore(0, 2, hit(0, 0, 1)),
		handScore(1, 2, hit(0, 0, 1)),
		handScore(10, 2, hit(0, 0, 1), hit(3, 1, 1), stop(5, 0), hit(5, 3, 1), hit(9, 0, 1), hit(10, 0, 1)),
		handScore(2000, 8, hit(1, 1, 1), hit(1999, 0, 1), hit(2000, 3, 1)),
	} {
		h := wantHeard(s)
		for _, at := range append(wildIntegers(), 5, 6, 11, -1<<32+5, 1<<32, math.MinInt) {
			checkVoicesAt(t, h, at)
		}
	}
}

// At no sample, a score or what is left of it has more voices than it may.
func TestP8NeverMoreVoicesThanThereMayBe(t *testing.T) {
	r := newRandom()
	most := 0
	for range 200 {
		s := livelyScore(r, 20)
		stream, _ := impl.OpenStream(s)
		for at := range s.Length {
			list, ok := impl.VoicesAt(s, at)
			next, _, fine := impl.Advance(stream, 1)
			if !ok || !fine || len(list) > s.Voices || len(next.Voices) != len(list) {
				t.Fatalf("at %d of %s: %v, want at most %d voices (%v %v)", at, wantScoreText(s), list, s.Voices, ok, fine)
			}
			for i, v := range next.Voices {
				if v.Body != list[i] {
					t.Fatalf("at %d of %s: the bodies are %v, voice %d is of %d", at, wantScoreText(s), list, i, v.Body)
				}
			}
			if stream = next; len(list) == s.Voices {
				most++
			}
		}
	}
	if most < 500 {
		t.Errorf("only at %d samples, there are as many voices as there may be", most)
	}
}
