package tests

import (
	"math"
	"slices"
	"testing"

	"loop.example/g03222/impl"
)

// otherNaN is one of other bits than those of NaN that arithmetic makes.
func otherNaN() float32 { return math.Float32frombits(0x7fabcdef) }

// checkStream checks a stream, and how it goes on, and returns whether it is
// valid.
func checkStream(t *testing.T, stream impl.Stream, blocks ...int) bool {
	t.Helper()
	valid, h := wantStream(stream)
	if impl.IsStream(stream) != valid {
		t.Fatalf("IsStream of %v is not %v", stream, valid)
	}
	for _, n := range blocks {
		next, samples, ok := impl.Advance(stream, n)
		if !valid || n < 0 || n > stream.Score.Length-stream.Now {
			if ok || len(samples) != 0 || !sameStream(next, impl.Stream{}) {
				t.Fatalf("Advance of %v by %d: %v %v %v", stream, n, next, samples, ok)
			}
			continue
		}
		end := stream.Now + n
		if want := h.stream(end); !ok || !sameStream(next, want) || !sameAs(samples, h.samples[stream.Now:end]) {
			t.Fatalf("Advance of %v by %d: %v %v %v, want %v %v", stream, n, next, samples, ok, want, h.samples[stream.Now:end])
		}
	}
	return valid
}

// wantStream tells whether a stream is valid, and what its score plays.
func wantStream(stream impl.Stream) (bool, heard) {
	if !wantScore(stream.Score) || stream.Now < 0 || stream.Now > stream.Score.Length {
		return false, heard{}
	}
	h := wantHeard(stream.Score)
	return sameStream(stream, h.stream(stream.Now)), h
}

func checkValidStream(t *testing.T, stream impl.Stream, want bool) {
	t.Helper()
	if checkStream(t, stream, 0, 1) != want {
		t.Errorf("IsStream of %v is not %v", stream, want)
	}
}

func TestP10OpenedStreams(t *testing.T) {
	s := handScore(10, 2, hit(0, 0, 1), stop(3, 1))
	stream, ok := impl.OpenStream(s)
	if !ok || !sameStream(stream, impl.Stream{Score: s}) {
		t.Errorf("OpenStream of %v: %v %v", s, stream, ok)
	}
	checkValidStream(t, stream, true)
	r := newRandom()
	for range 1000 {
		s := anyScore(r)
		if stream, ok := impl.OpenStream(s); !ok || !sameStream(stream, impl.Stream{Score: s}) || !impl.IsStream(stream) {
			t.Fatalf("OpenStream of %v: %v %v", s, stream, ok)
		}
	}
}

func TestP8BlocksByHand(t *testing.T) {
	s := handScore(8, 2, shaped(1, 3, impl.ShapeRamp, 4, 4), hit(2, 1, 1), damp(3, 3, 0.5), hit(7, 0, 1), stop(5, 1))
	s.Ceiling, s.Release = 4, 0.5
	half, quarter := []impl.Mode{{Pole: 0.5, Gain: 1}}, []impl.Mode{{Pole: 0.25, Gain: 1}}
	full, unit := []impl.Mode{{Pole: 1, Gain: 16}}, []impl.Mode{{Pole: 1, Gain: 1}}
	struck := impl.Voice{Body: 1, Modes: full, States: []complex64{16}}
	var states []impl.Stream
	for _, c := range []struct {
		done     int
		voices   []impl.Voice
		envelope float32
	}{
		{0, nil, 0},
		{0, nil, 0},
		{1, []impl.Voice{{Body: 3, Modes: half, States: []complex64{1}, Input: []float32{2, 3, 4}}}, 1},
		{2, []impl.Voice{{Body: 3, Modes: half, States: []complex64{2.5}, Input: []float32{3, 4}}, struck}, 18.5},
		{3, []impl.Voice{{Body: 3, Modes: quarter, States: []complex64{3.625}, Input: []float32{4}}, struck}, 19.625},
		{3, []impl.Voice{{Body: 3, Modes: quarter, States: []complex64{4.90625}}, struck}, 20.90625},
		{4, []impl.Voice{{Body: 3, Modes: quarter, States: []complex64{1.2265625}}}, 10.453125},
		{4, []impl.Voice{{Body: 3, Modes: quarter, States: []complex64{0.306640625}}}, 5.2265625},
		{5, []impl.Voice{{Body: 3, Modes: quarter, States: []complex64{0.07666015625}}, {Body: 0, Modes: unit, States: []complex64{1}}}, 2.61328125},
	} {
		states = append(states, impl.Stream{Score: s, Now: len(states), Done: c.done, Voices: c.voices, Envelope: c.envelope})
	}
	samples := []float32{0, 1, 4, 4, 4, 4 * 1.2265625 / 10.453125, 4 * 0.306640625 / 5.2265625, 1.07666015625}
	for from, stream := range states {
		checkValidStream(t, stream, true)
		for to := range states {
			next, block, ok := impl.Advance(stream, to-from)
			if to < from && (ok || len(block) != 0 || !sameStream(next, impl.Stream{})) {
				t.Errorf("Advance at %d by %d: %v %v %v", from, to-from, next, block, ok)
			}
			if to >= from && (!ok || !sameAs(block, samples[from:to]) || !sameStream(next, states[to])) {
				t.Errorf("Advance at %d by %d: %v %v %v, want %v %v", from, to-from, next, block, ok, states[to], samples[from:to])
			}
		}
		for _, n := range append(wildIntegers(), 9-from, 8-from) {
			checkStream(t, stream, n)
		}
	}
}

// A voice that begins with an Input of 64 samples, at all places before, at and
// behind the end of the Input.
func TestP8InputsThatEndInBlocks(t *testing.T) {
	s := handScore(80, 3, shaped(3, 3, impl.ShapeArch, 64, 1), shaped(5, 0, impl.ShapeRamp, 3, 1))
	h := wantHeard(s)
	for now := range 81 {
		for _, n := range []int{0, 1, 2, 3, 80 - now} {
			stream, first, ok := impl.Advance(h.stream(0), now)
			next, second, fine := impl.Advance(stream, n)
			valid := now+n <= 80
			if !ok || fine != valid || valid && (!sameAs(append(first, second...), h.samples[:now+n]) || !sameStream(next, h.stream(now+n))) {
				t.Errorf("Advance by %d, then by %d: %v %v %v", now, n, next, second, fine)
			}
		}
		for _, v := range h.stream(now).Voices {
			if v.Body == 3 && len(v.Input) != max(0, 64-(now-3)) {
				t.Errorf("an Input of %d samples at %d", len(v.Input), now)
			}
		}
	}
}

// From each place to each other one, in one block or two.
func TestP8StreamsGoOnFromAnywhere(t *testing.T) {
	r := newRandom()
	for range 25 {
		h := wantHeard(livelyScore(r, 12))
		for from := range 13 {
			for to := from; to <= 12; to++ {
				checkStream(t, copyOfStream(h.stream(from)), to-from, 13-from, -1)
			}
		}
	}
}

// Streams without a model: blocks of any cut make the samples of one block, and
// the stream behind them is the same.
func TestP8StreamsOfAnyCut(t *testing.T) {
	r := newRandom()
	for range 60 {
		s := livelyOrAnyScore(r, r.IntN(300))
		open, _ := impl.OpenStream(s)
		end, whole, ok := impl.Advance(open, s.Length)
		if !ok || len(whole) != s.Length || end.Now != s.Length {
			t.Fatalf("Advance of %s by its length: %v %v %v", wantScoreText(s), end, whole, ok)
		}
		stream, samples := open, []float32(nil)
		for _, n := range anyCuts(r, s.Length) {
			next, block, ok := impl.Advance(stream, n)
			if !ok {
				t.Fatalf("Advance of %v by %d fails", stream, n)
			}
			stream, samples = next, append(samples, block...)
		}
		if !sameAs(samples, whole) || !sameStream(stream, end) {
			t.Fatalf("cuts of %s: %v %v, want %v %v", wantScoreText(s), stream, samples, end, whole)
		}
	}
}

// changedNumbers are near x and far from it, and NaN in place of NaN.
func changedNumbers(x float32) []float32 {
	return []float32{-x, math.Nextafter32(x, float32(inf)), math.Nextafter32(x, float32(-inf)), x + 1, 2 * x, 0, narrow(negativeZero),
		float32(inf), float32(-inf), float32(nan), otherNaN()}
}

func changedComplexes(z complex64) []complex64 {
	list := []complex64{complex(imag(z), real(z)), -z}
	for _, re := range changedNumbers(real(z)) {
		list = append(list, complex(re, imag(z)))
	}
	for _, im := range changedNumbers(imag(z)) {
		list = append(list, complex(real(z), im))
	}
	return list
}

func changedIntegers(n int) []int {
	return []int{n - 1, n + 1, -n, n + 1<<32, 0, 1, math.MinInt, math.MaxInt}
}

// changedVoices changes one thing about a voice.
func changedVoices(v impl.Voice) []impl.Voice {
	list := []impl.Voice{{}, {Body: v.Body}}
	change := func(f func(c *impl.Voice)) {
		c := copyOfVoice(v)
		f(&c)
		list = append(list, c)
	}
	for _, n := range changedIntegers(v.Body) {
		change(func(c *impl.Voice) { c.Body = n })
	}
	for k, m := range v.Modes {
		for _, z := range changedComplexes(m.Pole) {
			change(func(c *impl.Voice) { c.Modes[k].Pole = z })
		}
		for _, z := range changedComplexes(m.Gain) {
			change(func(c *impl.Voice) { c.Modes[k].Gain = z })
		}
		change(func(c *impl.Voice) { c.Modes = slices.Delete(c.Modes, k, k+1) })
	}
	for k, state := range v.States {
		for _, z := range changedComplexes(state) {
			change(func(c *impl.Voice) { c.States[k] = z })
		}
		change(func(c *impl.Voice) { c.States = slices.Delete(c.States, k, k+1) })
	}
	for i, x := range v.Input {
		for _, y := range changedNumbers(x) {
			change(func(c *impl.Voice) { c.Input[i] = y })
		}
		change(func(c *impl.Voice) { c.Input = slices.Delete(c.Input, i, i+1) })
	}
	change(func(c *impl.Voice) { c.Modes = append(c.Modes, impl.Mode{}) })
	change(func(c *impl.Voice) { c.States = append(c.States, 0) })
	change(func(c *impl.Voice) { c.Modes, c.States = append(c.Modes, impl.Mode{}), append(c.States, 0) })
	change(func(c *impl.Voice) { c.Input = append(c.Input, 0) })
	change(func(c *impl.Voice) { c.Input = slices.Insert(c.Input, 0, 0) })
	change(func(c *impl.Voice) { slices.Reverse(c.Modes) })
	change(func(c *impl.Voice) { slices.Reverse(c.States) })
	change(func(c *impl.Voice) { slices.Reverse(c.Input) })
	return list
}

// changedStreams changes one thing about a stream, but its score.
func changedStreams(stream impl.Stream) []impl.Stream {
	var list []impl.Stream
	change := func(f func(c *impl.Stream)) {
		c := copyOfStream(stream)
		f(&c)
		list = append(list, c)
	}
	for _, n := range changedIntegers(stream.Now) {
		change(func(c *impl.Stream) { c.Now = n })
	}
	for _, n := range changedIntegers(stream.Done) {
		change(func(c *impl.Stream) { c.Done = n })
	}
	for _, x := range changedNumbers(stream.Envelope) {
		change(func(c *impl.Stream) { c.Envelope = x })
	}
	for i, v := range stream.Voices {
		for _, changed := range changedVoices(v) {
			change(func(c *impl.Stream) { c.Voices[i] = changed })
		}
		change(func(c *impl.Stream) { c.Voices = slices.Delete(c.Voices, i, i+1) })
		change(func(c *impl.Stream) { c.Voices = slices.Insert(c.Voices, i, v) })
	}
	change(func(c *impl.Stream) { c.Voices = append(c.Voices, impl.Voice{}) })
	change(func(c *impl.Stream) { c.Voices = nil })
	change(func(c *impl.Stream) { slices.Reverse(c.Voices) })
	change(func(c *impl.Stream) { c.Score = impl.Score{} })
	return list
}

func TestP10StreamsThatDifferInOneThing(t *testing.T) {
	minus := narrow(negativeZero)
	s := handScore(6, 3, shaped(0, 3, impl.ShapeRamp, 4, 4), shaped(1, 0, impl.ShapeClick, 3, -2), damp(2, 3, minus), hit(2, 2, 1), stop(5, 3))
	s.Bodies[3] = bodyOf(impl.Mode{Pole: complex(0.5, minus), Gain: 1}, impl.Mode{Pole: complex(0, -0.25), Gain: complex(minus, 0)})
	s.Ceiling, s.Release = 1, 0.5
	endless := handScore(6, 3, hit(0, 1, greatestSingle), shaped(1, 3, impl.ShapeRamp, 3, 0x1p120))
	quiet := handScore(6, 3)
	for _, s := range []impl.Score{s, endless, quiet} {
		h := wantHeard(s)
		for now := range s.Length + 1 {
			stream := h.stream(now)
			checkValidStream(t, copyOfStream(stream), true)
			for _, c := range changedStreams(stream) {
				// A stream without events or voices may be elsewhere as it is here.
				valid := false
				if c.Now >= 0 && c.Now <= s.Length && len(c.Score.Bodies) > 0 {
					valid = sameStream(c, h.stream(c.Now))
				}
				if impl.IsStream(c) != valid || valid != sameStream(c, stream) && c.Now == now {
					t.Fatalf("IsStream of %v is not %v", c, valid)
				}
				if next, samples, ok := impl.Advance(c, 0); ok != valid || len(samples) != 0 || !ok && !sameStream(next, impl.Stream{}) {
					t.Fatalf("Advance of %v: %v %v %v", c, next, samples, ok)
				}
			}
		}
	}
}

func TestP10StreamsThatHoldNaN(t *testing.T) {
	noNumber, other := float32(nan), otherNaN()
	s := handScore(5, 3, hit(0, 1, greatestSingle), hit(1, 0, 1))
	h := wantHeard(s)
	stream := h.stream(3)
	state := stream.Voices[0].States[0]
	if state == state || stream.Envelope == stream.Envelope {
		t.Fatalf("%v has no state or no envelope that is NaN", stream)
	}
	checkValidStream(t, stream, true)
	for _, x := range []float32{noNumber, other, -other, float32(math.NaN())} {
		c := copyOfStream(stream)
		c.Envelope, c.Voices[0].States[0] = x, complex(x, -x)
		checkValidStream(t, c, true)
		c.Voices[1].States[0] = complex(x, 0)
		checkValidStream(t, c, false)
		c = copyOfStream(stream)
		c.Voices[1].Modes[0].Pole = complex(1, x)
		checkValidStream(t, c, false)
	}
	for _, x := range []float32{0, 1, float32(inf), greatestSingle} {
		first, second := copyOfStream(stream), copyOfStream(stream)
		first.Envelope, second.Voices[0].States[0] = x, complex(x, noNumber)
		checkValidStream(t, first, false)
		checkValidStream(t, second, false)
	}
}

// What has not happened yet may be another score's; what has may not.
func TestP10StreamsOfOtherScores(t *testing.T) {
	s := handScore(6, 3, hit(0, 3, 4), damp(1, 3, 0.5), hit(2, 0, 1), hit(4, 1, 1), stop(6, 0))
	change := func(want bool, f func(s *impl.Score)) {
		t.Helper()
		stream := wantHeard(s).stream(3)
		stream.Score = copyOfScore(s)
		f(&stream.Score)
		checkValidStream(t, stream, want)
	}
	change(true, func(s *impl.Score) {})
	change(true, func(s *impl.Score) { s.Events[3].Force = 7 })
	change(true, func(s *impl.Score) { s.Events[3].Body = 0 })
	change(true, func(s *impl.Score) { s.Events[3].At = 3 })
	change(true, func(s *impl.Score) { s.Events[4].At = 5 })
	change(true, func(s *impl.Score) { s.Events = s.Events[:3] })
	change(true, func(s *impl.Score) { s.Events = append(s.Events, damp(3, 3, 0)) })
	change(true, func(s *impl.Score) { s.Events[0], s.Events[3] = s.Events[3], s.Events[0] })
	change(true, func(s *impl.Score) { s.Length = 3 })
	change(true, func(s *impl.Score) { s.Length = 2000 })
	change(true, func(s *impl.Score) { s.Voices = 2 })
	change(true, func(s *impl.Score) { s.Bodies[1].Modes = nil })
	change(true, func(s *impl.Score) { s.Bodies = append(s.Bodies, impl.Body{}) })
	change(true, func(s *impl.Score) { s.Ceiling = 1 })         // the envelope is not limited
	change(true, func(s *impl.Score) { s.Events[0].Count = 3 }) // the Input has come to its end
	change(false, func(s *impl.Score) { s.Events[3].At = 2 })
	change(false, func(s *impl.Score) { s.Events[2].At = 3 })
	change(false, func(s *impl.Score) { s.Events[2].Body = 1 })
	change(false, func(s *impl.Score) { s.Events[0].Force = 5 })
	change(false, func(s *impl.Score) { s.Events[0].Count = 4 })
	change(false, func(s *impl.Score) { s.Events[1].Force = 0.25 })
	change(false, func(s *impl.Score) { s.Events[1], s.Events[2] = s.Events[2], damp(1, 0, 0.5) })
	change(false, func(s *impl.Score) { s.Events = append(s.Events, damp(2, 1, 0)) }) // Done is 4 then
	change(false, func(s *impl.Score) { s.Length = 2 })
	change(false, func(s *impl.Score) { s.Voices = 1 })
	change(false, func(s *impl.Score) { s.Release = 1 })
	change(false, func(s *impl.Score) { s.Bodies[3].Modes[0].Gain = 2 })
	change(false, func(s *impl.Score) { s.Bodies[0].Modes = nil })
	for _, wrong := range wrongScores() {
		change(false, func(s *impl.Score) { *s = wrong })
	}
}

// wrongScores break each condition for scores.
func wrongScores() []impl.Score {
	list := []impl.Score{{}}
	add := func(f func(s *impl.Score)) {
		for _, s := range []impl.Score{plainScore(), handScore(4, 2, hit(1, 0, 1), damp(1, 2, 0.5), stop(2, 0))} {
			f(&s)
			list = append(list, s)
		}
	}
	for _, n := range []int{-1, 2001, math.MinInt, math.MaxInt, 1 << 32} {
		add(func(s *impl.Score) { s.Length = n })
		add(func(s *impl.Score) { s.Events[0].At = n })
		add(func(s *impl.Score) { s.Events[2].At = n })
		add(func(s *impl.Score) { s.Events[1].Body = n })
		add(func(s *impl.Score) { s.Events[1].Kind = n })
		add(func(s *impl.Score) { s.Events[0].Shape = n })
		add(func(s *impl.Score) { s.Events[0].Count = n })
		add(func(s *impl.Score) { s.Voices = n })
	}
	add(func(s *impl.Score) { s.Voices = 0 })
	add(func(s *impl.Score) { s.Voices = 9 })
	for _, x := range []float32{-1, float32(nan), float32(inf), narrow(negativeZero)} {
		add(func(s *impl.Score) { s.Ceiling = x })
		add(func(s *impl.Score) { s.Release = x })
		add(func(s *impl.Score) { s.Events[2].Force = x })
	}
	add(func(s *impl.Score) { s.Events[0].Force = float32(nan) })
	add(func(s *impl.Score) { s.Bodies = nil })
	add(func(s *impl.Score) { s.Bodies = make([]impl.Body, 9) })
	add(func(s *impl.Score) { s.Events = slices.Repeat(s.Events, 21) })
	for _, b := range wrongBodies() {
		add(func(s *impl.Score) { s.Bodies[1] = b })
	}
	return list
}

func TestP10ScoresThatAreNotPlayed(t *testing.T) {
	for _, s := range wrongScores() {
		if wantScore(s) {
			t.Fatalf("%v is valid", s)
		}
		if stream, ok := impl.OpenStream(s); ok || !sameStream(stream, impl.Stream{}) {
			t.Errorf("OpenStream of %v: %v %v", s, stream, ok)
		}
		checkValidStream(t, impl.Stream{Score: s}, false)
		checkStream(t, impl.Stream{Score: s, Now: s.Length}, 0)
		samples, ok := impl.RenderScore(s)
		cut, fine := impl.RenderCut(s, []int{s.Length})
		if ok || fine || len(samples) != 0 || len(cut) != 0 {
			t.Errorf("RenderScore and RenderCut of %v: %v %v %v %v", s, samples, ok, cut, fine)
		}
		tracks, ok := impl.RenderVoices(s)
		samples, fine = impl.RenderWorkers(s, 2)
		if ok || fine || len(samples) != 0 || len(tracks) != 0 {
			t.Errorf("RenderVoices and RenderWorkers of %v: %v %v %v %v", s, tracks, ok, samples, fine)
		}
		if list, ok := impl.VoicesAt(s, 0); ok || len(list) != 0 {
			t.Errorf("VoicesAt 0 of %v: %v %v", s, list, ok)
		}
	}
	checkValidStream(t, impl.Stream{}, false)
}

// memoryOfStream returns a stream with memory behind each of its lists, and that
// memory; the voices and bodies share theirs.
func memoryOfStream() (impl.Stream, impl.Stream) {
	s := handScore(6, 3)
	modes := append(make([]impl.Mode, 0, 9), impl.Mode{Pole: 1, Gain: 1})
	states, input := append(make([]complex64, 0, 9), 1), append(make([]float32, 0, 9), 0, 0)
	s.Bodies = []impl.Body{{Modes: modes}, {Modes: modes}, {Modes: modes[:0]}}
	s.Events = append(make([]impl.Event, 0, 9), shaped(0, 0, impl.ShapeClick, 3, 1), shaped(0, 1, impl.ShapeClick, 3, 1), damp(3, 0, 0.5), stop(4, 1))
	voices := append(make([]impl.Voice, 0, 9), impl.Voice{Modes: modes, States: states, Input: input}, impl.Voice{Body: 1, Modes: modes, States: states, Input: input})
	s.Bodies = slices.Grow(s.Bodies, 5)
	stream := impl.Stream{Score: s, Now: 1, Done: 2, Voices: voices, Envelope: 2}
	behind := stream
	behind.Score.Bodies, behind.Score.Events, behind.Voices = s.Bodies[:8], s.Events[:9], voices[:9]
	behind.Score.Bodies[7], behind.Score.Events[8] = impl.Body{Modes: modes[:9]}, stop(9, 9)
	behind.Voices[8] = impl.Voice{Body: 9, Modes: modes[:9], States: states[:9], Input: input[:9]}
	return stream, behind
}

func scribbleSamples(x []float32) {
	for i := range x {
		x[i] = 99
	}
	_ = append(x, 99)
}

func scribbleVoice(v impl.Voice) {
	scribbleModes(impl.Body{Modes: v.Modes})
	for k := range v.States {
		v.States[k] = 99
	}
	_ = append(v.States, 99)
	scribbleSamples(v.Input)
}

func scribbleStream(stream impl.Stream) {
	scribbleScore(stream.Score)
	for i := range stream.Voices {
		scribbleVoice(stream.Voices[i])
		stream.Voices[i] = impl.Voice{Body: 99}
	}
	_ = append(stream.Voices, impl.Voice{Body: 99})
}

func TestP10StreamsKeepNothing(t *testing.T) {
	stream, behind := memoryOfStream()
	before, all := copyOfStream(stream), copyOfStream(behind)
	checkValidStream(t, stream, true)
	check := func(name string) {
		t.Helper()
		if !sameStream(stream, before) || !sameStream(behind, all) {
			t.Fatalf("%s changes %v, or the memory behind it", name, stream)
		}
	}
	check("IsStream")
	open, _ := impl.OpenStream(stream.Score)
	scribbleStream(open)
	check("OpenStream")
	for n := range 6 {
		next, samples, ok := impl.Advance(stream, n)
		if !ok {
			t.Errorf("Advance by %d fails", n)
		}
		scribbleStream(next)
		scribbleSamples(samples)
		check("Advance")
	}
	samples, _ := impl.RenderScore(stream.Score)
	scribbleSamples(samples)
	check("RenderScore")
	samples, _ = impl.RenderWorkers(stream.Score, 3)
	scribbleSamples(samples)
	check("RenderWorkers")
	tracks, _ := impl.RenderVoices(stream.Score)
	for i := range tracks {
		kept := slices.Clone(tracks[1-i])
		if scribbleSamples(tracks[i]); !sameAs(tracks[1-i], kept) {
			t.Error("the tracks share memory")
		}
	}
	check("RenderVoices")
	list, _ := impl.VoicesAt(stream.Score, 2)
	list[0] = 99
	check("VoicesAt")
	checkStream(t, stream, 0, 1, 5)
}

// The voices of one result share no memory, nor with its score; also where the
// bodies or voices that are given do.
func TestP10VoicesOfStreamsShareNothing(t *testing.T) {
	given, _ := memoryOfStream()
	for n := range 3 {
		for i := range 2 {
			next, _, _ := impl.Advance(given, n)
			kept := copyOfStream(next)
			scribbleVoice(next.Voices[i])
			scribbleVoice(kept.Voices[i])
			if !sameStream(next, kept) {
				t.Errorf("voice %d shares memory after %d samples: %v, want %v", i, n, next, kept)
			}
			scribbleModes(next.Score.Bodies[i])
			scribbleModes(kept.Score.Bodies[i])
			if !sameStream(next, kept) {
				t.Errorf("body %d shares memory after %d samples: %v, want %v", i, n, next, kept)
			}
		}
	}
	open, _ := impl.OpenStream(given.Score)
	kept := copyOfStream(open)
	scribbleModes(open.Score.Bodies[0])
	scribbleModes(kept.Score.Bodies[0])
	if !sameStream(open, kept) {
		t.Errorf("the bodies of an opened stream share memory: %v", open)
	}
}

func TestP10RendersKeepNothing(t *testing.T) {
	cuts := append(make([]int, 0, 9), 1, 2, 3)
	s := handScore(6, 3, hit(0, 0, 1))
	samples, ok := impl.RenderCut(s, cuts)
	if scribbleSamples(samples); !ok || !slices.Equal(cuts[:9], []int{1, 2, 3, 0, 0, 0, 0, 0, 0}) {
		t.Errorf("RenderCut changes the cuts: %v %v", cuts[:9], ok)
	}
	x := append(make([]float32, 0, 6), 4, 2, 1)
	tracks := append(make([][]float32, 0, 3), x, x)
	samples, ok = impl.LimitSamples(x, 8, 0.5)
	scribbleSamples(samples)
	mix, fine := impl.MixTracks(tracks, 8, 0.5)
	scribbleSamples(mix)
	one, _ := impl.MixTracks(tracks[:1], 8, 0.5)
	scribbleSamples(one)
	if !ok || !fine || !sameAs(x[:6], []float32{4, 2, 1, 0, 0, 0}) || !sameTracks(tracks[:3], [][]float32{x, x, nil}) {
		t.Errorf("LimitSamples or MixTracks changes what it is given: %v %v", x[:6], tracks[:3])
	}
}
