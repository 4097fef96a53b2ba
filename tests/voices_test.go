package tests

import (
	"math/rand/v2"
	"slices"
	"testing"

	"loop.example/g03222/impl"
)

// What a score plays, put together voice by voice, each one from its strike to
// its end, by the exact operations of exact_test.go.

// A heardVoice is stepped from the sample begin to the one before end.
type heardVoice struct {
	body, begin, end int
	track            []float32
	after            []impl.Voice // the voice after each sample
}

type heard struct {
	score     impl.Score
	events    []impl.Event // those that happen
	voices    []heardVoice
	samples   []float32
	envelopes []float32 // before each sample, and behind the last one
}

func wantHeard(s impl.Score) heard {
	h := heard{score: s, envelopes: []float32{0}}
	h.events = slices.DeleteFunc(wantOrder(s.Events), func(e impl.Event) bool { return e.At >= s.Length })
	ends := wantEnds(h.events, s.Voices, s.Length)
	for k, e := range h.events {
		if e.Kind == impl.EventStrike {
			h.voices = append(h.voices, hearVoice(s, h.events[k:], ends[k]))
		}
	}
	for at := range s.Length {
		x := float32(0)
		for _, v := range h.voicesAt(at) {
			x = sumSingle(x, v.track[at])
		}
		sample, envelope := wantLimit(h.envelopes[at], x, s.Ceiling, s.Release)
		h.samples, h.envelopes = append(h.samples, sample), append(h.envelopes, envelope)
	}
	return h
}

// wantEnds tells, for each strike among the events, when its voice is removed.
func wantEnds(events []impl.Event, most, length int) []int {
	ends := slices.Repeat([]int{length}, len(events))
	var playing []int
	for k, e := range events {
		var stay []int
		for i, strike := range playing {
			tooMany := e.Kind == impl.EventStrike && i == 0 && len(playing) == most
			if tooMany || e.Kind == impl.EventStop && e.Body == events[strike].Body {
				ends[strike] = e.At
			} else {
				stay = append(stay, strike)
			}
		}
		if e.Kind == impl.EventStrike {
			stay = append(stay, k)
		}
		playing = stay
	}
	return ends
}

// hearVoice steps the voice of the first one of the events.
func hearVoice(s impl.Score, events []impl.Event, end int) heardVoice {
	strike := events[0]
	h := heardVoice{body: strike.Body, begin: strike.At, end: end, track: make([]float32, s.Length), after: make([]impl.Voice, s.Length)}
	b, states := s.Bodies[strike.Body], make([]complex64, len(s.Bodies[strike.Body].Modes))
	var input []float32
	for _, x := range wantShape(strike.Shape, strike.Count) {
		input = append(input, productSingle(x, strike.Force))
	}
	for at := strike.At; at < end; at++ {
		for _, e := range events {
			if e.Kind == impl.EventDamp && e.At == at && e.Body == strike.Body {
				b = wantDamped(b, e.Force)
			}
		}
		x := float32(0)
		if len(input) > 0 {
			x, input = input[0], input[1:]
		}
		for k, m := range b.Modes {
			states[k] = wantStep(m, states[k], x)
			h.track[at] = sumSingle(h.track[at], real(states[k]))
		}
		h.after[at] = impl.Voice{Body: strike.Body, Modes: b.Modes, States: slices.Clone(states), Input: input}
	}
	return h
}

// wantLimit is told of the limiter: the sample, and the new envelope.
func wantLimit(envelope, x, ceiling, release float32) (float32, float32) {
	level, envelope := absolute(x), productSingle(envelope, release)
	if level > envelope {
		envelope = level
	}
	if envelope > ceiling {
		return ratioSingle(productSingle(x, ceiling), envelope), envelope
	}
	return x, envelope
}

func (h heard) voicesAt(at int) []heardVoice {
	var list []heardVoice
	for _, v := range h.voices {
		if v.begin <= at && at < v.end {
			list = append(list, v)
		}
	}
	return list
}

func (h heard) tracks() [][]float32 {
	var tracks [][]float32
	for _, v := range h.voices {
		tracks = append(tracks, v.track)
	}
	return tracks
}

// stream is what is left after now samples.
func (h heard) stream(now int) impl.Stream {
	t := impl.Stream{Score: h.score, Now: now, Envelope: h.envelopes[now]}
	for _, e := range h.events {
		if e.At < now {
			t.Done++
		}
	}
	for _, v := range h.voicesAt(now - 1) {
		t.Voices = append(t.Voices, v.after[now-1])
	}
	return t
}

func sameVoice(a, b impl.Voice) bool {
	return a.Body == b.Body && slices.EqualFunc(a.Modes, b.Modes, sameMode) && sameStates(a.States, b.States) && sameAs(a.Input, b.Input)
}

func sameStream(a, b impl.Stream) bool {
	return sameScore(a.Score, b.Score) && a.Now == b.Now && a.Done == b.Done && sameSingle(a.Envelope, b.Envelope) &&
		slices.EqualFunc(a.Voices, b.Voices, sameVoice)
}

func sameTracks(a, b [][]float32) bool { return slices.EqualFunc(a, b, sameAs[float32]) }

func copyOfVoice(v impl.Voice) impl.Voice {
	return impl.Voice{Body: v.Body, Modes: slices.Clone(v.Modes), States: slices.Clone(v.States), Input: slices.Clone(v.Input)}
}

func copyOfStream(t impl.Stream) impl.Stream {
	kept := t
	kept.Score, kept.Voices = copyOfScore(t.Score), nil
	for _, v := range t.Voices {
		kept.Voices = append(kept.Voices, copyOfVoice(v))
	}
	return kept
}

// anyCuts draws cuts whose sum is length, blocks without samples among them.
func anyCuts(r *rand.Rand, length int) []int {
	cuts := []int{}
	for left := length; left > 0; {
		cut := min(left, []int{0, 0, 1, 1, 2, 3, r.IntN(length + 1)}[r.IntN(7)])
		if len(cuts) == 99 {
			cut = left
		}
		cuts, left = append(cuts, cut), left-cut
	}
	return cuts
}

// checkPlaying checks all functions of streams on a valid score.
func checkPlaying(t *testing.T, s impl.Score, r *rand.Rand) heard {
	t.Helper()
	h := wantHeard(s)
	checkBlocks(t, h, anyCuts(r, s.Length))
	checkRendering(t, h, anyCuts(r, s.Length), 1+r.IntN(16))
	for range 5 {
		checkVoicesAt(t, h, r.IntN(s.Length+1))
	}
	return h
}

// checkBlocks advances a stream, and looks at it after each block.
func checkBlocks(t *testing.T, h heard, cuts []int) {
	t.Helper()
	stream, ok := impl.OpenStream(h.score)
	if want := h.stream(0); !ok || !sameStream(stream, want) {
		t.Fatalf("OpenStream of %s: %v %v, want %v", wantScoreText(h.score), stream, ok, want)
	}
	for _, n := range cuts {
		now := stream.Now
		next, samples, ok := impl.Advance(stream, n)
		if want := h.stream(now + n); !ok || !sameStream(next, want) || !sameAs(samples, h.samples[now:now+n]) {
			t.Fatalf("Advance by %d at %d of %s: %v %v %v, want %v %v", n, now, wantScoreText(h.score), next, samples, ok, want, h.samples[now:now+n])
		}
		if !impl.IsStream(next) {
			t.Fatalf("IsStream is false for %v", next)
		}
		stream = next
	}
}

func checkRendering(t *testing.T, h heard, cuts []int, workers int) {
	t.Helper()
	s := h.score
	check := func(name string, samples []float32, ok bool, want []float32) {
		t.Helper()
		if !ok || !sameAs(samples, want) {
			t.Fatalf("%s of %s: %v %v, want %v (cuts %v, %d workers)", name, wantScoreText(s), samples, ok, want, cuts, workers)
		}
	}
	samples, ok := impl.RenderScore(s)
	check("RenderScore", samples, ok, h.samples)
	samples, ok = impl.RenderCut(s, cuts)
	check("RenderCut", samples, ok, h.samples)
	samples, ok = impl.RenderWorkers(s, workers)
	check("RenderWorkers", samples, ok, h.samples)
	tracks, ok := impl.RenderVoices(s)
	if !ok || !sameTracks(tracks, h.tracks()) {
		t.Fatalf("RenderVoices of %s: %v %v, want %v", wantScoreText(s), tracks, ok, h.tracks())
	}
	mix := h.samples
	if len(tracks) == 0 {
		mix = nil
	}
	samples, ok = impl.MixTracks(tracks, s.Ceiling, s.Release)
	check("MixTracks", samples, ok, mix)
}

func checkVoicesAt(t *testing.T, h heard, at int) {
	t.Helper()
	var want []int
	for _, v := range h.voicesAt(at) {
		want = append(want, v.body)
	}
	valid := at >= 0 && at < h.score.Length
	if list, ok := impl.VoicesAt(h.score, at); ok != valid || !slices.Equal(list, want) {
		t.Fatalf("VoicesAt %d of %s: %v %v, want %v %v", at, wantScoreText(h.score), list, ok, want, valid)
	}
}
