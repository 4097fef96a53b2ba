package tests

import (
	"math"
	"math/rand/v2"
	"slices"
	"testing"

	"loop.example/g03222/impl"
)

func wantScore(s impl.Score) bool {
	ceiling, release := float64(s.Ceiling), float64(s.Release)
	if s.Length < 0 || s.Length > 2000 || s.Voices < 1 || s.Voices > 8 || len(s.Bodies) > 8 || len(s.Events) > 60 ||
		!finitePart(ceiling) || ceiling <= 0 || !isShare(release) || same(release, negativeZero) {
		return false
	}
	for _, e := range s.Events {
		if !wantEvent(e, len(s.Bodies)) {
			return false
		}
	}
	return !slices.ContainsFunc(s.Bodies, wrong)
}

func isShare(x float64) bool { return finitePart(x) && x >= 0 && x <= 1 }

func wantEvent(e impl.Event, bodies int) bool {
	force := float64(e.Force)
	if e.At < 0 || e.At > 2000 || e.Body < 0 || e.Body > bodies-1 {
		return false
	}
	switch e.Kind {
	case 1:
		return e.Shape >= 0 && e.Shape <= 2 && e.Count >= 1 && e.Count <= 64 && finitePart(force)
	case 2:
		return e.Shape == 0 && e.Count == 0 && isShare(force)
	case 3:
		return e.Shape == 0 && e.Count == 0 && same(force, 0)
	}
	return false
}

// wantOrder takes the events of one time after the other.
func wantOrder(events []impl.Event) []impl.Event {
	var list []impl.Event
	for at := range 2001 {
		for _, e := range events {
			if e.At == at {
				list = append(list, e)
			}
		}
	}
	return list
}

func wantCount(s impl.Score, from, to int) int {
	count := 0
	for _, e := range wantOrder(s.Events) {
		if from <= e.At && e.At < to {
			count++
		}
	}
	return count
}

// wantShift takes a shift for possible if the latest time has room for it.
func wantShift(s impl.Score, by int) (impl.Score, bool) {
	latest := s.Length
	for _, e := range s.Events {
		latest = max(latest, e.At)
	}
	if by < 0 || by > 2000-latest {
		return impl.Score{}, false
	}
	shifted := copyOfScore(s)
	shifted.Length = s.Length + by
	for i, e := range s.Events {
		shifted.Events[i].At = e.At + by
	}
	return shifted, true
}

func copyOfScore(s impl.Score) impl.Score {
	kept := s
	kept.Bodies, kept.Events = nil, slices.Clone(s.Events)
	for _, b := range s.Bodies {
		kept.Bodies = append(kept.Bodies, impl.Body{Modes: slices.Clone(b.Modes)})
	}
	return kept
}

func sameEvent(a, b impl.Event) bool {
	return a.At == b.At && a.Kind == b.Kind && a.Body == b.Body && a.Shape == b.Shape && a.Count == b.Count && sameSingle(a.Force, b.Force)
}

func sameEvents(a, b []impl.Event) bool { return slices.EqualFunc(a, b, sameEvent) }

func sameScore(a, b impl.Score) bool {
	return a.Length == b.Length && a.Voices == b.Voices && sameSingle(a.Ceiling, b.Ceiling) && sameSingle(a.Release, b.Release) &&
		slices.EqualFunc(a.Bodies, b.Bodies, sameBody) && sameEvents(a.Events, b.Events)
}

// checkScore checks all functions of scores, but reading, on a score.
func checkScore(t *testing.T, s impl.Score) bool {
	t.Helper()
	valid := wantScore(s)
	if impl.IsScore(s) != valid {
		t.Fatalf("IsScore of %v is not %v", s, valid)
	}
	if !valid {
		checkNoScore(t, s)
		return false
	}
	if ordered, want := impl.OrderEvents(s), wantOrder(s.Events); !sameEvents(ordered, want) {
		t.Fatalf("OrderEvents of %v: %v, want %v", s, ordered, want)
	}
	checkCount(t, s, 0, s.Length)
	checkCount(t, s, math.MinInt, math.MaxInt)
	checkShift(t, s, 0)
	checkShift(t, s, 1)
	checkScoreText(t, s)
	return true
}

func checkNoScore(t *testing.T, s impl.Score) {
	t.Helper()
	text, count, ordered := impl.FormatScore(s), impl.CountEvents(s, math.MinInt, math.MaxInt), impl.OrderEvents(s)
	if text != "" || count != 0 || len(ordered) != 0 {
		t.Fatalf("of %v, which is not valid: %q, %d, %v", s, text, count, ordered)
	}
	// A shift may put a time below 0 right, but not the score that has it.
	for _, by := range []int{0, 1, 2, 2000, -1, 1 << 32, math.MinInt, math.MaxInt} {
		if shifted, ok := impl.ShiftScore(s, by); ok || !sameScore(shifted, impl.Score{}) {
			t.Fatalf("ShiftScore of %v, which is not valid, by %d: %v %v", s, by, shifted, ok)
		}
	}
}

func checkCount(t *testing.T, s impl.Score, from, to int) {
	t.Helper()
	if n, want := impl.CountEvents(s, from, to), wantCount(s, from, to); n != want {
		t.Fatalf("CountEvents of %v from %d to %d: %d, want %d", s, from, to, n, want)
	}
}

func checkShift(t *testing.T, s impl.Score, by int) bool {
	t.Helper()
	want, valid := wantShift(s, by)
	if shifted, ok := impl.ShiftScore(s, by); ok != valid || !sameScore(shifted, want) {
		t.Fatalf("ShiftScore of %v by %d: %v %v, want %v %v", s, by, shifted, ok, want, valid)
	}
	return valid
}

// checkValid checks also whether the score is valid as told, so that the tests do
// not lean on wantScore alone.
func checkValid(t *testing.T, s impl.Score, want bool) {
	t.Helper()
	if checkScore(t, s) != want {
		t.Errorf("IsScore of %v is not %v", s, want)
	}
}

// checkEvent checks an event on its own, and as the first, a middle and the last
// one.
func checkEvent(t *testing.T, e impl.Event, want bool) {
	t.Helper()
	s := plainScore()
	for i := range len(s.Events) + 1 {
		more := plainScore()
		more.Events = slices.Insert(more.Events, i, e)
		checkValid(t, more, want)
	}
	s.Events = []impl.Event{e}
	checkValid(t, s, want)
}

func strikeAt(at int) impl.Event {
	return impl.Event{At: at, Kind: impl.EventStrike, Body: 2, Shape: impl.ShapeArch, Count: 5, Force: -0.75}
}

func dampAt(at int) impl.Event { return impl.Event{At: at, Kind: impl.EventDamp, Force: 0.5} }

func stopAt(at int) impl.Event { return impl.Event{At: at, Kind: impl.EventStop, Body: 1} }

// eventsAt are one event of each kind.
func eventsAt(at int) []impl.Event { return []impl.Event{strikeAt(at), dampAt(at), stopAt(at)} }

// plainScore has three bodies, and three events that are not in order.
func plainScore() impl.Score {
	return impl.Score{
		Length: 10, Voices: 2, Ceiling: 1, Release: 0.5,
		Bodies: []impl.Body{distinctModes(2), {}, distinctModes(3)},
		Events: []impl.Event{strikeAt(3), dampAt(0), stopAt(3)},
	}
}

// anyScore draws a valid score, with numbers at their limits among others.
func anyScore(r *rand.Rand) impl.Score {
	s := impl.Score{
		Length: anyAt(r), Voices: 1 + r.IntN(8),
		Ceiling: []float32{1, 0.1, leastSingle, greatestSingle, 0x1p-126, 3}[r.IntN(6)],
		Release: []float32{0, 1, leastSingle, 0.9, 1 - 0x1p-24, 0.5}[r.IntN(6)],
	}
	for range r.IntN(9) {
		b := anyBody(r, r.IntN(4))
		if r.IntN(8) == 0 {
			b = extremeBody(r, 16)
		}
		s.Bodies = append(s.Bodies, b)
	}
	if len(s.Bodies) > 0 {
		for range []int{0, 1, 2, 5, 10, 60}[r.IntN(6)] {
			s.Events = append(s.Events, anyEvent(r, len(s.Bodies)))
		}
	}
	return s
}

// anyAt returns few different times often, so that events share them.
func anyAt(r *rand.Rand) int {
	if r.IntN(2) == 0 {
		return []int{0, 1, 2, 3, 10, 1999, 2000}[r.IntN(7)]
	}
	return r.IntN(2001)
}

func anyEvent(r *rand.Rand, bodies int) impl.Event {
	e := impl.Event{At: anyAt(r), Kind: 1 + r.IntN(3), Body: r.IntN(bodies)}
	switch e.Kind {
	case 1:
		e.Shape, e.Count = r.IntN(3), 1+r.IntN(64)
		for e.Force = anySingle(r); !finitePart(float64(e.Force)); {
			e.Force = anySingle(r)
		}
	case 2:
		e.Force = factors()[r.IntN(len(factors()))]
	}
	return e
}

// wildIntegers are near the limits of all kinds of integers of scores.
func wildIntegers() []int {
	return []int{math.MinInt, math.MinInt + 1, -1 << 32, -2001, -2, -1, 0, 1, 2, 3, 4, 7, 8, 9, 10, 59, 60, 61, 63, 64, 65,
		1999, 2000, 2001, 1 << 31, 1 << 32, 1<<32 + 1, math.MaxInt - 1, math.MaxInt}
}

func TestP10LimitsOfScores(t *testing.T) {
	if impl.MaxBodies != 8 || impl.MaxEvents != 60 || impl.MaxVoices != 8 {
		t.Errorf("MaxBodies is %d, MaxEvents %d, MaxVoices %d", impl.MaxBodies, impl.MaxEvents, impl.MaxVoices)
	}
	if impl.EventStrike != 1 || impl.EventDamp != 2 || impl.EventStop != 3 {
		t.Errorf("the kinds are %d, %d, %d", impl.EventStrike, impl.EventDamp, impl.EventStop)
	}
}

func TestP10ValidLengthsAndVoices(t *testing.T) {
	for _, n := range wildIntegers() {
		s := plainScore()
		s.Length = n
		checkValid(t, s, n >= 0 && n <= 2000)
		s.Length, s.Events = n, nil
		checkValid(t, s, n >= 0 && n <= 2000)
		s = plainScore()
		s.Voices = n
		checkValid(t, s, n >= 1 && n <= 8)
	}
	checkValid(t, impl.Score{Voices: 1, Ceiling: 1}, true)
	checkValid(t, impl.Score{Voices: 8, Ceiling: leastSingle, Bodies: []impl.Body{}, Events: []impl.Event{}}, true)
	checkValid(t, impl.Score{}, false)
	checkValid(t, impl.Score{Voices: 1}, false)
	checkValid(t, impl.Score{Ceiling: 1}, false)
}

func TestP10ValidCeilings(t *testing.T) {
	for _, x := range []float32{leastSingle, 0x1p-126, 0.5, 1, 2, 0.1, 0x1p127, greatestSingle} {
		s := plainScore()
		s.Ceiling = x
		checkValid(t, s, true)
		s.Ceiling = -x
		checkValid(t, s, false)
	}
	for _, x := range []float32{0, narrow(negativeZero), float32(inf), float32(-inf), float32(nan)} {
		s := plainScore()
		s.Ceiling = x
		checkValid(t, s, false)
	}
}

func TestP10ValidReleases(t *testing.T) {
	minus := narrow(negativeZero)
	for _, x := range slices.Concat(factors(), wrongFactors()) {
		s := plainScore()
		s.Release = x
		checkValid(t, s, slices.Contains(factors(), x) && !sameSingle(x, minus))
	}
}

func TestP10ValidBodiesOfScores(t *testing.T) {
	for n := range 20 {
		bodies := make([]impl.Body, n)
		for i := range bodies {
			bodies[i] = distinctModes(i % 4)
		}
		s := impl.Score{Length: 1, Voices: 1, Ceiling: 1, Bodies: bodies}
		checkValid(t, s, n <= 8)
		for _, body := range []int{-1, 0, n - 1, n, n + 1, math.MinInt, math.MaxInt} {
			for _, e := range eventsAt(1) {
				e.Body = body
				s.Events = []impl.Event{e}
				checkValid(t, s, n <= 8 && body >= 0 && body < n)
			}
		}
	}
	for _, bad := range wrongBodies() {
		for i := range 3 {
			s := plainScore()
			s.Bodies[i] = bad
			checkValid(t, s, false)
		}
	}
	s := plainScore()
	s.Bodies = slices.Repeat([]impl.Body{distinctModes(16)}, 8)
	checkValid(t, s, true)
	s.Bodies = append(s.Bodies, impl.Body{})
	checkValid(t, s, false)
}

func TestP10ValidNumbersOfEvents(t *testing.T) {
	for _, n := range []int{0, 1, 2, 59, 60, 61, 62, 1000} {
		for _, e := range eventsAt(7) {
			s := plainScore()
			s.Events = slices.Repeat([]impl.Event{e}, n)
			checkValid(t, s, n <= 60)
		}
	}
}

func TestP10ValidTimesAndPlaces(t *testing.T) {
	for _, n := range wildIntegers() {
		for _, e := range eventsAt(n) {
			checkEvent(t, e, n >= 0 && n <= 2000)
		}
		for _, e := range eventsAt(1) {
			e.Body = n
			checkEvent(t, e, n >= 0 && n <= 2)
		}
	}
}

func TestP10ValidKinds(t *testing.T) {
	for _, n := range wildIntegers() {
		for _, e := range eventsAt(1) {
			kind := e.Kind
			e.Kind = n
			// A damp by 0 would be a stop but for its kind, and a stop a damp.
			checkEvent(t, e, n == kind || n == impl.EventDamp && kind == impl.EventStop)
		}
	}
}

func TestP10ValidStrikes(t *testing.T) {
	for _, n := range wildIntegers() {
		for _, kind := range wildIntegers() {
			e := strikeAt(1)
			e.Shape, e.Count = kind, n
			checkEvent(t, e, kind >= 0 && kind <= 2 && n >= 1 && n <= 64)
		}
	}
	for _, x := range append(specialSingles(), factors()...) {
		e := strikeAt(1)
		e.Force = x
		checkEvent(t, e, finitePart(float64(x)))
	}
}

func TestP10ValidDampsAndStops(t *testing.T) {
	for _, e := range []impl.Event{dampAt(1), stopAt(1)} {
		for _, n := range wildIntegers() {
			shape, count, both := e, e, e
			shape.Shape, count.Count, both.Shape, both.Count = n, n, n, n
			checkEvent(t, shape, n == 0)
			checkEvent(t, count, n == 0)
			checkEvent(t, both, n == 0)
		}
		for _, x := range slices.Concat(factors(), wrongFactors(), specialSingles()) {
			e.Force = x
			checkEvent(t, e, e.Kind == impl.EventDamp && x >= 0 && x <= 1 || sameSingle(x, 0))
		}
	}
}

func TestP10ValidScoresOfAnyNumbers(t *testing.T) {
	r := newRandom()
	valid := 0
	for range 5000 {
		s := anyScore(r)
		if !checkScore(t, s) {
			t.Fatalf("%v is not valid", s)
		}
		n, x := wildIntegers()[r.IntN(29)], specialSingles()[r.IntN(17)]
		switch i := r.IntN(9); {
		case i == 0:
			s.Length = n
		case i == 1:
			s.Voices = n
		case i == 2:
			s.Ceiling = x
		case i == 3:
			s.Release = x
		case len(s.Events) > 0:
			e := &s.Events[r.IntN(len(s.Events))]
			*[]*int{&e.At, &e.Kind, &e.Body, &e.Shape, &e.Count}[i-4] = n
			if r.IntN(4) == 0 {
				e.Force = x
			}
		}
		if checkScore(t, s) {
			valid++
		}
	}
	if valid < 1000 || valid > 4000 {
		t.Errorf("%d of 5000 are valid", valid)
	}
}

func TestP7EventsInTheOrderOfTimes(t *testing.T) {
	for _, c := range []struct{ times, want []int }{
		{nil, nil},
		{[]int{2000}, []int{0}},
		{[]int{0, 1, 2}, []int{0, 1, 2}},
		{[]int{2, 1, 0}, []int{2, 1, 0}},
		{[]int{5, 5, 5, 5}, []int{0, 1, 2, 3}},
		{[]int{2000, 0, 2000, 0, 10}, []int{1, 3, 4, 0, 2}},
		{[]int{11, 10, 9, 11, 10, 9, 1999}, []int{2, 5, 1, 4, 0, 3, 6}},
	} {
		s := plainScore()
		s.Events = nil
		for i, at := range c.times {
			e := strikeAt(at)
			e.Count = i + 1 // tells it from the others
			s.Events = append(s.Events, e)
		}
		var want []impl.Event
		for _, i := range c.want {
			want = append(want, s.Events[i])
		}
		if list := impl.OrderEvents(s); !sameEvents(list, want) {
			t.Errorf("OrderEvents of the times %v: %v, want %v", c.times, list, want)
		}
	}
}

// Events of one time stay as they are, whatever their kinds are.
func TestP7EventsOfOneTimeStay(t *testing.T) {
	var try func(events []impl.Event)
	try = func(events []impl.Event) {
		for _, before := range []impl.Event{strikeAt(8), dampAt(8), stopAt(8)} {
			s := plainScore()
			s.Events = append([]impl.Event{before}, events...)
			want := append(slices.Clone(events), before)
			if list := impl.OrderEvents(s); !sameEvents(list, want) {
				t.Fatalf("OrderEvents of %v: %v, want %v", s.Events, list, want)
			}
		}
		if len(events) == 5 {
			return
		}
		for _, e := range eventsAt(7) {
			e.Body = len(events) % 3
			try(append(slices.Clone(events), e))
		}
	}
	try(nil)
}

func TestP7ManyEventsInOrder(t *testing.T) {
	r := newRandom()
	for n := range impl.MaxEvents + 1 {
		for _, times := range []int{1, 2, 5, 60, 2001} {
			s := plainScore()
			s.Events = nil
			for i := range n {
				e := anyEvent(r, 3)
				e.At = r.IntN(times)
				if e.Kind == impl.EventStrike {
					e.Count = i + 1
				}
				s.Events = append(s.Events, e)
			}
			checkScore(t, s)
			slices.Reverse(s.Events)
			checkScore(t, s)
		}
	}
}

func TestP7CountedEvents(t *testing.T) {
	s := plainScore()
	s.Events = slices.Concat(eventsAt(0), eventsAt(10), []impl.Event{dampAt(2000), stopAt(3), dampAt(3), strikeAt(11)})
	for _, c := range []struct{ from, to, want int }{
		{0, 0, 0}, {0, 1, 3}, {0, 3, 3}, {0, 4, 5}, {3, 4, 2}, {4, 10, 0}, {4, 11, 3}, {10, 10, 0}, {10, 12, 4}, {11, 2000, 1}, {11, 2001, 2},
		{-1, 0, 0}, {-5, 1, 3}, {-5, -1, 0}, {2000, 2000, 0}, {2000, 2001, 1}, {2001, 3000, 0}, {0, 2000, 9}, {0, 2001, 10},
		{1, 0, 0}, {4, 3, 0}, {2001, 0, 0}, {math.MaxInt, math.MinInt, 0}, {math.MinInt, math.MaxInt, 10}, {math.MinInt, 0, 0}, {math.MinInt, 1, 3},
		{1, math.MaxInt, 7}, {math.MaxInt, math.MaxInt, 0}, {math.MinInt, math.MinInt, 0},
	} {
		if n := impl.CountEvents(s, c.from, c.to); n != c.want {
			t.Errorf("CountEvents from %d to %d: %d, want %d", c.from, c.to, n, c.want)
		}
	}
	r := newRandom()
	for range 500 {
		s := anyScore(r)
		for range 20 {
			checkCount(t, s, anyAt(r)-2, anyAt(r)+2)
			checkCount(t, s, wildIntegers()[r.IntN(29)], wildIntegers()[r.IntN(29)])
		}
	}
}

func TestP10ShiftedScores(t *testing.T) {
	early, late, full := plainScore(), plainScore(), plainScore()
	late.Events = append(late.Events, dampAt(1900))
	full.Events = append(full.Events, stopAt(2000))
	none := impl.Score{Voices: 1, Ceiling: 1}
	for _, c := range []struct {
		s    impl.Score
		most int
	}{{early, 1990}, {late, 100}, {full, 0}, {none, 2000}} {
		for _, by := range append(wildIntegers(), 5, 99, 100, 101, 1989, 1990, 1991, math.MaxInt-10, math.MaxInt-100, math.MinInt+10, math.MinInt+100) {
			if checkShift(t, c.s, by) != (by >= 0 && by <= c.most) {
				t.Errorf("ShiftScore by %d, of at most %d", by, c.most)
			}
		}
	}
	shifted, ok := impl.ShiftScore(early, 7)
	want := plainScore()
	want.Length, want.Events = 17, []impl.Event{strikeAt(10), dampAt(7), stopAt(10)}
	if !ok || !sameScore(shifted, want) {
		t.Errorf("ShiftScore by 7: %v %v, want %v", shifted, ok, want)
	}
	r := newRandom()
	for range 2000 {
		s := anyScore(r)
		checkShift(t, s, r.IntN(2100)-50)
		checkShift(t, s, r.IntN(20))
		s.Events = append(s.Events, impl.Event{Kind: 4})
		checkNoScore(t, s)
	}
}

// memoryOfScore returns a score with memory behind each of its lists, and that
// memory.
func memoryOfScore() (impl.Score, impl.Score) {
	s := impl.Score{Length: 10, Voices: 2, Ceiling: 1, Release: 0.5}
	modes := append(distinctModes(2).Modes, impl.Mode{Pole: 7}, impl.Mode{Pole: 7})
	stray := impl.Body{Modes: modes}
	bodies := []impl.Body{{Modes: modes[:2]}, {Modes: modes[1:2]}, {Modes: modes[:0]}, stray, stray}
	events := []impl.Event{strikeAt(3), dampAt(0), stopAt(3), {At: 1, Kind: 7}, {At: 0, Kind: 7}}
	behind := s
	s.Bodies, s.Events = bodies[:3], events[:3]
	behind.Bodies, behind.Events = bodies, events
	return s, behind
}

func TestP10ScoresKeepNothing(t *testing.T) {
	s, behind := memoryOfScore()
	before, all := copyOfScore(s), copyOfScore(behind)
	check := func(name string) {
		t.Helper()
		if !sameScore(s, before) || !sameScore(behind, all) {
			t.Fatalf("%s changes %v, or the memory behind it", name, s)
		}
	}
	impl.IsScore(s)
	check("IsScore")
	impl.CountEvents(s, 0, 5)
	check("CountEvents")
	text := impl.FormatScore(s)
	check("FormatScore")
	list := impl.OrderEvents(s)
	again := impl.OrderEvents(s)
	scribbleEvents(list)
	if check("OrderEvents"); !sameEvents(again, wantOrder(s.Events)) {
		t.Errorf("two orders of events share memory: %v", again)
	}
	shifted, _ := impl.ShiftScore(s, 5)
	scribbleScore(shifted)
	check("ShiftScore")
	shifted, _ = impl.ShiftScore(s, 0)
	scribbleScore(shifted)
	check("ShiftScore by 0")
	parsed, _ := impl.ParseScore(text)
	scribbleScore(parsed)
	if parsed, ok := impl.ParseScore(text); !ok || !sameScore(parsed, before) {
		t.Errorf("ParseScore of %q keeps what it returns: %v %v", text, parsed, ok)
	}
}

func scribbleEvents(list []impl.Event) {
	for i := range list {
		list[i] = impl.Event{At: 9, Kind: 9}
	}
	_ = append(list, impl.Event{At: 9, Kind: 9})
}

func scribbleModes(b impl.Body) {
	for k := range b.Modes {
		b.Modes[k] = impl.Mode{Pole: 9, Gain: 9}
	}
	_ = append(b.Modes, impl.Mode{Pole: 9})
}

func scribbleScore(s impl.Score) {
	for i := range s.Bodies {
		scribbleModes(s.Bodies[i])
		s.Bodies[i] = impl.Body{}
	}
	_ = append(s.Bodies, impl.Body{})
	scribbleEvents(s.Events)
}

// The bodies of one result share no memory, also where those of the score do.
func TestP10BodiesOfScoresShareNothing(t *testing.T) {
	s, _ := memoryOfScore()
	s.Bodies = []impl.Body{s.Bodies[0], s.Bodies[0], s.Bodies[1], {}}
	text := impl.FormatScore(s)
	for i := range s.Bodies {
		shifted, _ := impl.ShiftScore(s, 1)
		parsed, _ := impl.ParseScore(text)
		for _, result := range []impl.Score{shifted, parsed} {
			kept := copyOfScore(result)
			scribbleModes(result.Bodies[i])
			scribbleModes(kept.Bodies[i])
			if !sameScore(result, kept) {
				t.Errorf("body %d shares memory with another one: %v, want %v", i, result, kept)
			}
		}
	}
}
