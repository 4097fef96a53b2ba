package tests

import (
	"fmt"
	"regexp"
	"slices"
	"strconv"
	"strings"
	"testing"

	"loop.example/g03222/impl"
)

// The texts that are wanted are put together from those of files_test.go, and
// texts of scores are read by patterns of them.

func wantScoreText(s impl.Score) string {
	text := fmt.Sprintf("score %d %d %s %s\n", s.Length, s.Voices, wantText(float64(s.Ceiling)), wantText(float64(s.Release)))
	for _, b := range s.Bodies {
		text += "body\n" + wantBodyText(b)
	}
	for _, e := range s.Events {
		switch force := wantText(float64(e.Force)); e.Kind {
		case 1:
			text += fmt.Sprintf("at %d strike %d %d %d %s\n", e.At, e.Body, e.Shape, e.Count, force)
		case 2:
			text += fmt.Sprintf("at %d damp %d %s\n", e.At, e.Body, force)
		case 3:
			text += fmt.Sprintf("at %d stop %d\n", e.At, e.Body)
		}
	}
	return text
}

// scorePattern has INT for an integer, of which those of valid scores have no
// more digits, and NUM for what may be a number.
func scorePattern(s string) *regexp.Regexp {
	return regexp.MustCompile(strings.NewReplacer("INT", `(0|[1-9][0-9]{0,3})`, "NUM", `(\S+)`).Replace(s))
}

var (
	wholeScore = scorePattern(`\Ascore INT INT NUM NUM\n((?:body\n(?:mode .*\n)*)*)((?:at .*\n)*)\z`)
	strikeLine = scorePattern(`\Aat INT strike INT INT INT NUM\z`)
	dampLine   = scorePattern(`\Aat INT damp INT NUM\z`)
	stopLine   = scorePattern(`\Aat INT stop INT\z`)
)

func wantReadScore(text string) (impl.Score, bool) {
	parts := wholeScore.FindStringSubmatch(text)
	if parts == nil {
		return impl.Score{}, false
	}
	ceiling, first := wantNumber(parts[3], singleWidth())
	release, second := wantNumber(parts[4], singleWidth())
	s := impl.Score{Length: shortInteger(parts[1]), Voices: shortInteger(parts[2]), Ceiling: float32(ceiling), Release: float32(release)}
	valid := first && second
	for _, modes := range strings.Split(parts[5], "body\n")[1:] {
		b, ok := wantReadBody(modes)
		s.Bodies, valid = append(s.Bodies, b), valid && ok
	}
	for line := range strings.Lines(parts[6]) {
		e, ok := wantReadEvent(strings.TrimSuffix(line, "\n"))
		s.Events, valid = append(s.Events, e), valid && ok
	}
	if !valid || !wantScore(s) {
		return impl.Score{}, false
	}
	return s, true
}

func wantReadEvent(line string) (impl.Event, bool) {
	if p := strikeLine.FindStringSubmatch(line); p != nil {
		force, ok := wantNumber(p[5], singleWidth())
		return impl.Event{At: shortInteger(p[1]), Kind: 1, Body: shortInteger(p[2]), Shape: shortInteger(p[3]), Count: shortInteger(p[4]), Force: float32(force)}, ok
	}
	if p := dampLine.FindStringSubmatch(line); p != nil {
		force, ok := wantNumber(p[3], singleWidth())
		return impl.Event{At: shortInteger(p[1]), Kind: 2, Body: shortInteger(p[2]), Force: float32(force)}, ok
	}
	if p := stopLine.FindStringSubmatch(line); p != nil {
		return impl.Event{At: shortInteger(p[1]), Kind: 3, Body: shortInteger(p[2])}, true
	}
	return impl.Event{}, false
}

func shortInteger(s string) int {
	x, _ := strconv.Atoi(s)
	return x
}

// checkReadScore reads a text, and returns whether it is that of a score.
func checkReadScore(t *testing.T, text string) bool {
	t.Helper()
	want, valid := wantReadScore(text)
	s, ok := impl.ParseScore(text)
	if ok != valid || !sameScore(s, want) {
		t.Fatalf("ParseScore of %q: %v %v, want %v %v", text, s, ok, want, valid)
	}
	if ok {
		checkAgain(t, text, impl.FormatScore(s))
	}
	return ok
}

func checkScoreText(t *testing.T, s impl.Score) {
	t.Helper()
	want := wantScoreText(s)
	if text := impl.FormatScore(s); text != want {
		t.Fatalf("FormatScore of %v: %q, want %q", s, text, want)
	}
	if back, ok := impl.ParseScore(want); !ok || !sameScore(back, s) {
		t.Fatalf("ParseScore of %q: %v %v, want %v", want, back, ok, s)
	}
}

const plainText = "score 10 2 1p0 1p-1\n" +
	"body\nmode 0 1p-1 1p0 0\nmode 1p-6 1p-1 1p0 1p0\n" +
	"body\n" +
	"body\nmode 0 1p-1 1p0 0\nmode 1p-6 1p-1 1p0 1p0\nmode 1p-5 1p-1 1p0 1p1\n" +
	"at 3 strike 2 2 5 -3p-2\nat 0 damp 0 1p-1\nat 3 stop 1\n"

func TestP7ScoresAreReadBack(t *testing.T) {
	r := newRandom()
	for range 3000 {
		s := anyScore(r)
		checkScoreText(t, s)
		s.Ceiling, s.Release = absolute(anySingle(r)), narrow(r.Float64())
		if wantScore(s) {
			checkScoreText(t, s)
		}
	}
}

func absolute(x float32) float32 { return max(x, -x) }

func TestP7TextsOfScoresByHand(t *testing.T) {
	minus := narrow(negativeZero)
	half := bodyOf(impl.Mode{Pole: 0.5, Gain: 2})
	for _, c := range []struct {
		s    impl.Score
		want string
	}{
		{plainScore(), plainText},
		{impl.Score{Voices: 1, Ceiling: 1}, "score 0 1 1p0 0\n"},
		{impl.Score{Length: 2000, Voices: 8, Ceiling: greatestSingle, Release: 1}, "score 2000 8 16777215p104 1p0\n"},
		{impl.Score{Length: 1, Voices: 3, Ceiling: leastSingle, Release: leastSingle, Bodies: []impl.Body{{}}}, "score 1 3 1p-149 1p-149\nbody\n"},
		{impl.Score{Length: 1000, Voices: 1, Ceiling: 10, Release: 1 - 0x1p-24, Bodies: make([]impl.Body, 8)}, "score 1000 1 5p1 16777215p-24\n" + strings.Repeat("body\n", 8)},
		{impl.Score{Length: 20, Voices: 1, Ceiling: 0.1, Bodies: []impl.Body{{}, half, {}}}, "score 20 1 13421773p-27 0\nbody\nbody\nmode 1p-1 0 1p1 0\nbody\n"},
		{impl.Score{Length: 4, Voices: 1, Ceiling: 1, Bodies: []impl.Body{half}, Events: []impl.Event{{At: 1, Kind: 1, Count: 1, Force: 0.25}}},
			"score 4 1 1p0 0\nbody\nmode 1p-1 0 1p1 0\nat 1 strike 0 0 1 1p-2\n"},
		{impl.Score{Voices: 1, Ceiling: 1, Bodies: []impl.Body{{}, {}}, Events: []impl.Event{
			{At: 2000, Kind: 1, Body: 1, Shape: 2, Count: 64, Force: minus}, {At: 2000, Kind: 1, Shape: 1, Count: 10, Force: -greatestSingle}, {At: 100, Kind: 1, Count: 1},
			{At: 0, Kind: 2, Body: 1, Force: minus}, {At: 0, Kind: 2}, {At: 10, Kind: 2, Force: 1}, {At: 7, Kind: 3, Body: 1}, {At: 7, Kind: 3}}},
			"score 0 1 1p0 0\nbody\nbody\nat 2000 strike 1 2 64 -0\nat 2000 strike 0 1 10 -16777215p104\nat 100 strike 0 0 1 0\n" +
				"at 0 damp 1 -0\nat 0 damp 0 0\nat 10 damp 0 1p0\nat 7 stop 1\nat 7 stop 0\n"},
	} {
		if text := impl.FormatScore(c.s); text != c.want {
			t.Errorf("FormatScore of %v: %q, want %q", c.s, text, c.want)
		}
		if s, ok := impl.ParseScore(c.want); !ok || !sameScore(s, c.s) {
			t.Errorf("ParseScore of %q: %v %v", c.want, s, ok)
		}
		checkReadScore(t, c.want)
	}
}

func TestP7NothingElseIsReadOfScores(t *testing.T) {
	r := newRandom()
	texts := []string{plainText, "score 0 1 1p0 0\n", "score 2000 8 16777215p104 1p0\nbody\nbody\nat 2000 stop 1\nat 2000 damp 0 -0\n"}
	for len(texts) < 20 {
		if s := anyScore(r); len(s.Events) <= 5 && len(s.Bodies) <= 3 {
			texts = append(texts, wantScoreText(s))
		}
	}
	read, refused := 0, 0
	for _, text := range texts {
		if len(text) > 300 {
			continue
		}
		for _, changed := range append(changedTexts(text), changedWords(text)...) {
			if checkReadScore(t, changed) {
				read++
			} else {
				refused++
			}
		}
	}
	if read < 500 || refused < 20000 {
		t.Errorf("%d texts are read, %d are not", read, refused)
	}
}

// changedWords returns all texts that differ from s by a word or a sign of scores
// that stands in place of a part, or by a part that is left out.
func changedWords(s string) []string {
	words := []string{"", "score", "body", "mode", "at", "strike", "damp", "stop", "0", "1", "-1", "2000", "2001", "1p0", "-0", "01", "+1", "1 1"}
	var list []string
	lines := strings.SplitAfter(s, "\n")
	for i, line := range lines {
		parts := strings.Split(strings.TrimSuffix(line, "\n"), " ")
		for k := range parts {
			changed := slices.Clone(parts)
			for _, word := range words {
				changed[k] = word
				list = append(list, withLine(lines, i, strings.Join(changed, " ")+"\n"))
			}
			list = append(list, withLine(lines, i, strings.Join(slices.Delete(changed, k, k+1), " ")+"\n"))
		}
	}
	return list
}

func withLine(lines []string, i int, line string) string {
	changed := slices.Clone(lines)
	changed[i] = line
	return strings.Join(changed, "")
}

// All texts of a few lines or parts of lines, among them those whose lines are in
// another order.
func TestP7AllTextsOfFewLines(t *testing.T) {
	parts := []string{"score 1 1 1p0 0\n", "body\n", "mode 0 0 0 0\n", "at 0 stop 0\n", "at 1 damp 0 0\n", "at 1 strike 0 0 1 0\n", "at 0 stop 1\n", "at 0", "body", " ", "\n"}
	read := 0
	var try func(text string, more int)
	try = func(text string, more int) {
		if checkReadScore(t, text) {
			read++
		}
		if more == 0 {
			return
		}
		for _, part := range parts {
			try(text+part, more-1)
		}
	}
	try("", 3)
	try(parts[0], 4)
	if read < 100 {
		t.Errorf("only %d of these are texts", read)
	}
}

func TestP7LinesOfScoresThatAreNotRead(t *testing.T) {
	for _, text := range []string{
		"", "\n", "\n\n", " ", "score", "score\n", "score 1\n", "score 1 1\n", "score 1 1 1p0\n", "score 1 1 1p0 0", "score 1 1 1p0 0 \n", "score 1 1 1p0 0 0\n",
		"score 1 1 1p0 0\n\n", "score 1 1 1p0 0\n ", "score 1 1 1p0 0\nx", "score 1 1 1p0 0\n\x00", "score 1 1 1p0 0\n\xff", " score 1 1 1p0 0\n", "\nscore 1 1 1p0 0\n",
		"score  1 1 1p0 0\n", "score 1  1 1p0 0\n", "score 1 1 1p0  0\n", "score\t1 1 1p0 0\n", "score 1 1 1p0 0\r\n", "Score 1 1 1p0 0\n", "scores 1 1 1p0 0\n", "score1 1 1p0 0\n",
		"body\n", "body\nscore 1 1 1p0 0\n", "mode 0 0 0 0\nscore 1 1 1p0 0\n", "score 1 1 1p0 0\nmode 0 0 0 0\n", "score 1 1 1p0 0\nmode 0 0 0 0\nbody\n",
		"score 1 1 1p0 0\nbody", "score 1 1 1p0 0\nbody \n", "score 1 1 1p0 0\n body\n", "score 1 1 1p0 0\nbody 0\n", "score 1 1 1p0 0\nBody\n", "score 1 1 1p0 0\nbodybody\n",
		"score 1 1 1p0 0\nbody\n\nbody\n", "score 1 1 1p0 0\nbody\nwide 0 0 0 0\n", "score 1 1 1p0 0\nbody\nplace\n", "score 1 1 1p0 0\nbody\nmode 0 0 0 0", "score 1 1 1p0 0\nbody\nmode 0 0 0\n",
		"score 1 1 1p0 0\nscore 1 1 1p0 0\n", "score 1 1 1p0 0\nbody\nscore 1 1 1p0 0\n", "score 1 1 1p0 0 body\n", "score 1 1 1p0 0body\n",
		"score 1 1 1p0 0\nat 0 stop 0\n", "score 1 1 1p0 0\nat 0 stop 0\nbody\n", "score 1 1 1p0 0\nbody\nat 0 stop 0\nmode 0 0 0 0\n", "score 1 1 1p0 0\nbody\nat 0 stop 0\nbody\n",
	} {
		if checkReadScore(t, text) {
			t.Errorf("%q is read", text)
		}
	}
	for _, line := range []string{
		"at", "at ", "at 0", "at 0 ", "at 0 stop", "at 0 stop ", "at 0 stop 0 ", "at 0 stop 0 0", "at 0 stop 0 0 0 0", "at  0 stop 0", "at 0  stop 0", "at 0 stop  0", " at 0 stop 0",
		"At 0 stop 0", "at 0 Stop 0", "at 0 stops 0", "at 0 sto 0", "at 0 none 0", "at 0 0 0", "at stop 0", "0 stop 0", "stop 0", "at 0 stop0", "at 0stop 0", "at 0 stop 0\x00", "at 0 stop 0\r", "at 0 stop ٣",
		"at 0 damp", "at 0 damp 0", "at 0 damp 0 ", "at 0 damp 0 0 ", "at 0 damp 0 0 0", "at 0 damp 0 0 0 0", "at 0 damp 0  0", "at 0 damps 0 0", "at 0 damp 0 1", "at 0 damp 0 0.5",
		"at 0 strike", "at 0 strike 0", "at 0 strike 0 0", "at 0 strike 0 0 1", "at 0 strike 0 0 1 ", "at 0 strike 0 0 1 0 ", "at 0 strike 0 0 1 0 0", "at 0 strike 0 0  1 0",
		"at 0 strike 0 0 1 1", "at 0 strike 0 1p0 1 0", "at 0 strike 0 0 1p0 0", "at 0 strike 0 click 1 0", "at 0 ring 0 0 1 0", "strike at 0 0 0 1 0", "strike 0 0 0 1 0",
		"at 0 1 0 0 1 0", "at 0 2 0 0", "at 0 3 0", "at 0 stop 0at 0 stop 0", "at 0 stop 0 at 0 stop 0", "at 1p0 stop 0", "at 0 stop 1p0", "at 0 stop -0", "at -0 stop 0", "at -1 stop 0",
	} {
		for _, text := range []string{"X\n", "at 0 stop 0\nX\n", "X\nat 0 stop 0\n", "X"} {
			if checkReadScore(t, "score 1 1 1p0 0\nbody\n"+strings.Replace(text, "X", line, 1)) {
				t.Errorf("%q is read", line)
			}
		}
	}
}

// hostileIntegers are no texts of integers, or of none that a score has.
func hostileIntegers() []string {
	return []string{"", " ", "-", "+", "+0", "+1", "-0", "-1", "-2000", "00", "01", "0001", "007", "1.0", "1e0", "0x1", "0b1", "1_0", "1p0", "0p0", "one", "none",
		"2001", "10000", "4294967296", "4294967297", "9223372036854775807", "9223372036854775808", "-9223372036854775808", "-9223372036854775809",
		"18446744073709551616", "18446744073709551617", strings.Repeat("0", 400), strings.Repeat("0", 400) + "1", strings.Repeat("9", 5000), "１", "٣", "1\x00", "\xff", "1\r", "1\t", "1\n"}
}

func TestP7IntegersThatAreNotRead(t *testing.T) {
	for _, s := range []string{"score X 1 1p0 0\n", "score 1 X 1p0 0\n", "score 1 1 1p0 0\nbody\nat X stop 0\n", "score 1 1 1p0 0\nbody\nat 1 stop X\n",
		"score 1 1 1p0 0\nbody\nat X damp 0 0\n", "score 1 1 1p0 0\nbody\nat 1 damp X 0\n", "score 1 1 1p0 0\nbody\nat X strike 0 0 1 0\n",
		"score 1 1 1p0 0\nbody\nat 1 strike X 0 1 0\n", "score 1 1 1p0 0\nbody\nat 1 strike 0 X 1 0\n", "score 1 1 1p0 0\nbody\nat 1 strike 0 0 X 0\n"} {
		for _, x := range hostileIntegers() {
			if checkReadScore(t, strings.Replace(s, "X", x, 1)) {
				t.Errorf("%q is read with %.40q for X", s, x)
			}
		}
		// What is wrong in the tests above is the integer alone.
		if !checkReadScore(t, strings.Replace(s, "X", "0", 1)) && !checkReadScore(t, strings.Replace(s, "X", "1", 1)) {
			t.Errorf("%q is not read with 0 or 1 for X", s)
		}
	}
}

func TestP7NumbersOfScoresThatAreNotRead(t *testing.T) {
	for _, x := range hostileNumbers() {
		for _, s := range []string{"score 1 1 X 0\n", "score 1 1 1p0 X\n", "score 1 1 1p0 0\nbody\nmode 0 X 0 0\n", "score 1 1 1p0 0\nbody\nat 1 damp 0 X\n",
			"score 1 1 1p0 0\nbody\nat 1 strike 0 0 1 X\n", "score 1 1 1p0 0\nbody\nat 1 strike 0 0 1 X\nat 1 stop 0\n"} {
			// A Ceiling and the Force of a strike may be numbers that no mode has.
			_, single := wantNumber(x, singleWidth())
			if checkReadScore(t, strings.Replace(s, "X", x, 1)) && !single {
				t.Errorf("%q is read with %.40q for X", s, x)
			}
		}
	}
}

// Parts that are texts of integers and numbers each, but of no valid score.
func TestP7TextsOfNoValidScore(t *testing.T) {
	for _, text := range []string{
		"score 2001 1 1p0 0\n", "score -1 1 1p0 0\n", "score 1 0 1p0 0\n", "score 1 9 1p0 0\n", "score 1 -1 1p0 0\n", "score 1 1 0 0\n", "score 1 1 -0 0\n", "score 1 1 -1p0 0\n", "score 1 1 -1p-149 0\n",
		"score 1 1 1p0 -0\n", "score 1 1 1p0 -1p-149\n", "score 1 1 1p0 8388609p-23\n", "score 1 1 1p0 1p1\n", "score 1 1 1p0 -1p0\n",
		"score 1 1 1p0 0\nbody\nmode 8388609p-23 0 0 0\n", "score 1 1 1p0 0\nbody\nmode 0 0 1p11 0\nbody\n",
	} {
		if checkReadScore(t, text) {
			t.Errorf("%q is read", text)
		}
	}
	for _, line := range []string{
		"at 2001 stop 0", "at -1 stop 0", "at 0 stop 2", "at 0 stop -1", "at 2001 damp 0 0", "at 0 damp 2 0", "at 0 damp 0 8388609p-23", "at 0 damp 0 -1p-149", "at 0 damp 0 -1p0",
		"at 2001 strike 0 0 1 0", "at 0 strike 2 0 1 0", "at 0 strike 0 3 1 0", "at 0 strike 0 -1 1 0", "at 0 strike 0 0 0 0", "at 0 strike 0 0 65 0", "at 0 strike 0 0 -1 0",
	} {
		if checkReadScore(t, "score 1 1 1p0 0\nbody\nbody\n"+line+"\n") {
			t.Errorf("%q is read", line)
		}
	}
}

func TestP7AsManyLinesOfScoresAsThereMayBe(t *testing.T) {
	for _, c := range []struct {
		before, line string
		most         int
	}{
		{"", "body\n", impl.MaxBodies},
		{"", "body\nmode 1p-1 0 0 0\nmode 0 0 0 0\n", impl.MaxBodies},
		{"body\n", "mode 1p-1 0 0 0\n", impl.MaxModes},
		{"body\nbody\nmode 0 0 0 0\nbody\n", "mode 1p-1 0 0 0\n", impl.MaxModes},
		{"body\n", "at 2000 stop 0\n", impl.MaxEvents},
		{"body\nmode 0 0 0 0\n", "at 0 damp 0 1p0\n", impl.MaxEvents},
		{"body\nat 0 stop 0\n", "at 1 strike 0 1 64 1p0\n", impl.MaxEvents - 1},
	} {
		for _, n := range []int{0, 1, c.most - 1, c.most, c.most + 1, c.most + 2, 2 * c.most, 1000} {
			if checkReadScore(t, "score 1 1 1p0 0\n"+c.before+strings.Repeat(c.line, n)) != (n <= c.most) {
				t.Errorf("%d lines %q behind %q", n, c.line, c.before)
			}
		}
	}
	s := impl.Score{Length: 2000, Voices: 8, Ceiling: greatestSingle, Release: 1, Bodies: slices.Repeat([]impl.Body{distinctModes(16)}, 8)}
	for i := range 60 {
		s.Events = append(s.Events, impl.Event{At: 2000 - i, Kind: 1, Body: i % 8, Shape: i % 3, Count: 64, Force: -0.1})
	}
	checkValid(t, s, true)
	text := wantScoreText(s)
	for _, more := range []string{"at 0 stop 0\n", "body\n", "mode 0 0 0 0\n", "\n", " ", "\x00"} {
		if checkReadScore(t, text+more) {
			t.Errorf("a full score is read with %q behind it", more)
		}
	}
}

func TestP10LongTextsOfScoresThatFail(t *testing.T) {
	const long, head = 1 << 20, "score 1 1 1p0 0\n"
	for _, text := range []string{
		strings.Repeat("\n", long), strings.Repeat(" ", long), strings.Repeat("\xff", long), strings.Repeat(head, long/8), "score" + strings.Repeat(" 1", long) + "\n",
		"score " + strings.Repeat("1", long), head + strings.Repeat("\n", long), head + strings.Repeat("body\n", long/4), head + "body\n" + strings.Repeat("mode 0 0 0 0\n", long/8),
		head + "body\n" + strings.Repeat("at 0 stop 0\n", long/8), head + "body\nat 0 strike" + strings.Repeat(" 0", long) + "\n", head + "body\nat " + strings.Repeat("1", long) + " stop 0\n",
		head + "body\nat 0 stop " + strings.Repeat(" ", long) + "\n", head + "body" + strings.Repeat("body", long), head + "body\nat 0 damp 0 " + strings.Repeat("1", long) + "p0\n",
	} {
		if s, ok := impl.ParseScore(text); ok || !sameScore(s, impl.Score{}) {
			t.Errorf("%.40q... is read: %v", text, s)
		}
	}
}
