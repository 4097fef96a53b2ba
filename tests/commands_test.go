package tests

import (
	"fmt"
	"math/rand/v2"
	"regexp"
	"slices"
	"strconv"
	"strings"
	"sync"
	"testing"

	"loop.example/g03222/impl"
)

// The answers of the bench that are wanted: a text is taken apart by patterns, and
// answered from what the other tests want of scores and modes.

var (
	wordWithThree = benchPattern(`\A(half|measure|beat) INT INT INT\z`)
	wordWithOne   = benchPattern(`\A(voices|cut|workers) INT\z`)
)

func benchPattern(s string) *regexp.Regexp {
	return regexp.MustCompile(strings.ReplaceAll(s, "INT", `(0|-?[1-9][0-9]{0,16})`))
}

func wantBench(text string) ([]string, bool) {
	lines := strings.Split(text, "\n")
	empty := slices.Index(lines, "")
	if empty < 0 || len(lines)-empty-1 > 30 {
		return nil, false
	}
	s, ok := wantReadScore(strings.Join(lines[:empty+1], "\n"))
	if !ok {
		return nil, false
	}
	var outputs []string
	for _, line := range lines[empty+1:] {
		outputs = append(outputs, wantAnswer(s, line))
	}
	return outputs, true
}

func wantAnswer(s impl.Score, line string) string {
	if line == "render" {
		samples := wantHeard(s).samples
		return fmt.Sprint(len(samples)) + " " + wantTextOrNone(float64(wantPeak(samples)))
	}
	if p := wordWithThree.FindStringSubmatch(line); p != nil {
		return wantAnswerOfModes(s, p[1], longInteger(p[2]), longInteger(p[3]), longInteger(p[4]))
	}
	if p := wordWithOne.FindStringSubmatch(line); p != nil {
		return wantAnswerOfScore(s, p[1], longInteger(p[2]))
	}
	return "what"
}

func longInteger(s string) int {
	x, err := strconv.ParseInt(s, 10, 64)
	if err != nil {
		panic(err)
	}
	return int(x)
}

func wantAnswerOfModes(s impl.Score, word string, body, k, n int) string {
	isMode := func(k int) bool { return body >= 0 && body < len(s.Bodies) && k >= 0 && k < len(s.Bodies[body].Modes) }
	if !isMode(k) {
		return "what"
	}
	m := s.Bodies[body].Modes[k]
	switch word {
	case "half":
		if half, ok := wantHalf(m, n); ok {
			return fmt.Sprint(half)
		}
	case "measure":
		if report, ok := wantReport(m, n); ok {
			return wantReportText(report)
		}
	case "beat":
		if !isMode(n) {
			return "what"
		}
		if beat, ok := wantBeat(m, s.Bodies[body].Modes[n]); ok {
			return bothTexts(beat)
		}
	}
	return "what"
}

// wantAnswerOfScore knows that samples do not differ.
func wantAnswerOfScore(s impl.Score, word string, n int) string {
	switch {
	case word == "voices" && n >= 0 && n < s.Length:
		var bodies []string
		for _, v := range wantHeard(s).voicesAt(n) {
			bodies = append(bodies, fmt.Sprint(v.body))
		}
		if len(bodies) == 0 {
			return "none"
		}
		return strings.Join(bodies, " ")
	case word == "cut" && n >= 1 && (s.Length <= n || (s.Length-1)/n < 100):
		return "-1"
	case word == "workers" && n >= 1 && n <= 16:
		return "-1"
	}
	return "what"
}

// checkBench runs a text, and returns whether it has outputs.
func checkBench(t *testing.T, text string) bool {
	t.Helper()
	want, valid := wantBench(text)
	outputs, ok := impl.RunBench(text)
	if ok != valid || !slices.Equal(outputs, want) {
		t.Fatalf("RunBench of %.2000q: %q %v, want %q %v", text, outputs, ok, want, valid)
	}
	return ok
}

func checkOutputs(t *testing.T, text string, want ...string) {
	t.Helper()
	if outputs, ok := impl.RunBench(text); !ok || !slices.Equal(outputs, want) {
		t.Errorf("RunBench of %.500q: %q %v, want %q", text, outputs, ok, want)
	}
	checkBench(t, text)
}

func checkNoOutputs(t *testing.T, text string) {
	t.Helper()
	if outputs, ok := impl.RunBench(text); ok || len(outputs) != 0 {
		t.Errorf("RunBench of %.500q: %q %v", text, outputs, ok)
	}
	checkBench(t, text)
}

// The body 0 of this score has three modes, 1 has none, and 2 has one. The body 1
// is the third one to be struck, and there is room for two.
const benchSheet = "score 10 2 1p10 0\n" +
	"body\nmode 1p-1 0 1p1 0\nmode 0 3p-2 1p0 1p0\nmode 1p0 0 0 0\n" +
	"body\n" +
	"body\nmode 1p0 0 1p0 0\n" +
	"at 1 strike 0 0 1 3p0\nat 2 strike 2 0 2 -5p0\nat 4 strike 1 2 3 1p0\nat 6 stop 2\nat 8 stop 1\n"

// smallSheet is the shortest text of a score.
const smallSheet = "score 0 1 1p0 0\n"

// sheetOf is that of a score without bodies.
func sheetOf(length int) string { return fmt.Sprintf("score %d 1 1p0 0\n", length) }

// checkAnswers checks commands and their outputs, in turn.
func checkAnswers(t *testing.T, sheet string, pairs ...string) {
	t.Helper()
	for i := 0; i < len(pairs); i += 2 {
		checkOutputs(t, sheet+"\n"+pairs[i], pairs[i+1])
	}
}

// checkWhat checks that commands are none.
func checkWhat(t *testing.T, sheet string, commands ...string) {
	t.Helper()
	for _, command := range commands {
		checkOutputs(t, sheet+"\n"+command, "what")
	}
}

func TestP9TextsByHand(t *testing.T) {
	if impl.MaxCommands != 30 {
		t.Errorf("MaxCommands is %d", impl.MaxCommands)
	}
	checkOutputs(t, benchSheet)
	checkOutputs(t, smallSheet)
	checkOutputs(t, benchSheet+"\n", "what")
	checkOutputs(t, smallSheet+"\n\n\n", "what", "what", "what")
	checkOutputs(t, benchSheet+"\nrender", "10 9p0")
	checkOutputs(t, benchSheet+"\nrender\n", "10 9p0", "what")
	checkOutputs(t, benchSheet+"\n\nrender", "what", "10 9p0")
	checkOutputs(t, benchSheet+"\nrender\n\nrender\n\n", "10 9p0", "what", "10 9p0", "what", "what")
	checkOutputs(t, benchSheet+"\nvoices 2\nhalf 0 0 5\nwhat\ncut 3\nworkers 2\nvoices 9\nbeat 2 0 0", "0 2", "1", "what", "-1", "-1", "none", "1p0 0")
	// The first empty line is the end of the score, whatever is behind it.
	checkOutputs(t, smallSheet+"\n"+smallSheet, "what", "what")
	checkOutputs(t, "score 4 1 1p0 0\n\nbody\nmode 1p-1 0 1p1 0\nhalf 0 0 1\nrender", "what", "what", "what", "4 0")
	checkOutputs(t, smallSheet+"\n\xff\xfe\n\x00\nrender", "what", "what", "0 0")
}

func TestP9NumbersOfCommands(t *testing.T) {
	for n := 1; n <= 30; n++ {
		checkOutputs(t, smallSheet+strings.Repeat("\n", n), slices.Repeat([]string{"what"}, n)...)
		checkOutputs(t, smallSheet+"\n"+strings.Repeat("render\n", n-1)+"render", slices.Repeat([]string{"0 0"}, n)...)
	}
	for _, n := range []int{31, 32, 60, 1000, 1 << 20} {
		checkNoOutputs(t, smallSheet+strings.Repeat("\n", n))
		checkNoOutputs(t, smallSheet+"\n"+strings.Repeat("render\n", n-1)+"render")
		checkNoOutputs(t, smallSheet+"\n"+strings.Repeat("render\n", n-1))
	}
	checkNoOutputs(t, smallSheet+"\n"+strings.Repeat("render\n", 30))
}

func TestP9TextsWithoutScores(t *testing.T) {
	for _, text := range []string{
		"", "\n", "\n\n", " ", "render", "\nrender", "render\n", "render\n\n", "what\n\nrender", "\n\nrender",
		// There is no empty line.
		"score 0 1 1p0 0", "score 0 1 1p0 0\nrender", "score 0 1 1p0 0\nrender\nrender", "score 0 1 1p0 0\n ", "score 0 1 1p0 0\n \nrender", "score 0 1 1p0 0\n\t\nrender",
		"score 0 1 1p0 0\n\r\nrender", "score 0 1 1p0 0\r\n\r\nrender", "score 0 1 1p0 0\n\x00\nrender", "score 0 1 1p0 0\n\xff\nrender", "score 0 1 1p0 0\n\u00a0\nrender", "score 0 1 1p0 0\v\fscore 0 1 1p0 0",
		// It comes too early or too late.
		"\nscore 0 1 1p0 0\n\nrender", "\n\nscore 0 1 1p0 0\n", "\nscore 0 1 1p0 0\n", "score 0 1 1p0 0\nrender\n", "score 0 1 1p0 0\nrender\n\nrender", "score 0 1 1p0 0\ncut 1\n\n",
		"score\n\n0 1 1p0 0\n\n", "render\n\nscore 0 1 1p0 0\n\n",
		// What is in front of it is no score.
		"score 0 1 1p0 0\n \n\nrender", "score 0 1 1p0 0 \n\nrender", " score 0 1 1p0 0\n\nrender", "score 0 1 1p0 0\r\n\nrender", "score 0 1 1p0\n\nrender", "score 0 1 1p0 0 0\n\n",
		"score 0 0 1p0 0\n\nrender", "score 2001 1 1p0 0\n\nrender", "score 0 1 0 0\n\nrender", "score 0 1 1p0 -0\n\nrender", "score -1 1 1p0 0\n\n", "Score 0 1 1p0 0\n\n",
		"score 0 1 1p0 0\nscore 0 1 1p0 0\n\nrender", "score 0 1 1p0 0\nmode 0 0 0 0\n\nrender", "score 0 1 1p0 0\nat 0 stop 0\n\nrender", "score 0 1 1p0 0\nbody\nat 0 damp 0 2p0\n\nrender",
		"body\n\nrender", "mode 0 0 0 0\n\nrender", "place\n\n", "score 0 1 1p0 0\nbody\nmode 1p1 0 0 0\n\nrender", "score 0 1 1p0 0\nat 0 stop 0\n",
		smallSheet[:len(smallSheet)-1] + "\r\n\r\nrender\r\n",
	} {
		checkNoOutputs(t, text)
	}
	for _, text := range changedTexts(smallSheet + "\ncut 1\n") {
		checkBench(t, text)
	}
}

func TestP9LongTexts(t *testing.T) {
	const long = 1 << 20
	for _, text := range []string{
		strings.Repeat("\n", long), strings.Repeat(" ", long), strings.Repeat("\xff", long), strings.Repeat("render\n", long/8), "score 0 1 1p0 0" + strings.Repeat(" ", long) + "\n\n",
		smallSheet + strings.Repeat("\n", long), smallSheet + strings.Repeat("render\n", long/8) + "\nrender", smallSheet + strings.Repeat("\nrender", long/8), strings.Repeat(smallSheet, long/8) + "\n",
	} {
		if outputs, ok := impl.RunBench(text); ok || len(outputs) != 0 {
			t.Errorf("RunBench of %.40q...: %d outputs, %v", text, len(outputs), ok)
		}
	}
	for _, command := range []string{
		strings.Repeat("x", long), strings.Repeat(" ", long), strings.Repeat("\xff", long), "cut " + strings.Repeat("1", long), "cut " + strings.Repeat("0", long) + "1", "cut -" + strings.Repeat("1", long),
		"half" + strings.Repeat(" 0", long), "render" + strings.Repeat(" ", long), "cut 1" + strings.Repeat(" ", long), "cut" + strings.Repeat(" ", long) + "1", strings.Repeat("render ", long/8), strings.Repeat("-", long),
	} {
		outputs, ok := impl.RunBench(smallSheet + "\n" + command + "\nrender")
		if !ok || !slices.Equal(outputs, []string{"what", "0 0"}) {
			t.Errorf("RunBench of %.40q...: %q %v", command, outputs, ok)
		}
	}
}

func TestP9RendersByHand(t *testing.T) {
	checkAnswers(t, smallSheet, "render", "0 0")
	checkAnswers(t, sheetOf(1), "render", "1 0")
	checkAnswers(t, sheetOf(2000), "render", "2000 0")
	checkAnswers(t, benchSheet, "render", "10 9p0")
	ring := "body\nmode 1p0 0 1p0 0\nat 0 strike 0 0 1 "
	checkAnswers(t, "score 3 1 1p10 0\n"+ring+"-3p-2\n", "render", "3 3p-2")
	checkAnswers(t, "score 3 1 1p-2 0\n"+ring+"3p5\n", "render", "3 1p-2") // limited
	checkAnswers(t, "score 3 1 16777215p104 0\n"+ring+"16777215p104\n", "render", "3 16777215p104")
	checkAnswers(t, "score 3 1 1p0 0\n"+ring+"1p-149\n", "render", "3 1p-149")
	// By ten times a Gain of 1024, it is infinite, and limited, NaN; from then on the
	// envelope is NaN, which limits nothing.
	endless := "body\n" + strings.Repeat("mode 1p0 0 1p10 0\n", 10) + "at 0 strike 0 0 1 1p120\n"
	checkAnswers(t, "score 1 1 1p0 0\n"+endless, "render", "1 0")
	checkAnswers(t, "score 9 1 1p0 0\n"+endless, "render", "9 none")
	checkWhat(t, benchSheet, "render ", " render", "render 0", "render 1", "render 10", "render render", "Render", "RENDER", "renders", "rende", "render\r", "render\t", "\trender", "render\x00", "\xffrender", "render\v", "render\u00a0")
}

func TestP9HalfLivesOfTheBench(t *testing.T) {
	checkAnswers(t, benchSheet,
		"half 0 0 1", "1", "half 0 0 2000", "1", "half 0 1 3", "3", "half 0 1 2000", "3", "half 0 2 1", "1",
		"half 0 1 2", "what", "half 2 0 1", "what", "half 2 0 2000", "what",
		"half 0 0 0", "what", "half 0 0 -1", "what", "half 0 0 2001", "what", "half 0 1 99999999999999999", "what", "half 0 0 100000000000000000", "what")
	checkWhat(t, benchSheet, "half", "half 0", "half 0 0", "half 0 0 1 1", "half 0 0 1 1 1", "half  0 0 1", "half 0  0 1", "half 0 0  1", "half 0 0 1 ", " half 0 0 1", "half 0 0 1\r", "half\t0 0 1", "half 0\t0 1",
		"half 0 3 1", "half 0 -1 1", "half -1 0 1", "half 1 0 1", "half 2 1 1", "half 3 0 1", "half 0 2000 1", "half 2000 0 1", "half 0 99999999999999999 1", "half -99999999999999999 0 1",
		"half 00 0 1", "half 0 00 1", "half 0 0 01", "half -0 0 1", "half 0 -0 1", "half 0 0 +1", "half +0 0 1", "half 0 0 1.0", "half 0 0 1p0", "half 0 0 one", "half 0 0 1_0", "half 0 0 0x1", "half 0 0 １",
		"Half 0 0 1", "halves 0 0 1", "hal 0 0 1", "half0 0 1", "half 0 0half", "half half 0 0 1", "half measure 0 1", "0 half 0 1", "0 0 1", "0 0 1 half")
	checkWhat(t, smallSheet, "half 0 0 1", "measure 0 0 1", "beat 0 0 0")
}

func TestP9ReportsOfTheBench(t *testing.T) {
	checkAnswers(t, benchSheet,
		"measure 0 0 1", "half 1 fitted 0 0 error 1p-1 drift 0", "measure 0 0 4", "half 1 fitted 1p-1 0 error 0 drift 0",
		"measure 0 1 2", "half 0 fitted 0 3p-2 error 0 drift 0", "measure 0 1 5", "half 3 fitted 0 3p-2 error 0 drift 0",
		"measure 0 2 3", "half 1 fitted 0 0 error 1p0 drift 0", "measure 2 0 1", "half 0 fitted 0 0 error 1p0 drift 0", "measure 2 0 2000", "half 0 fitted 1p0 0 error 0 drift 0",
		"measure 0 0 0", "what", "measure 0 0 -1", "what", "measure 0 0 2001", "what", "measure 0 0 99999999999999999", "what")
	checkAnswers(t, "score 0 1 1p0 0\nbody\nmode 11184811p-25 0 1p0 0\n", "measure 0 0 3", "half 1 fitted 11184811p-25 0 error 0 drift 1864135p-50")
	checkWhat(t, benchSheet, "measure", "measure 0", "measure 0 0", "measure 0 0 4 4", "measure  0 0 4", "measure 0 0 4 ", " measure 0 0 4", "measure 0 0 4\r", "measure 0 0\t4", "measure 0 0 04", "measure 0 0 +4", "measure -0 0 4",
		"measure 0 3 4", "measure 0 -1 4", "measure 1 0 4", "measure -1 0 4", "measure 3 0 4", "Measure 0 0 4", "measures 0 0 4", "measure 0 0 4p0", "measure 0 0 none")
}

func TestP9BeatsOfTheBench(t *testing.T) {
	checkAnswers(t, benchSheet,
		"beat 0 0 0", "1p0 0", "beat 0 0 2", "1p-1 0", "beat 0 2 0", "1p1 0", "beat 0 1 2", "0 3p-2", "beat 0 1 0", "0 3p-1", "beat 0 1 1", "1p0 0", "beat 2 0 0", "1p0 0")
	checkAnswers(t, "score 0 1 1p0 0\nbody\nmode 1p-1 1p-1 0 0\nmode 0 0 0 0\nmode 0 -1p-1 0 0\n",
		"beat 0 1 0", "0 0", "beat 0 0 1", "what", "beat 0 1 1", "what", "beat 0 0 2", "-1p0 1p0", "beat 0 2 0", "-1p-1 -1p-1", "beat 0 1 2", "-0 0")
	checkWhat(t, benchSheet, "beat", "beat 0", "beat 0 0", "beat 0 0 0 0", "beat  0 0 0", "beat 0 0 0 ", " beat 0 0 0", "beat 0 0 0\r", "beat 0 0 00", "beat 0 0 -0", "beat 0 0 +0", "beat 0\t0 0",
		"beat 0 0 3", "beat 0 3 0", "beat 0 -1 0", "beat 0 0 -1", "beat 1 0 0", "beat 3 0 0", "beat -1 0 0", "beat 2 0 1", "beat 2 1 0", "beat 0 0 99999999999999999", "beats 0 0 0", "Beat 0 0 0", "beat 0 0 none")
}

func TestP9VoicesOfTheBench(t *testing.T) {
	checkAnswers(t, benchSheet,
		"voices 0", "none", "voices 1", "0", "voices 2", "0 2", "voices 3", "0 2", "voices 4", "2 1", "voices 5", "2 1", "voices 6", "1", "voices 7", "1", "voices 8", "none", "voices 9", "none",
		"voices 10", "what", "voices 11", "what", "voices -1", "what", "voices 99999999999999999", "what", "voices 100000000000000000", "what")
	checkAnswers(t, sheetOf(1), "voices 0", "none", "voices 1", "what")
	checkAnswers(t, sheetOf(2000), "voices 0", "none", "voices 1999", "none", "voices 2000", "what")
	many := "score 2 8 1p0 0\n" + strings.Repeat("body\n", 8) + strings.Repeat("at 1 strike 7 0 1 0\nat 1 strike 0 0 1 0\nat 1 strike 3 0 1 0\n", 4)
	checkAnswers(t, many, "voices 0", "none", "voices 1", "0 3 7 0 3 7 0 3")
	checkWhat(t, smallSheet, "voices 0", "voices -1", "voices 1")
	checkWhat(t, benchSheet, "voices", "voices ", "voices  1", " voices 1", "voices 1 ", "voices 1 1", "voices 1 1 1", "voices 01", "voices -0", "voices +1", "voices 00", "voices 1\r", "voices\t1", "voices 1\t", "voices 1p0", "voices none", "voice 1", "Voices 1", "voices1", "voices voices", "voices cut 1")
}

func TestP9CutsByHand(t *testing.T) {
	for _, c := range []struct{ length, least int }{
		// The least N has as many blocks as there may be.
		{0, 1}, {1, 1}, {2, 1}, {99, 1}, {100, 1}, {101, 2}, {199, 2}, {200, 2}, {201, 3}, {299, 3}, {301, 4}, {1000, 10}, {1001, 11}, {1901, 20}, {1999, 20}, {2000, 20},
	} {
		sheet := sheetOf(c.length)
		if c.length > 5 {
			sheet += "body\nmode 1p0 0 1p0 0\nat 1 strike 0 1 64 -1p4\nat 3 damp 0 1p-1\n"
		}
		for _, n := range []int{c.least, c.least + 1, c.least + 7, c.length - 1, c.length, c.length + 1, 2*c.length + 1, 5000, 1<<32 + 1, 99999999999999999, 10000000000000000} {
			if n >= c.least {
				checkAnswers(t, sheet, fmt.Sprint("cut ", n), "-1")
			}
		}
		for _, n := range []int{c.least - 1, 0, -1, -c.length, -99999999999999999} {
			checkWhat(t, sheet, fmt.Sprint("cut ", n))
		}
		for _, n := range []string{"100000000000000000", "999999999999999999", "-100000000000000000", "9223372036854775807", "18446744073709551617", "00000000000000001"} {
			checkWhat(t, sheet, "cut "+n)
		}
	}
	checkWhat(t, benchSheet, "cut", "cut ", "cut  1", " cut 1", "cut 1 ", "cut 1 1", "cut 1 1 1", "cut 01", "cut 00", "cut -0", "cut +1", "cut 1\r", "cut\t1", "cut 1\t", "cut 1p0", "cut 1.0", "cut none", "cuts 1", "Cut 1", "cut1", "cut cut", "cut workers 1", "cut １")
}

func TestP9WorkersByHand(t *testing.T) {
	for _, sheet := range []string{smallSheet, sheetOf(1), sheetOf(2000), benchSheet} {
		for n := 1; n <= 16; n++ {
			checkAnswers(t, sheet, fmt.Sprint("workers ", n), "-1")
		}
		checkWhat(t, sheet, "workers 0", "workers -1", "workers 17", "workers 18", "workers 32", "workers 65537", "workers 4294967297", "workers 99999999999999999", "workers 18446744073709551617")
	}
	checkWhat(t, benchSheet, "workers", "workers ", "workers  1", " workers 1", "workers 1 ", "workers 1 1", "workers 01", "workers -0", "workers +1", "workers 1\r", "workers\t1", "workers 1p0", "worker 1", "Workers 1", "workers1", "workers none")
}

func TestP9WordsThatAreNoCommands(t *testing.T) {
	checkWhat(t, benchSheet, "", " ", "  ", "\t", "\r", "what", "none", "0", "-1", "1 2", "half 1 fitted 1p-1 0 error 0 drift 0", "score 10 2 1p10 0", "body", "mode 1p-1 0 1p1 0", "at 6 stop 2", "strike", "stop", "damp", "place", "wide",
		"peak", "crossings", "pitch", "unit", "mix", "advance 1", "fit 0 0 1", "\x00", "\xff", "half\xff0 0 1", "render;voices 1", "\"render\"", "#", "help", "half 0 0 1 render", "cut 3 workers 2")
}

// Commands that are changed in one place, and those of any words and integers.
func TestP9ChangedCommands(t *testing.T) {
	const sheet = "score 2 1 1p10 0\nbody\nmode 1p-1 0 1p0 0\nat 0 strike 0 0 1 1p0\n"
	for _, command := range []string{"render", "half 0 0 1", "measure 0 0 2", "beat 0 0 0", "voices 1", "cut 2", "workers 3"} {
		if checkBench(t, sheet+"\n"+command); slices.Contains(mustRun(sheet+"\n"+command), "what") {
			t.Errorf("%q is no command", command)
		}
		for _, changed := range append(changedTexts(command), changedWords(command)...) {
			checkBench(t, sheet+"\n"+changed)
		}
		parts := strings.Split(command, " ")
		for i := range parts {
			for _, x := range append(hostileIntegers(), "99999999999999999", "100000000000000000", "-99999999999999999", "render", "half", "cut") {
				changed := slices.Clone(parts)
				changed[i] = x
				checkBench(t, sheet+"\n"+strings.Join(changed, " "))
			}
		}
	}
}

func mustRun(text string) []string {
	outputs, ok := impl.RunBench(text)
	if !ok {
		panic("RunBench of " + text)
	}
	return outputs
}

// anyCommand draws one that has mostly an answer.
func anyCommand(r *rand.Rand, s impl.Score) string {
	body, k, l := r.IntN(len(s.Bodies)+1), r.IntN(3), r.IntN(3)
	if r.IntN(20) == 0 {
		body, k = body-1, k-1
	}
	switch n := anyArgument(r, s.Length); r.IntN(9) {
	case 0:
		return "render"
	case 1, 2:
		return fmt.Sprintf("half %d %d %d", body, k, n)
	case 3:
		return fmt.Sprintf("measure %d %d %d", body, k, n)
	case 4:
		return fmt.Sprintf("beat %d %d %d", body, k, l)
	case 5, 6:
		return fmt.Sprintf("voices %d", n)
	case 7:
		return fmt.Sprintf("cut %d", n)
	default:
		return fmt.Sprintf("workers %d", 1+n%18)
	}
}

func anyArgument(r *rand.Rand, length int) int {
	if r.IntN(30) == 0 {
		return wildIntegers()[r.IntN(29)]
	}
	return r.IntN(length + 2)
}

func TestP9AnyTexts(t *testing.T) {
	r := newRandom()
	answered, none := 0, 0
	for range 400 {
		s := livelyScore(r, r.IntN(25))
		text := wantScoreText(s) + "\n"
		for i := range r.IntN(12) {
			if i > 0 {
				text += "\n"
			}
			text += anyCommand(r, s)
		}
		checkBench(t, text)
		for _, output := range mustRun(text) {
			if output == "what" {
				none++
			} else {
				answered++
			}
		}
	}
	if answered < 1000 || none < 500 {
		t.Errorf("%d commands are answered, %d are not", answered, none)
	}
	for range 100 {
		// Of these scores, most samples are infinite or NaN.
		s := anyScore(r)
		s.Length = min(s.Length, 20)
		checkBench(t, wantScoreText(s)+"\nrender\n"+anyCommand(r, s)+"\n"+anyCommand(r, s))
	}
}

// An output does not depend on the other commands.
func TestP9OutputsOnTheirOwn(t *testing.T) {
	r := newRandom()
	for range 30 {
		s := livelyScore(r, r.IntN(25))
		sheet := wantScoreText(s) + "\n"
		var commands, alone []string
		for range 30 {
			command := []string{anyCommand(r, s), anyCommand(r, s), "", "cut"}[r.IntN(4)]
			commands = append(commands, command)
			alone = append(alone, mustRun(sheet+command)...)
		}
		for range 3 {
			if outputs := mustRun(sheet + strings.Join(commands, "\n")); !slices.Equal(outputs, alone) {
				t.Fatalf("RunBench of %q and %q: %q, and of each command alone: %q", sheet, commands, outputs, alone)
			}
			i := r.IntN(30)
			commands = append(slices.Clone(commands[i:]), commands[:i]...)
			alone = append(slices.Clone(alone[i:]), alone[:i]...)
		}
	}
}

// Several runs at a time, and one after the other, have the same outputs, which
// share no memory.
func TestP9OutputsInEveryRun(t *testing.T) {
	text := benchSheet + "\nrender\nworkers 16\ncut 3\nvoices 4\nmeasure 0 1 5\nworkers 3\nhalf 0 1 9\nbeat 0 1 0\nwhat"
	want, _ := wantBench(text)
	var group sync.WaitGroup
	for range 8 {
		group.Go(func() {
			for range 20 {
				outputs, ok := impl.RunBench(text)
				if !ok || !slices.Equal(outputs, want) {
					t.Errorf("RunBench of %q: %q %v, want %q", text, outputs, ok, want)
				}
				for i := range outputs {
					outputs[i] = "changed"
				}
				_ = append(outputs, "changed")
			}
		})
	}
	group.Wait()
}

func TestP1CutsAndWorkersOfTheBench(t *testing.T) {
	r := newRandom()
	for range 60 {
		s := livelyOrAnyScore(r, r.IntN(300))
		least := max(1, (s.Length+99)/100)
		var commands []string
		for n := 1; n <= 16; n++ {
			commands = append(commands, fmt.Sprint("workers ", n))
		}
		for i := range 14 {
			n := []int{least, s.Length, s.Length + 1, least + r.IntN(s.Length+1), least + i}[i%5]
			commands = append(commands, fmt.Sprint("cut ", max(least, n)))
		}
		text := wantScoreText(s) + "\n" + strings.Join(commands, "\n")
		outputs, ok := impl.RunBench(text)
		if !ok || !slices.Equal(outputs, slices.Repeat([]string{"-1"}, 30)) {
			t.Fatalf("RunBench of %q: %q %v", text, outputs, ok)
		}
	}
}

func TestP8VoicesAndCutsOfTheBench(t *testing.T) {
	r := newRandom()
	most := 0
	for range 100 {
		s := livelyScore(r, 25)
		text := wantScoreText(s) + "\n"
		for at := range 25 {
			text += fmt.Sprintf("voices %d\n", at)
		}
		outputs := mustRun(text + "cut 1\ncut 2\ncut 24")
		for at, output := range outputs[:25] {
			n := len(strings.Fields(output))
			if n > s.Voices {
				t.Errorf("at %d of %q, the voices are %s", at, wantScoreText(s), output)
			}
			if n == s.Voices && output != "none" {
				most++
			}
		}
		if !slices.Equal(outputs[25:], []string{"-1", "-1", "-1"}) {
			t.Errorf("the cuts of %q: %q", wantScoreText(s), outputs[25:])
		}
		checkBench(t, text)
	}
	if most < 300 {
		t.Errorf("only at %d samples, there are as many voices as there may be", most)
	}
}
