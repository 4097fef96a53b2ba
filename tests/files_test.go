package tests

import (
	"math/big"
	"math/rand/v2"
	"slices"
	"strconv"
	"strings"
	"testing"

	"loop.example/g03222/impl"
)

// The texts that are wanted are put together from those of texts_test.go, and
// the values of texts are read by math/big, part by part.

func wantBodyText(b impl.Body) string {
	text := ""
	for _, m := range b.Modes {
		text += "mode " + bothTexts(complex128(m.Pole)) + " " + bothTexts(complex128(m.Gain)) + "\n"
	}
	return text
}

func bothTexts(z complex128) string { return wantText(real(z)) + " " + wantText(imag(z)) }

func wantWideText(list []impl.WideMode) string {
	text := ""
	for _, m := range list {
		text += "wide " + bothTexts(m.Pole) + " " + bothTexts(m.Gain) + "\n"
	}
	return text
}

func wantRoomText(r impl.Room) string {
	text := wantBodyText(impl.Body{Modes: r.Modes})
	for _, weights := range r.Shapes {
		text += "place"
		for _, weight := range weights {
			text += " " + wantText(float64(weight))
		}
		text += "\n"
	}
	return text
}

// width tells which numbers a text may hold, as hasNumber takes it.
type width struct{ digits, lowest, top int }

func singleWidth() width { return width{24, -149, 128} }

func doubleWidth() width { return width{53, -1074, 1024} }

func wantNumber(s string, w width) (float64, bool) {
	if !hasNumber(s, w.digits, w.lowest, w.top) {
		return 0, false
	}
	if s == "-0" {
		return negativeZero, true
	}
	odd, exponent, _ := strings.Cut(s, "p")
	factor, _ := new(big.Float).SetString(odd)
	shift, _ := strconv.Atoi(exponent)
	return roundDouble(blank().SetMantExp(factor, shift)), true
}

// wantRows reads texts of lines that consist of a word and numbers.
func wantRows(s string, words string, w width) ([]string, [][]float64, bool) {
	lines := strings.Split(s, "\n")
	if lines[len(lines)-1] != "" {
		return nil, nil, false
	}
	var heads []string
	var rows [][]float64
	for _, line := range lines[:len(lines)-1] {
		parts := strings.Split(line, " ")
		row := []float64{}
		for _, part := range parts[1:] {
			x, ok := wantNumber(part, w)
			if !ok {
				return nil, nil, false
			}
			row = append(row, x)
		}
		if !slices.Contains(strings.Fields(words), parts[0]) {
			return nil, nil, false
		}
		heads, rows = append(heads, parts[0]), append(rows, row)
	}
	return heads, rows, true
}

func wantReadWide(s string, word string, w width) ([]impl.WideMode, bool) {
	_, rows, ok := wantRows(s, word, w)
	var list []impl.WideMode
	for _, row := range rows {
		if len(row) != 4 {
			return nil, false
		}
		list = append(list, impl.WideMode{Pole: complex(row[0], row[1]), Gain: complex(row[2], row[3])})
	}
	if !ok || !wantWide(list) {
		return nil, false
	}
	return list, true
}

func wantReadBody(s string) (impl.Body, bool) {
	list, ok := wantReadWide(s, "mode", singleWidth())
	if !ok {
		return impl.Body{}, false
	}
	return wantNarrowed(list)
}

func wantReadRoom(s string) (impl.Room, bool) {
	heads, rows, ok := wantRows(s, "mode place", singleWidth())
	if !ok || !slices.IsSorted(heads) { // modes are ahead of places, as in an alphabet
		return impl.Room{}, false
	}
	var r impl.Room
	for i, row := range rows {
		if heads[i] == "place" {
			weights := []float32{}
			for _, x := range row {
				weights = append(weights, float32(x))
			}
			r.Shapes = append(r.Shapes, weights)
		} else if len(row) == 4 {
			pole, gain := complex(row[0], row[1]), complex(row[2], row[3])
			r.Modes = append(r.Modes, impl.Mode{Pole: complex64(pole), Gain: complex64(gain)})
		} else {
			return impl.Room{}, false
		}
	}
	if !wantRoom(r) {
		return impl.Room{}, false
	}
	return r, true
}

// checkReading reads a text in all three ways, and returns in how many of them it
// is one.
func checkReading(t *testing.T, s string) int {
	t.Helper()
	count := 0
	body, bodyReads := wantReadBody(s)
	if b, ok := impl.ParseBody(s); ok != bodyReads || !sameBody(b, body) {
		t.Fatalf("ParseBody of %q: %v %v, want %v %v", s, b, ok, body, bodyReads)
	} else if ok {
		count++
		checkAgain(t, s, impl.FormatBody(b))
	}
	list, listReads := wantReadWide(s, "wide", doubleWidth())
	if l, ok := impl.ParseWide(s); ok != listReads || !sameWide(l, list) {
		t.Fatalf("ParseWide of %q: %v %v, want %v %v", s, l, ok, list, listReads)
	} else if ok {
		count++
		checkAgain(t, s, impl.FormatWide(l))
	}
	room, roomReads := wantReadRoom(s)
	if r, ok := impl.ParseRoom(s); ok != roomReads || !sameRoom(r, room) {
		t.Fatalf("ParseRoom of %q: %v %v, want %v %v", s, r, ok, room, roomReads)
	} else if ok {
		count++
		checkAgain(t, s, impl.FormatRoom(r))
	}
	return count
}

func checkAgain(t *testing.T, s, again string) {
	t.Helper()
	if s != again {
		t.Fatalf("%q is read as what is written %q", s, again)
	}
}

func checkBodyText(t *testing.T, b impl.Body) {
	t.Helper()
	want := wantBodyText(b)
	if s := impl.FormatBody(b); s != want {
		t.Fatalf("FormatBody of %v: %q, want %q", b, s, want)
	}
	if back, ok := impl.ParseBody(want); !ok || !sameBody(back, b) {
		t.Fatalf("ParseBody of %q: %v %v, want %v", want, back, ok, b)
	}
}

func checkWideText(t *testing.T, list []impl.WideMode) {
	t.Helper()
	want := wantWideText(list)
	if s := impl.FormatWide(list); s != want {
		t.Fatalf("FormatWide of %v: %q, want %q", list, s, want)
	}
	if back, ok := impl.ParseWide(want); !ok || !sameWide(back, list) {
		t.Fatalf("ParseWide of %q: %v %v, want %v", want, back, ok, list)
	}
}

func checkRoomText(t *testing.T, r impl.Room) {
	t.Helper()
	want := wantRoomText(r)
	if s := impl.FormatRoom(r); s != want {
		t.Fatalf("FormatRoom of %v: %q, want %q", r, s, want)
	}
	if back, ok := impl.ParseRoom(want); !ok || !sameRoom(back, r) {
		t.Fatalf("ParseRoom of %q: %v %v, want %v", want, back, ok, r)
	}
}

// extremeBody has the smallest and the greatest parts that a valid mode may
// have, and zeros of both signs.
func extremeBody(r *rand.Rand, modes int) impl.Body {
	numbers := []float32{0, narrow(negativeZero), leastSingle, -leastSingle, 0x1p-126, 0x1p-126 - leastSingle, 0x1p-75, 0.1, -0.7, 1, -1, 1 - 0x1p-24}
	part := func() float32 { return numbers[r.IntN(len(numbers))] }
	var b impl.Body
	for len(b.Modes) < modes {
		m := impl.Mode{Pole: complex(part(), part()), Gain: complex(1024*part(), part())}
		if wantMode(m) {
			b.Modes = append(b.Modes, m)
		}
	}
	return b
}

func TestP6BodiesAreReadBack(t *testing.T) {
	r := newRandom()
	for n := range impl.MaxModes + 1 {
		for range 100 {
			checkBodyText(t, anyBody(r, n))
			checkBodyText(t, extremeBody(r, n))
		}
	}
	for range 20000 {
		if b := bodyOf(impl.Mode{Pole: anyComplexSingle(r), Gain: anyComplexSingle(r)}); !wrong(b) {
			checkBodyText(t, b)
		}
	}
}

func TestP6WideModesAreReadBack(t *testing.T) {
	r := newRandom()
	for n := range impl.MaxModes + 1 {
		for range 100 {
			checkWideText(t, anyWide(r, n))
			checkWideText(t, wantWidened(extremeBody(r, n)))
		}
	}
	for range 20000 {
		if list := []impl.WideMode{{Pole: anyComplex(r), Gain: anyComplex(r)}}; wantWide(list) {
			checkWideText(t, list)
		}
	}
}

func TestP6RoomsAreReadBack(t *testing.T) {
	r := newRandom()
	for modes := range impl.MaxModes + 1 {
		for places := range impl.MaxPlaces + 1 {
			checkRoomText(t, anyRoom(r, modes, places))
			for _, weight := range weightsAtLimits() {
				checkRoomText(t, evenRoom(extremeBody(r, modes), places, weight))
			}
		}
	}
}

func TestP6TextsByHand(t *testing.T) {
	minus := narrow(negativeZero)
	for _, c := range []struct {
		m    impl.Mode
		want string
	}{
		{impl.Mode{Pole: 0.5, Gain: 2}, "1p-1 0 1p1 0"},
		{impl.Mode{}, "0 0 0 0"},
		{impl.Mode{Pole: complex(minus, minus), Gain: complex(minus, minus)}, "-0 -0 -0 -0"},
		{impl.Mode{Pole: complex(0, minus), Gain: complex(minus, 0)}, "0 -0 -0 0"},
		{impl.Mode{Pole: complex(-1, leastSingle), Gain: complex(1024, -1024)}, "-1p0 1p-149 1p10 -1p10"},
		{impl.Mode{Pole: complex(-leastSingle, 1-0x1p-24), Gain: complex(3, -1024+0x1p-14)}, "-1p-149 16777215p-24 3p0 -16777215p-14"},
		{impl.Mode{Pole: complex(0.1, -0.75), Gain: complex(-leastSingle, 10)}, "13421773p-27 -3p-2 -1p-149 5p1"},
	} {
		if s := impl.FormatBody(bodyOf(c.m)); s != "mode "+c.want+"\n" {
			t.Errorf("FormatBody of %v: %q, want %q", c.m, s, c.want)
		}
		twice := strings.Repeat("mode "+c.want+"\n", 2)
		if b, ok := impl.ParseBody(twice); !ok || !sameBody(b, bodyOf(c.m, c.m)) {
			t.Errorf("ParseBody of %q: %v %v", twice, b, ok)
		}
		wide := []impl.WideMode{{Pole: complex128(c.m.Pole), Gain: complex128(c.m.Gain)}}
		if s := impl.FormatWide(wide); s != "wide "+c.want+"\n" {
			t.Errorf("FormatWide of %v: %q, want %q", wide, s, c.want)
		}
		if list, ok := impl.ParseWide("wide " + c.want + "\n"); !ok || !sameWide(list, wide) {
			t.Errorf("ParseWide of %q: %v %v", c.want, list, ok)
		}
	}
	extreme := []impl.WideMode{{Pole: complex(least, -1+0x1p-53), Gain: complex(-least, 1024-0x1p-43)}, {Pole: complex(0.1, negativeZero), Gain: -1024}}
	want := "wide 1p-1074 -9007199254740991p-53 -1p-1074 9007199254740991p-43\nwide 3602879701896397p-55 -0 -1p10 0\n"
	list, ok := impl.ParseWide(want)
	if s := impl.FormatWide(extreme); s != want || !ok || !sameWide(list, extreme) {
		t.Errorf("FormatWide: %q, want %q; read as %v %v", s, want, list, ok)
	}
}

func TestP6TextsOfRoomsByHand(t *testing.T) {
	minus := narrow(negativeZero)
	for _, c := range []struct {
		room impl.Room
		want string
	}{
		{impl.Room{}, ""},
		{impl.Room{Modes: []impl.Mode{}, Shapes: [][]float32{}}, ""},
		{impl.Room{Shapes: [][]float32{nil}}, "place\n"},
		{impl.Room{Shapes: [][]float32{{}, nil, {}}}, "place\nplace\nplace\n"},
		{roomOf(bodyOf(impl.Mode{Pole: 0.5, Gain: 2})), "mode 1p-1 0 1p1 0\n"},
		{roomOf(bodyOf(impl.Mode{Pole: 0.5, Gain: 2}), []float32{1}, []float32{-0.5}), "mode 1p-1 0 1p1 0\nplace 1p0\nplace -1p-1\n"},
		{roomOf(bodyOfPoles(0, 1), []float32{16, -16}, []float32{minus, 0}, []float32{leastSingle, 16 - 0x1p-20}),
			"mode 0 0 1p0 0\nmode 1p0 0 1p0 0\nplace 1p4 -1p4\nplace -0 0\nplace 1p-149 16777215p-20\n"},
	} {
		if s := impl.FormatRoom(c.room); s != c.want {
			t.Errorf("FormatRoom of %v: %q, want %q", c.room, s, c.want)
		}
		if r, ok := impl.ParseRoom(c.want); !ok || !sameRoom(r, c.room) {
			t.Errorf("ParseRoom of %q: %v %v", c.want, r, ok)
		}
	}
}

func TestP6TheEmptyText(t *testing.T) {
	if s := impl.FormatBody(impl.Body{}) + impl.FormatWide(nil) + impl.FormatRoom(impl.Room{}); s != "" {
		t.Errorf("texts of nothing: %q", s)
	}
	if n := checkReading(t, ""); n != 3 {
		t.Errorf("the empty text is read in %d of 3 ways", n)
	}
}

func TestP10TextsOfNothingValid(t *testing.T) {
	for _, b := range wrongBodies() {
		if s := impl.FormatBody(b); s != "" {
			t.Errorf("FormatBody of %v: %q", b, s)
		}
	}
	for _, list := range wrongLists() {
		if s := impl.FormatWide(list); s != "" {
			t.Errorf("FormatWide of %v: %q", list, s)
		}
	}
	for _, r := range wrongRooms() {
		if s := impl.FormatRoom(r); s != "" {
			t.Errorf("FormatRoom of %v: %q", r, s)
		}
	}
}

// changedTexts returns all texts that differ from s by a byte that is added,
// left out or replaced, by two that are exchanged, by lines that are doubled or
// exchanged with the next, or by a cut.
func changedTexts(s string) []string {
	const signs = "-0123p \n\r\t+.emwxd\x00\x80\xff"
	list := []string{s + s, s + "\n" + s, "\n" + s}
	for i := range len(s) + 1 {
		list = append(list, s[:i], s[i:])
		for k := range len(signs) {
			list = append(list, s[:i]+signs[k:k+1]+s[i:])
			if i < len(s) {
				list = append(list, s[:i]+signs[k:k+1]+s[i+1:])
			}
		}
		if i < len(s) {
			list = append(list, s[:i]+s[i+1:])
		}
		if i+1 < len(s) {
			list = append(list, s[:i]+s[i+1:i+2]+s[i:i+1]+s[i+2:])
		}
	}
	lines := strings.SplitAfter(s, "\n")
	for i, line := range lines {
		list = append(list, strings.Join(slices.Insert(slices.Clone(lines), i, line), ""))
		list = append(list, strings.Join(slices.Delete(slices.Clone(lines), i, i+1), ""))
		if i > 0 {
			exchanged := slices.Clone(lines)
			exchanged[i-1], exchanged[i] = exchanged[i], exchanged[i-1]
			list = append(list, strings.Join(exchanged, ""))
		}
	}
	return list
}

func TestP6NothingElseIsRead(t *testing.T) {
	r := newRandom()
	read, refused := 0, 0
	for range 6 {
		for _, s := range []string{
			wantBodyText(anyBody(r, 1+r.IntN(3))),
			wantBodyText(extremeBody(r, 1+r.IntN(3))),
			wantWideText(anyWide(r, 1+r.IntN(3))),
			wantWideText(wantWidened(extremeBody(r, 1+r.IntN(3)))),
			wantRoomText(anyRoom(r, r.IntN(3), r.IntN(4))),
			wantRoomText(evenRoom(extremeBody(r, r.IntN(3)), 1+r.IntN(3), 0.5)),
		} {
			for _, changed := range changedTexts(s) {
				if checkReading(t, changed) > 0 {
					read++
				} else {
					refused++
				}
			}
		}
	}
	if read < 2000 || refused < 20000 {
		t.Errorf("%d texts are read, %d are not", read, refused)
	}
}

// All texts of a few parts, among them rooms without modes or places and those
// with the wrong numbers of weights.
func TestP6AllTextsOfFewParts(t *testing.T) {
	parts := []string{"mode 0 0 0 0\n", "wide 0 0 0 0\n", "place\n", "place 1p0\n", "place 0 -0\n", "mode", "place", " 1p-1", " ", "\n"}
	read := 0
	var try func(s string, more int)
	try = func(s string, more int) {
		read += checkReading(t, s)
		if more == 0 {
			return
		}
		for _, part := range parts {
			try(s+part, more-1)
		}
	}
	try("", 5)
	if read < 45 {
		t.Errorf("only %d of these are texts", read)
	}
}

// hostileNumbers are no texts of numbers, or of none that a mode or a room has.
func hostileNumbers() []string {
	return []string{"", "-", "+0", "+1p0", "00", "0p0", "-0p0", "01p0", "-01p0", "1p00", "1p-0", "1p+1", "1p01", "2p0", "6p-3", "1", "1p",
		"p0", "1.5", "0x1p0", "1e0", "1_1p-4", "1P0", "NaN", "Inf", "-Inf", "none", "33554431p-25", "16777217p-24", "9007199254740993p-53",
		"1p-150", "3p-150", "1p-1075", "1p128", "1p1024", "16777215p104", "9007199254740991p971", "1p4096", "1p99999999999999999999",
		strings.Repeat("9", 5000) + "p-20000", "1p-" + strings.Repeat("9", 5000), "１p0", "1p0\x00", "\xff", "1p0\r", "1p0\t", "0\n0"}
}

func TestP6NumbersThatAreNotRead(t *testing.T) {
	for _, x := range hostileNumbers() {
		for _, s := range []string{"mode X 0 0 0\n", "mode 0 X 0 0\n", "mode 0 0 X 0\n", "mode 0 0 0 X\n", "mode 0 0 0 0\nmode 0 X 0 0\nmode 0 0 0 0\n",
			"mode 0 0 0 0\nplace X\n", "mode 0 0 0 0\nmode 0 0 0 0\nplace 0 0\nplace 0 X\n", "mode 0 0 0 0\nmode 0 0 0 0\nplace X 0\n"} {
			if n := checkReading(t, strings.ReplaceAll(s, "X", x)); n > 0 {
				t.Errorf("%q is read with %.40q for X", s, x)
			}
		}
		for _, s := range []string{"wide X 0 0 0\n", "wide 0 X 0 0\n", "wide 0 0 X 0\n", "wide 0 0 0 0\nwide 0 0 0 X\n"} {
			// What has too many digits or places for single precision may be a text.
			_, double := wantNumber(x, doubleWidth())
			if n := checkReading(t, strings.ReplaceAll(s, "X", x)); n > 0 && !double {
				t.Errorf("%q is read with %.40q for X", s, x)
			}
		}
	}
}

func TestP6LinesThatAreNotRead(t *testing.T) {
	for _, s := range []string{
		"\n", " ", " \n", "\n\n", "mode", "mode\n", "mode \n", "mode 0\n", "mode 0 0 0\n", "mode 0 0 0 \n", "mode 0 0 0 0", "mode 0 0 0 0 \n",
		"mode 0 0 0 0 0\n", " mode 0 0 0 0\n", "mode  0 0 0 0\n", "mode 0 0  0 0\n", "mode\t0 0 0 0\n", "mode 0 0 0 0\r\n", "mode 0 0 0 0\n\n",
		"\nmode 0 0 0 0\n", "mode 0 0 0 0\n\nmode 0 0 0 0\n", "mode 0 0 0 0\n ", "mode 0 0 0 0\nx", "mode 0 0 0 0\n\x00", "mode 0 0 0 0\xff\n",
		"mode 0 0 0 0mode 0 0 0 0\n", "mode 0 0 0 0 mode 0 0 0 0\n", "mode 0 0 0 0\nwide 0 0 0 0\n", "wide 0 0 0 0\nmode 0 0 0 0\n",
		"Mode 0 0 0 0\n", "modes 0 0 0 0\n", "mod 0 0 0 0\n", "mode0 0 0 0\n", "mode,0,0,0,0\n", "body 0 0 0 0\n", "0 0 0 0\n", "place 0 0 0 0\n",
		"wide\n", "wide 0 0 0\n", "wide 0 0 0 0", "wide 0 0 0 0 \n", "wide 0 0 0 0 0\n", " wide 0 0 0 0\n", "wide  0 0 0 0\n", "wide 0 0 0 0\n\n",
		"wide 0 0 0 0\n ", "\nwide 0 0 0 0\n", "wider 0 0 0 0\n", "WIDE 0 0 0 0\n", "wide 0 0 0 0\nplace 0\n",
		"place", "place ", "place \n", " place\n", "place\n\n", "places\n", "place 0\n", "place\nplace", "place\n\nplace\n", "place\nmode 0 0 0 0\n",
		"mode 0 0 0 0\nplace\n", "mode 0 0 0 0\nplace 0", "mode 0 0 0 0\nplace 0 \n", "mode 0 0 0 0\nplace  0\n", "mode 0 0 0 0\nplace 0 0\n",
		"mode 0 0 0 0\nplace 0\n\n", "mode 0 0 0 0\nplace 0\nplace\n", "mode 0 0 0 0\n place 0\n", "mode 0 0 0 0\nPlace 0\n",
		"place 0\nmode 0 0 0 0\n", "mode 0 0 0 0\nplace 0\nmode 0 0 0 0\n", "mode 0 0 0 0\nplace 0\nx", "mode 0 0 0 0\nplace 0\nwide 0 0 0 0\n",
	} {
		if n := checkReading(t, s); n > 0 {
			t.Errorf("%q is read", s)
		}
	}
}

// Numbers that have a text each, but that no valid mode or room has.
func TestP6TextsOfNothingValid(t *testing.T) {
	for _, s := range []string{
		"8388609p-23 0 0 0", "0 -8388609p-23 0 0", "1p0 1p-26 0 0", "1p1 0 0 0", "3p-1 0 0 0", "5033165p-23 13421773p-24 0 0", "-16777215p104 0 0 0",
		"0 0 8388609p-13 0", "0 0 0 -8388609p-13", "0 0 1p11 0", "0 0 0 -1025p0", "0 0 16777215p104 0",
	} {
		whole := "0 0 0 0"
		for _, text := range []string{"mode " + s, "mode " + whole + "\nmode " + s, "mode " + s + "\nmode " + whole, "wide " + s, "wide " + whole + "\nwide " + s} {
			if n := checkReading(t, text+"\n"); n > 0 {
				t.Errorf("%q is read", text)
			}
		}
	}
	for _, s := range []string{"4503599627370497p-52 0 0 0", "0 -4503599627370497p-52 0 0", "0 0 4503599627370497p-42 0", "0 0 0 -4503599627370497p-42", "0 1p1023 0 0"} {
		if n := checkReading(t, "wide "+s+"\n"); n > 0 {
			t.Errorf("%q is read", s)
		}
	}
	for _, weight := range []string{"8388609p-19", "-8388609p-19", "17p0", "1p5", "16777215p104"} {
		for _, places := range []string{"place X", "place 0\nplace X", "place X\nplace 0"} {
			if n := checkReading(t, "mode 0 0 0 0\n"+strings.ReplaceAll(places, "X", weight)+"\n"); n > 0 {
				t.Errorf("the weight %q is read", weight)
			}
		}
	}
}

func TestP6AsManyLinesAsThereMayBe(t *testing.T) {
	for _, c := range []struct {
		line         string
		most, counts int
	}{
		{"mode 1p-1 0 0 0\n", impl.MaxModes, 2},
		{"wide 1p-1 0 0 0\n", impl.MaxModes, 1},
		{"place\n", impl.MaxPlaces, 1},
	} {
		if n := checkReading(t, strings.Repeat(c.line, c.most)); n != c.counts {
			t.Errorf("%d lines %q are read in %d ways, want %d", c.most, c.line, n, c.counts)
		}
		for _, more := range []int{c.most + 1, c.most + 2, 2 * c.most, 1000} {
			if n := checkReading(t, strings.Repeat(c.line, more)); n != 0 {
				t.Errorf("%d lines %q are read", more, c.line)
			}
		}
	}
	full := wantRoomText(evenRoom(distinctModes(impl.MaxModes), impl.MaxPlaces, 0.1))
	place := "place" + strings.Repeat(" 0", impl.MaxModes)
	for _, c := range []struct {
		s    string
		want int
	}{
		{full, 1},
		{full + place + "\n", 0},
		{"mode 0 0 0 0\n" + full, 0},
		{strings.Replace(full, "place", place+"\nplace", 1), 0},
		{strings.Replace(full, "place", place+" 0\nplace", 1), 0},
	} {
		if n := checkReading(t, c.s); n != c.want {
			t.Errorf("%q is read in %d ways, want %d", c.s, n, c.want)
		}
	}
}

func TestP10LongTextsThatFail(t *testing.T) {
	const long = 1 << 20
	for _, s := range []string{
		strings.Repeat("\n", long), strings.Repeat(" ", long), strings.Repeat("\xff", long), strings.Repeat("place\n", long),
		strings.Repeat("mode 0 0 0 0\n", long), strings.Repeat("wide 0 0 0 0\n", long), "mode" + strings.Repeat(" 0", long) + "\n",
		"mode 0 0 0 0\nplace" + strings.Repeat(" 0", long) + "\n", "wide" + strings.Repeat(" ", long) + "0 0 0 0\n",
	} {
		b, bodyReads := impl.ParseBody(s)
		list, listReads := impl.ParseWide(s)
		r, roomReads := impl.ParseRoom(s)
		if bodyReads || listReads || roomReads || len(b.Modes) != 0 || len(list) != 0 || len(r.Modes) != 0 || len(r.Shapes) != 0 {
			t.Errorf("%.20q... is read", s)
		}
	}
}

func TestP10TextsAreNotRounded(t *testing.T) {
	for _, s := range []string{"mode 16777217p-25 0 0 0\n", "mode 3602879701896397p-55 0 0 0\n", "mode 1p-1074 0 0 0\n", "mode 0 0 9007199254740991p-43 0\n"} {
		if n := checkReading(t, s); n != 0 {
			t.Errorf("%q is read", s)
		}
		if n := checkReading(t, strings.Replace(s, "mode", "wide", 1)); n != 1 {
			t.Errorf("%q is not read of wide modes", s)
		}
	}
}

func TestP10FilesKeepNothing(t *testing.T) {
	room, modes, weights := memoryOfRoom()
	before := copyRoom(room)
	texts := []string{impl.FormatRoom(room), impl.FormatBody(impl.Body{Modes: room.Modes}), impl.FormatWide(wantWidened(distinctModes(2)))}
	if !sameRoom(room, before) || modes[2].Pole != 7 || modes[3].Pole != 7 || !sameAs(weights, []float32{1, 2, 7, 7, 3, 4, 7, 7}) {
		t.Errorf("writing changes %v, or the memory behind it", room)
	}
	first, _ := impl.ParseRoom(texts[0])
	second, _ := impl.ParseRoom(texts[0])
	scribble(first)
	_ = append(first.Modes, impl.Mode{Pole: 9})
	_ = append(first.Shapes, []float32{9, 9})
	third, ok := impl.ParseRoom(texts[0])
	if !ok || !sameRoom(second, before) || !sameRoom(third, before) {
		t.Errorf("a room that is read shares memory with another one: %v, %v", second, third)
	}
	for place := range second.Shapes {
		kept := copyRoom(second)
		for k := range second.Shapes[place] {
			second.Shapes[place][k], kept.Shapes[place][k] = 9, 9
		}
		if _ = append(second.Shapes[place], 9, 9); !sameRoom(second, kept) {
			t.Errorf("place %d shares memory with another place: %v", place, second)
		}
	}
	body, _ := impl.ParseBody(texts[1])
	body.Modes[0].Pole = 9
	list, _ := impl.ParseWide(texts[2])
	list[0].Pole = 9
	again, _ := impl.ParseBody(texts[1])
	wide, _ := impl.ParseWide(texts[2])
	if !sameBody(again, distinctModes(2)) || !sameWide(wide, wantWidened(distinctModes(2))) {
		t.Errorf("what is read shares memory: %v, %v", again, wide)
	}
}
