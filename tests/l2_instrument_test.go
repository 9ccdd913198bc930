package tests

import (
	"fmt"
	"math/rand"
	"regexp"
	"slices"
	"strconv"
	"strings"
	"testing"

	"loop.example/g00949/impl"
)

func instrument(repeat int, pitches ...int) impl.Instrument {
	return impl.Instrument{Pitches: pitches, Repeat: repeat}
}

// pitchesFrom returns n pitches that just follow each other.
func pitchesFrom(low, n int) []int {
	var l []int
	for i := range n {
		l = append(l, low+i)
	}
	return l
}

func sameInstrument(a, b impl.Instrument) bool {
	return slices.Equal(a.Pitches, b.Pitches) && a.Repeat == b.Repeat
}

// isNoInstrument reports whether an instrument is the zero one, as it is returned with false.
func isNoInstrument(in impl.Instrument) bool {
	return len(in.Pitches) == 0 && in.Repeat == 0
}

func goodInstruments() map[string]impl.Instrument {
	return map[string]impl.Instrument{
		"two pitches":       instrument(2, 60, 62),
		"one pitch":         instrument(3, 60),
		"the lowest pitch":  instrument(1, 24),
		"the highest pitch": instrument(20, 96),
		"all limits":        instrument(1, 24, 96),
		"the least repeat":  instrument(1, 59, 60, 61),
		"the most repeat":   instrument(20, 59, 60, 61),
		"twenty, low":       instrument(2, pitchesFrom(24, 20)...),
		"twenty, middle":    instrument(4, pitchesFrom(50, 20)...),
		"twenty, high":      instrument(5, pitchesFrom(77, 20)...),
	}
}

func badInstruments() map[string]impl.Instrument {
	all := map[string]impl.Instrument{
		"zero":                 {},
		"nil pitches":          {Pitches: nil, Repeat: 2},
		"no pitches":           {Pitches: []int{}, Repeat: 2},
		"no repeat":            instrument(0, 60, 62),
		"a negative repeat":    instrument(-1, 60, 62),
		"too great a repeat":   instrument(21, 60, 62),
		"just too low":         instrument(2, 23, 60),
		"just too low, one":    instrument(2, 23),
		"just too high":        instrument(2, 60, 97),
		"just too high, one":   instrument(2, 97),
		"a zero pitch":         instrument(2, 0, 60),
		"a negative pitch":     instrument(2, -60, 60),
		"equal pitches":        instrument(2, 60, 60),
		"equal pitches, last":  instrument(2, 50, 60, 60),
		"falling pitches":      instrument(2, 62, 60),
		"falling pitches last": instrument(2, 50, 62, 60),
		"falling pitches far":  instrument(2, 60, 62, 59),
		"one too many":         instrument(2, pitchesFrom(50, 21)...),
		"all pitches":          instrument(2, pitchesFrom(24, 73)...),
		"very many":            instrument(2, pitchesFrom(24, 5000)...),
		"very many equal ones": instrument(2, make([]int, 5000)...),
	}
	for _, n := range extremes {
		name := strconv.Itoa(n)
		all["repeat "+name] = instrument(n, 60)
		all["one pitch "+name] = instrument(2, n)
		all["first pitch "+name] = instrument(2, n, 60)
		all["last pitch "+name] = instrument(2, 60, n)
		all["all "+name] = instrument(n, n, n)
	}
	return all
}

// someInstrument returns an instrument with pitches in 57..66.
func someInstrument(r *rand.Rand) impl.Instrument {
	var pitches []int
	for _, pitch := range pitchesFrom(57, 10) {
		if r.Intn(2) == 0 {
			pitches = append(pitches, pitch)
		}
	}
	if len(pitches) == 0 {
		pitches = []int{61}
	}
	return instrument(1+r.Intn(8), pitches...)
}

// busyScore returns a score in which notes of one pitch are near to each other.
func busyScore(r *rand.Rand) []impl.Note {
	return scoreWithin(r, 58, 2+r.Intn(6), 5+r.Intn(30), 1+r.Intn(4))
}

// scoreAt returns notes of the pitch 60 and the Length 1 with these starts.
func scoreAt(starts ...int) []impl.Note {
	var l []impl.Note
	for _, start := range starts {
		l = append(l, note(60, start, 1))
	}
	return l
}

func samePairs(a, b [][]int) bool { return slices.EqualFunc(a, b, slices.Equal[[]int]) }

func TestInstrumentLimits(t *testing.T) {
	if impl.MaxRepeat != 20 || impl.MaxTracks != 20 {
		t.Error("limits", impl.MaxRepeat, impl.MaxTracks)
	}
}

func TestIsInstrument(t *testing.T) {
	for name, in := range goodInstruments() {
		if !impl.IsInstrument(in) {
			t.Error("an instrument:", name)
		}
	}
	for name, in := range badInstruments() {
		if impl.IsInstrument(in) {
			t.Error("no instrument:", name)
		}
	}
	for n := -50; n <= 150; n++ {
		if got, want := impl.IsInstrument(instrument(2, n)), n >= 24 && n <= 96; got != want {
			t.Error("pitch", n, got)
		}
		if got, want := impl.IsInstrument(instrument(n, 60)), n >= 1 && n <= 20; got != want {
			t.Error("repeat", n, got)
		}
		if n < 1 {
			continue
		}
		if got, want := impl.IsInstrument(instrument(2, pitchesFrom(24, n)...)), n <= 20; got != want {
			t.Error("pitches", n, got)
		}
	}
}

func TestTracksAndPitches(t *testing.T) {
	for name, in := range goodInstruments() {
		for n := -100; n <= 200; n++ {
			track, ok := impl.TrackOf(in, n)
			if at := slices.Index(in.Pitches, n); ok != (at >= 0) || ok && track != at || !ok && track != 0 {
				t.Error(name, "the track of", n, track, ok)
			}
			pitch, ok := impl.PitchOf(in, n)
			if has := n >= 0 && n < len(in.Pitches); ok != has || ok && pitch != in.Pitches[n] || !ok && pitch != 0 {
				t.Error(name, "the pitch of", n, pitch, ok)
			}
		}
		for _, n := range extremes {
			if track, ok := impl.TrackOf(in, n); ok || track != 0 {
				t.Error(name, "the track of", n, track, ok)
			}
			if pitch, ok := impl.PitchOf(in, n); ok || pitch != 0 {
				t.Error(name, "the pitch of", n, pitch, ok)
			}
		}
	}
	for name, in := range badInstruments() {
		for _, n := range []int{-1, 0, 1, 23, 24, 60, 62, 97} {
			if track, ok := impl.TrackOf(in, n); ok || track != 0 {
				t.Error(name, "the track of", n, track, ok)
			}
			if pitch, ok := impl.PitchOf(in, n); ok || pitch != 0 {
				t.Error(name, "the pitch of", n, pitch, ok)
			}
		}
	}
}

func TestMissingPitches(t *testing.T) {
	l := []impl.Note{note(70, 0, 1), note(60, 1, 1), note(24, 2, 1), note(70, 3, 1), note(61, 4, 1), note(96, 4, 1), note(24, 5, 1)}
	tests := []struct {
		in   impl.Instrument
		l    []impl.Note
		want []int
	}{
		{instrument(2, 60), nil, nil},
		{instrument(2, 60), l, []int{24, 61, 70, 96}},
		{instrument(20, 24, 60, 61, 70, 96), l, nil},
		{instrument(2, 24, 96), l, []int{60, 61, 70}},
		{instrument(2, 25, 95), l, []int{24, 60, 61, 70, 96}},
		{instrument(2, pitchesFrom(40, 20)...), chord(30), pitchesFrom(60, 10)},
		{instrument(2, 39), chord(30), pitchesFrom(40, 30)},
	}
	for _, x := range tests {
		if got, ok := impl.MissingPitches(x.in, x.l); !ok || !slices.Equal(got, x.want) {
			t.Error(x.in, x.l, got, ok)
		}
	}
}

func TestFastRepeats(t *testing.T) {
	mixed := []impl.Note{note(60, 0, 1), note(61, 0, 1), note(62, 1, 1), note(61, 2, 1), note(60, 3, 1), note(61, 3, 1), note(60, 4, 1)}
	tests := []struct {
		in   impl.Instrument
		l    []impl.Note
		want [][]int
	}{
		{instrument(20, 60), nil, nil},
		{instrument(20, 60), scoreAt(5), nil},
		{instrument(2, 60), scoreAt(0, 1), [][]int{{0, 1}}},
		{instrument(1, 60), scoreAt(0, 1, 2), nil},
		{instrument(2, 60), scoreAt(0, 1, 2), [][]int{{0, 1}, {1, 2}}},
		{instrument(20, 60), scoreAt(0, 1, 2), [][]int{{0, 1}, {1, 2}}},
		{instrument(5, 60), scoreAt(3, 8), nil},
		{instrument(5, 60), scoreAt(3, 7), [][]int{{0, 1}}},
		{instrument(20, 60), scoreAt(3, 23), nil},
		{instrument(20, 60), scoreAt(3, 22), [][]int{{0, 1}}},
		{instrument(20, 60), scoreAt(0, 19, 39, 58, 999), [][]int{{0, 1}, {2, 3}}},
		{instrument(20, 60), []impl.Note{note(60, 0, 19), note(60, 19, 2)}, [][]int{{0, 1}}},
		{instrument(20, 60), chord(30), nil},
		{instrument(1, 60), mixed, nil},
		{instrument(2, 60), mixed, [][]int{{3, 5}, {4, 6}}},
		{instrument(3, 60), mixed, [][]int{{1, 3}, {3, 5}, {4, 6}}},
		{instrument(4, 60), mixed, [][]int{{1, 3}, {0, 4}, {3, 5}, {4, 6}}},
		{instrument(4, 96), mixed, [][]int{{1, 3}, {0, 4}, {3, 5}, {4, 6}}},
	}
	for _, x := range tests {
		if got, ok := impl.FastRepeats(x.in, x.l); !ok || !samePairs(got, x.want) {
			t.Error(x.in, x.l, got, ok)
		}
	}
}

func TestCanPlay(t *testing.T) {
	two := []impl.Note{note(60, 0, 1), note(62, 1, 1), note(60, 4, 1)}
	tests := []struct {
		in   impl.Instrument
		l    []impl.Note
		want bool
	}{
		{instrument(20, 96), nil, true},
		{instrument(4, 60, 62), two, true},
		{instrument(5, 60, 62), two, false},
		{instrument(4, 60), two, false},
		{instrument(4, 62), two, false},
		{instrument(4, 59, 61), two, false},
		{instrument(5, 62), two, false},
		{instrument(1, pitchesFrom(60, 20)...), two, true},
		{instrument(20, 60), scoreAt(0, 20, 40, 60), true},
		{instrument(20, 60), scoreAt(0, 20, 39, 60), false},
		{instrument(1, 60), scoreAt(0, 1, 2, 3), true},
		{instrument(2, 60), row(30), true},
		{instrument(3, 60), row(30), false},
	}
	for _, x := range tests {
		if got, ok := impl.CanPlay(x.in, x.l); !ok || got != x.want {
			t.Error(x.in, x.l, got, ok)
		}
	}
}

func TestPlayablePart(t *testing.T) {
	tests := []struct {
		in      impl.Instrument
		l, want []impl.Note
	}{
		{instrument(20, 60), nil, nil},
		{instrument(2, 61), scoreAt(0, 1, 2), nil},
		{instrument(1, 60), scoreAt(0, 1, 2, 3), scoreAt(0, 1, 2, 3)},
		{instrument(2, 60), scoreAt(0, 1, 2, 3), scoreAt(0, 2)},
		{instrument(3, 60), scoreAt(0, 1, 2, 3), scoreAt(0, 3)},
		{instrument(4, 60), scoreAt(0, 1, 2, 3), scoreAt(0)},
		{instrument(5, 60), scoreAt(0, 4, 5), scoreAt(0, 5)},
		{instrument(5, 60), scoreAt(0, 4, 8), scoreAt(0, 8)},
		{instrument(5, 60), scoreAt(0, 4, 8, 12, 13, 17, 18), scoreAt(0, 8, 13, 18)},
		{instrument(20, 60), scoreAt(0, 19, 20, 39, 40), scoreAt(0, 20, 40)},
		{instrument(20, 60), scoreAt(979, 998, 999), scoreAt(979, 999)},
		{instrument(4, 60), row(30), everySecond(row(30))},
		{instrument(2, 60, 62),
			[]impl.Note{note(60, 0, 1), note(62, 0, 1), note(60, 1, 1), note(61, 1, 1), note(61, 2, 1), note(62, 2, 9)},
			[]impl.Note{note(60, 0, 1), note(62, 0, 1), note(62, 2, 9)}},
	}
	for _, x := range tests {
		if got, ok := impl.PlayablePart(x.in, x.l); !ok || !slices.Equal(got, x.want) {
			t.Error(x.in, x.l, got, ok)
		}
	}
}

func everySecond(l []impl.Note) []impl.Note {
	var half []impl.Note
	for i := 0; i < len(l); i += 2 {
		half = append(half, l[i])
	}
	return half
}

func TestGreatestRepeat(t *testing.T) {
	tests := []struct {
		l    []impl.Note
		want int
	}{
		{nil, 20},
		{[]impl.Note{}, 20},
		{scoreAt(7), 20},
		{chord(30), 20},
		{[]impl.Note{note(60, 0, 1), note(61, 1, 1), note(62, 2, 1)}, 20},
		{scoreAt(0, 1), 1},
		{scoreAt(0, 2), 2},
		{scoreAt(0, 19), 19},
		{scoreAt(0, 20), 20},
		{scoreAt(0, 21), 20},
		{scoreAt(0, 999), 20},
		{scoreAt(0, 9, 16, 24), 7},
		{[]impl.Note{note(60, 0, 1), note(61, 3, 1), note(61, 9, 1), note(60, 10, 1)}, 6},
		{row(30), 2},
	}
	for _, x := range tests {
		if got, ok := impl.GreatestRepeat(x.l); !ok || got != x.want {
			t.Error(x.l, got, ok)
		}
	}
	for name, l := range noScores() {
		if got, ok := impl.GreatestRepeat(l); ok || got != 0 {
			t.Error(name, got, ok)
		}
	}
}

func TestAddPitch(t *testing.T) {
	for name, in := range goodInstruments() {
		for pitch := -100; pitch <= 200; pitch++ {
			want := append(slices.Clone(in.Pitches), pitch)
			slices.Sort(want)
			fits := pitch >= 24 && pitch <= 96 && len(in.Pitches) < 20 && !slices.Contains(in.Pitches, pitch)
			got, ok := impl.AddPitch(in, pitch)
			if ok != fits || ok && !sameInstrument(got, instrument(in.Repeat, want...)) || !ok && !isNoInstrument(got) {
				t.Error(name, pitch, got, ok)
			}
		}
		for _, pitch := range extremes {
			if got, ok := impl.AddPitch(in, pitch); ok || !isNoInstrument(got) {
				t.Error(name, pitch, got, ok)
			}
		}
	}
	for name, in := range badInstruments() {
		for _, pitch := range []int{23, 24, 60, 61, 63, 96, 97} {
			if got, ok := impl.AddPitch(in, pitch); ok || !isNoInstrument(got) {
				t.Error(name, pitch, got, ok)
			}
		}
	}
	in := instrument(7, 24)
	for i, pitch := range pitchesFrom(25, 30) {
		longer, ok := impl.AddPitch(in, pitch)
		if ok != (i < 19) {
			t.Error("filled up", pitch, ok)
		}
		if ok {
			in = longer
		}
	}
	if !sameInstrument(in, instrument(7, pitchesFrom(24, 20)...)) {
		t.Error("filled up", in)
	}
}

func TestCommonPitches(t *testing.T) {
	tests := []struct {
		a, b impl.Instrument
		want []int
	}{
		{instrument(2, 60, 62), instrument(1, 62, 64), []int{62}},
		{instrument(2, 60, 62), instrument(2, 61, 63), nil},
		{instrument(2, 60), instrument(2, 60), []int{60}},
		{instrument(2, 24), instrument(2, 96), nil},
		{instrument(1, 24, 50, 60, 96), instrument(20, 24, 49, 60, 61, 96), []int{24, 60, 96}},
		{instrument(2, pitchesFrom(50, 20)...), instrument(3, pitchesFrom(60, 20)...), pitchesFrom(60, 10)},
		{instrument(2, pitchesFrom(50, 20)...), instrument(3, pitchesFrom(50, 20)...), pitchesFrom(50, 20)},
	}
	for _, x := range tests {
		for _, pair := range [][2]impl.Instrument{{x.a, x.b}, {x.b, x.a}} {
			if got, ok := impl.CommonPitches(pair[0], pair[1]); !ok || !slices.Equal(got, x.want) {
				t.Error(pair, got, ok)
			}
		}
	}
	fine := instrument(2, 60, 62)
	for name, in := range badInstruments() {
		for _, pair := range [][2]impl.Instrument{{fine, in}, {in, fine}, {in, in}} {
			if got, ok := impl.CommonPitches(pair[0], pair[1]); ok || got != nil {
				t.Error(name, got, ok)
			}
		}
	}
}

func TestWhatRequiresAnInstrumentAndAScoreRefusesOthers(t *testing.T) {
	check := func(name string, in impl.Instrument, l []impl.Note) {
		if got, ok := impl.MissingPitches(in, l); ok || got != nil {
			t.Error("MissingPitches", name, got, ok)
		}
		if got, ok := impl.FastRepeats(in, l); ok || got != nil {
			t.Error("FastRepeats", name, got, ok)
		}
		if got, ok := impl.CanPlay(in, l); ok || got {
			t.Error("CanPlay", name, got, ok)
		}
		if got, ok := impl.PlayablePart(in, l); ok || got != nil {
			t.Error("PlayablePart", name, got, ok)
		}
	}
	for name, in := range badInstruments() {
		for _, l := range [][]impl.Note{nil, scoreAt(0), scoreAt(0, 1), row(30)} {
			check(name, in, l)
		}
	}
	for name, l := range noScores() {
		check(name, instrument(1, 60), l)
		check(name, instrument(20, pitchesFrom(50, 20)...), l)
		check(name+", no instrument", instrument(0, 60), l)
	}
}

func TestInstrumentText(t *testing.T) {
	tests := []struct {
		in   impl.Instrument
		want string
	}{
		{instrument(2, 60, 62), "c5 d5 2\n"},
		{instrument(1, 24), "c2 1\n"},
		{instrument(20, 96), "c8 20\n"},
		{instrument(10, 24, 25, 95, 96), "c2 c#2 b7 c8 10\n"},
		{instrument(9, pitchesFrom(59, 20)...), "b4 c5 c#5 d5 d#5 e5 f5 f#5 g5 g#5 a5 a#5 b5 c6 c#6 d6 d#6 e6 f6 f#6 9\n"},
	}
	for _, x := range tests {
		if got, ok := impl.InstrumentText(x.in); !ok || got != x.want {
			t.Errorf("%v: %q %v", x.in, got, ok)
		}
		if got, ok := impl.ParseInstrument(x.want); !ok || !sameInstrument(got, x.in) {
			t.Errorf("%q: %v %v", x.want, got, ok)
		}
	}
	for name, in := range badInstruments() {
		if got, ok := impl.InstrumentText(in); ok || got != "" {
			t.Errorf("%s: %q %v", name, got, ok)
		}
	}
}

// notInstrumentTexts are no text of an instrument.
func notInstrumentTexts() []string {
	return []string{
		"", "\n", " ", " \n", "  \n", "2\n", " 2\n", "c5\n", "c5 \n", "c5 d5\n", "c5 d5 \n", "c5 2", "c5 d5 2", "c52\n", "c5d5 2\n", "c5 d52\n",
		"c5  d5 2\n", "c5 d5  2\n", " c5 d5 2\n", "c5 d5 2 \n", "c5 d5 2\n\n", "c5 d5 2\n ", "\nc5 d5 2\n", "c5\nd5 2\n", "c5 d5\n2\n", "c5 2\nd5 2\n",
		"c5 d5 2\r\n", "c5\td5 2\n", "c5,d5,2\n", "c5\u00a0d5 2\n", "c5 d5 2\x00\n", "c5 d5\x00 2\n", "c5 d5 2;", "c5 d5 2\r",
		"c5 d5 02\n", "c5 d5 +2\n", "c5 d5 -2\n", "c5 d5 -0\n", "c5 d5 0\n", "c5 d5 21\n", "c5 d5 00\n", "c5 d5 2.0\n", "c5 d5 0x2\n", "c5 d5 1e1\n", "c5 d5 1_0\n",
		"c05 d5 2\n", "c+5 d5 2\n", "c-5 d5 2\n", "C5 d5 2\n", "h5 2\n", "e#5 2\n", "b#4 2\n", "db5 2\n", "c##5 2\n", "#5 2\n", "5 2\n", "c 2\n", "c# 2\n",
		"c5# 2\n", "60 2\n", "r 2\n", "c5 r 2\n", "d5 c5 2\n", "c5 c5 2\n", "c5 e5 d5 2\n", "c5 d5 d5 2\n", "c5 d5 2 2\n", "c5 2 d5\n", "c5 2 d5 2\n", "2 c5 2\n",
		"b1 2\n", "c1 2\n", "c0 2\n", "b1 c2 2\n", "c#8 2\n", "c8 c#8 2\n", "d8 2\n", "c9 2\n", "c10 2\n", "c55 2\n",
		"c18446744073709551621 2\n", "c4611686018427387909 2\n", "c5 18446744073709551618\n", "c5 9223372036854775807\n", "c5 9223372036854775808\n",
		"\xff5 2\n", "c\xff5 2\n", "c5 2\xff\n", "c5\xff 2\n", "\xe3\x205 2\n", "c5\xe3 2\n", "c5 2\xe3\n", "c\uff15 2\n", "c5 \uff12\n", "\u01635 2\n", "c5\u01202\n", "c5 2\u010a",
		textOf(pitchesFrom(50, 21), "2"), textOf(pitchesFrom(24, 73), "2"),
		strings.Repeat("c5 ", 20000) + "2\n", strings.Repeat(" ", 20000) + "\n", strings.Repeat("\n", 20000), strings.Repeat("c", 20000),
		"c" + strings.Repeat("5", 20000) + " 2\n", "c5 " + strings.Repeat("0", 20000) + "2\n",
	}
}

// textOf returns names of pitches and a last word in a line.
func textOf(pitches []int, last string) string {
	var s strings.Builder
	for _, pitch := range pitches {
		name, _ := impl.PitchName(pitch)
		fmt.Fprintf(&s, "%s ", name)
	}
	return s.String() + last + "\n"
}

func TestParseInstrument(t *testing.T) {
	for _, s := range notInstrumentTexts() {
		if got, ok := impl.ParseInstrument(s); ok || !isNoInstrument(got) {
			t.Errorf("%.60q: %v %v", s, got, ok)
		}
	}
	for n := -30; n <= 130; n++ {
		got, ok := impl.ParseInstrument(textOf([]int{60, 62}, strconv.Itoa(n)))
		if fits := n >= 1 && n <= 20; ok != fits || ok && !sameInstrument(got, instrument(n, 60, 62)) || !ok && !isNoInstrument(got) {
			t.Error("repeat", n, got, ok)
		}
	}
	for n := range 73 {
		got, ok := impl.ParseInstrument(textOf(pitchesFrom(24, n), "3"))
		if fits := n >= 1 && n <= 20; ok != fits || ok && !sameInstrument(got, instrument(3, pitchesFrom(24, n)...)) || !ok && !isNoInstrument(got) {
			t.Error("pitches", n, got, ok)
		}
	}
}

var instrumentForm = regexp.MustCompile(`^((?:[a-g]#?[0-9] )+)([1-9][0-9]?)\n$`)

// readInstrument reads a text by looking its names up in pitches.
func readInstrument(s string, pitches map[string]int) (impl.Instrument, bool) {
	parts := instrumentForm.FindStringSubmatch(s)
	if parts == nil {
		return impl.Instrument{}, false
	}
	var in impl.Instrument
	in.Repeat, _ = strconv.Atoi(parts[2])
	for i, name := range strings.Fields(parts[1]) {
		pitch := pitches[name]
		if pitch < 24 || pitch > 96 || i > 0 && pitch <= in.Pitches[i-1] {
			return impl.Instrument{}, false
		}
		in.Pitches = append(in.Pitches, pitch)
	}
	return in, in.Repeat <= 20 && len(in.Pitches) <= 20
}

// TestParseInstrumentOfChangedTexts changes each byte of texts.
func TestParseInstrumentOfChangedTexts(t *testing.T) {
	bases := []string{"c5 1\n", "c5 d5 2\n", "c2 c#2 b7 c8 10\n", "a4 20\n", textOf(pitchesFrom(50, 20), "19")}
	pitches := pitchesByName()
	read := func(s string) (impl.Instrument, bool) { return readInstrument(s, pitches) }
	if n := checkReading(t, bases, impl.ParseInstrument, read, impl.InstrumentText); n < 100 {
		t.Error("too few texts are read", n)
	}
}
