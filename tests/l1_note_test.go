package tests

import (
	"fmt"
	"math/rand"
	"regexp"
	"slices"
	"strconv"
	"strings"
	"testing"

	"loop.example/g00949/impl"
)

func noteWords(x impl.Note) string { return fmt.Sprint(x.Pitch, " ", x.Start, " ", x.Length) }

func TestLimits(t *testing.T) {
	got := []int{impl.LowPitch, impl.HighPitch, impl.LastStart, impl.MaxLength, impl.MaxNotes}
	if want := []int{24, 96, 999, 99, 30}; !slices.Equal(got, want) {
		t.Error("limits", got, want)
	}
}

func TestIsNote(t *testing.T) {
	good := []impl.Note{
		note(60, 0, 1), note(24, 5, 5), note(96, 5, 5), note(60, 999, 1),
		note(60, 0, 99), note(24, 999, 99), note(96, 0, 1), note(61, 4, 2),
	}
	for _, x := range good {
		if !impl.IsNote(x) {
			t.Error("a note", x)
		}
	}
	for _, x := range badNotes() {
		if impl.IsNote(x) {
			t.Error("no note", x)
		}
	}
}

func TestIsScore(t *testing.T) {
	for name, l := range goodScores() {
		if !impl.IsScore(l) {
			t.Error("a score:", name)
		}
	}
	for name, l := range noScores() {
		if impl.IsScore(l) {
			t.Error("no score:", name)
		}
	}
}

func TestIsScoreByItsDefinition(t *testing.T) {
	r := rand.New(rand.NewSource(1))
	scores := 0
	for range 20000 {
		l := someNotes(r, 5)
		for _, l := range [][]impl.Note{l, inOrder(l)} {
			want := isScore(l)
			if got := impl.IsScore(l); got != want {
				t.Fatal(l, got, want)
			}
			if want {
				scores++
			}
		}
	}
	if scores < 1000 {
		t.Error("too few scores", scores)
	}
}

func TestSortNotes(t *testing.T) {
	for name, l := range goodScores() {
		backwards := slices.Clone(l)
		slices.Reverse(backwards)
		for _, given := range [][]impl.Note{l, backwards} {
			if got, ok := impl.SortNotes(given); !ok || !slices.Equal(got, l) {
				t.Error(name, got, ok)
			}
		}
	}
	for name, l := range outOfOrder() {
		if got, ok := impl.SortNotes(l); !ok || !slices.Equal(got, inOrder(l)) {
			t.Error(name, got, ok)
		}
	}
	for name, l := range noScores() {
		if isScore(inOrder(l)) {
			continue
		}
		if got, ok := impl.SortNotes(l); ok || got != nil {
			t.Error(name, got, ok)
		}
	}
}

func TestSortNotesByItsDefinition(t *testing.T) {
	r := rand.New(rand.NewSource(2))
	for range 20000 {
		l := someNotes(r, 5)
		want := inOrder(l)
		got, ok := impl.SortNotes(l)
		if ok != isScore(want) || ok && !slices.Equal(got, want) || !ok && len(got) > 0 {
			t.Fatal(l, got, ok)
		}
	}
}

// changeTest is a score that is transposed or moved.
type changeTest struct {
	l    []impl.Note
	by   int
	want []impl.Note
	ok   bool
}

func checkChanges(t *testing.T, change func([]impl.Note, int) ([]impl.Note, bool), tests []changeTest) {
	t.Helper()
	for _, x := range tests {
		if got, ok := change(x.l, x.by); ok != x.ok || !slices.Equal(got, x.want) {
			t.Error(x.l, x.by, got, ok)
		}
		for _, by := range extremes {
			if got, ok := change(x.l, by); ok || got != nil {
				t.Error(x.l, by, got)
			}
		}
	}
}

func TestTransposeScore(t *testing.T) {
	l := []impl.Note{note(60, 0, 2), note(64, 0, 3), note(60, 2, 1)}
	tests := []changeTest{
		{l, 0, l, true},
		{l, 5, []impl.Note{note(65, 0, 2), note(69, 0, 3), note(65, 2, 1)}, true},
		{l, -7, []impl.Note{note(53, 0, 2), note(57, 0, 3), note(53, 2, 1)}, true},
		{l, 32, []impl.Note{note(92, 0, 2), note(96, 0, 3), note(92, 2, 1)}, true},
		{l, 33, nil, false},
		{l, -36, []impl.Note{note(24, 0, 2), note(28, 0, 3), note(24, 2, 1)}, true},
		{l, -37, nil, false},
		{[]impl.Note{note(24, 7, 9)}, 72, []impl.Note{note(96, 7, 9)}, true},
		{[]impl.Note{note(24, 7, 9)}, 73, nil, false},
		{[]impl.Note{note(96, 7, 9)}, -72, []impl.Note{note(24, 7, 9)}, true},
		{[]impl.Note{note(96, 7, 9)}, -73, nil, false},
		{nil, 72, nil, true},
		{nil, -72, nil, true},
		{nil, 73, nil, false},
		{nil, -73, nil, false},
		{[]impl.Note{note(97, 0, 1)}, -1, nil, false},
		{[]impl.Note{note(23, 0, 1)}, 1, nil, false},
		{[]impl.Note{note(132, 0, 1)}, -72, nil, false},
	}
	checkChanges(t, impl.TransposeScore, tests)
}

func TestMoveScore(t *testing.T) {
	l := []impl.Note{note(60, 3, 2), note(64, 3, 3), note(60, 5, 1)}
	tests := []changeTest{
		{l, 0, l, true},
		{l, 5, []impl.Note{note(60, 8, 2), note(64, 8, 3), note(60, 10, 1)}, true},
		{l, -3, []impl.Note{note(60, 0, 2), note(64, 0, 3), note(60, 2, 1)}, true},
		{l, -4, nil, false},
		{l, 994, []impl.Note{note(60, 997, 2), note(64, 997, 3), note(60, 999, 1)}, true},
		{l, 995, nil, false},
		{[]impl.Note{note(60, 0, 99)}, 999, []impl.Note{note(60, 999, 99)}, true},
		{[]impl.Note{note(60, 0, 99)}, 1000, nil, false},
		{[]impl.Note{note(60, 999, 99)}, -999, []impl.Note{note(60, 0, 99)}, true},
		{[]impl.Note{note(60, 999, 99)}, -1000, nil, false},
		{nil, 999, nil, true},
		{nil, -999, nil, true},
		{nil, 1000, nil, false},
		{nil, -1000, nil, false},
		{[]impl.Note{note(60, 1000, 1)}, -1, nil, false},
		{[]impl.Note{note(60, -1, 1)}, 1, nil, false},
	}
	checkChanges(t, impl.MoveScore, tests)
}

func TestJoinScores(t *testing.T) {
	tests := []struct {
		a, b, want []impl.Note
		ok         bool
	}{
		{nil, nil, nil, true},
		{nil, row(30), row(30), true},
		{row(30), []impl.Note{note(61, 0, 1)}, nil, false},
		{row(15), chord(15), inOrder(append(row(15), chord(15)...)), true},
		{row(15), chord(16), nil, false},
		{row(30), row(30), nil, false},
		{[]impl.Note{note(60, 0, 1)}, []impl.Note{note(60, 0, 1)}, nil, false},
		{[]impl.Note{note(60, 0, 2)}, []impl.Note{note(60, 1, 1)}, nil, false},
		{[]impl.Note{note(60, 0, 2)}, []impl.Note{note(60, 2, 1)}, []impl.Note{note(60, 0, 2), note(60, 2, 1)}, true},
		{[]impl.Note{note(62, 4, 1)}, []impl.Note{note(61, 4, 1)}, []impl.Note{note(61, 4, 1), note(62, 4, 1)}, true},
		{[]impl.Note{note(60, 0, 2), note(60, 6, 1)}, []impl.Note{note(61, 0, 9), note(60, 2, 4)},
			[]impl.Note{note(60, 0, 2), note(61, 0, 9), note(60, 2, 4), note(60, 6, 1)}, true},
	}
	for _, x := range tests {
		for _, pair := range [][2][]impl.Note{{x.a, x.b}, {x.b, x.a}} {
			if got, ok := impl.JoinScores(pair[0], pair[1]); ok != x.ok || !slices.Equal(got, x.want) {
				t.Error(pair, got, ok)
			}
		}
	}
}

func TestJoinScoresByItsDefinition(t *testing.T) {
	r := rand.New(rand.NewSource(3))
	joined := 0
	for range 20000 {
		a, b := inOrder(someNotes(r, 3)), inOrder(someNotes(r, 3))
		all := inOrder(append(slices.Clone(a), b...))
		want := isScore(a) && isScore(b) && isScore(all)
		got, ok := impl.JoinScores(a, b)
		if ok != want || ok && !slices.Equal(got, all) || !ok && got != nil {
			t.Fatal(a, b, got, ok)
		}
		if ok {
			joined++
		}
	}
	if joined < 1000 {
		t.Error("too few joined", joined)
	}
}

func TestSoundingAt(t *testing.T) {
	l := []impl.Note{note(61, 4, 2), note(72, 5, 3), note(60, 7, 1), note(96, 999, 99)}
	tests := []struct {
		step int
		want []int
		ok   bool
	}{
		{-1, nil, false}, {0, nil, true}, {3, nil, true}, {4, []int{61}, true}, {5, []int{61, 72}, true},
		{6, []int{72}, true}, {7, []int{60, 72}, true}, {8, nil, true}, {998, nil, true}, {999, []int{96}, true},
		{1097, []int{96}, true}, {1098, nil, true}, {1099, nil, true}, {1100, nil, false},
	}
	for _, x := range tests {
		if got, ok := impl.SoundingAt(l, x.step); ok != x.ok || !slices.Equal(got, x.want) {
			t.Error(x.step, got, ok)
		}
		if got, ok := impl.SoundingAt(nil, x.step); ok != x.ok || len(got) > 0 {
			t.Error("no notes", x.step, got, ok)
		}
	}
	for _, step := range extremes {
		if got, ok := impl.SoundingAt(l, step); ok || got != nil {
			t.Error(step, got)
		}
	}
	if got, ok := impl.SoundingAt(chord(30), 9); !ok || len(got) != 30 || got[0] != 40 || got[29] != 69 {
		t.Error("a chord", got, ok)
	}
}

func TestSoundingEndAndRangeByTheirDefinitions(t *testing.T) {
	r := rand.New(rand.NewSource(4))
	for range 200 {
		l := someScore(r)
		end := 0
		for step := range 1100 {
			var want []int
			for _, x := range l {
				if x.Start <= step && step <= x.Start+x.Length-1 {
					want = append(want, x.Pitch)
					end = step + 1
				}
			}
			slices.Sort(want)
			if got, ok := impl.SoundingAt(l, step); !ok || !slices.Equal(got, want) {
				t.Fatal(l, step, got, want)
			}
		}
		if got, ok := impl.EndOfScore(l); !ok || got != end {
			t.Fatal(l, got, end)
		}
		var pitches []int
		for _, x := range l {
			pitches = append(pitches, x.Pitch)
		}
		least, greatest, ok := impl.RangeOf(l)
		if ok != (len(l) > 0) || ok && (least != slices.Min(pitches) || greatest != slices.Max(pitches)) {
			t.Fatal(l, least, greatest, ok)
		}
	}
}

func TestEndOfScore(t *testing.T) {
	tests := []struct {
		l    []impl.Note
		want int
	}{
		{nil, 0},
		{[]impl.Note{note(61, 4, 2)}, 6},
		{[]impl.Note{note(24, 0, 1)}, 1},
		{[]impl.Note{note(24, 0, 9), note(30, 2, 1)}, 9},
		{[]impl.Note{note(24, 0, 9), note(30, 2, 7), note(31, 3, 9)}, 12},
		{[]impl.Note{note(24, 999, 99)}, 1098},
	}
	for _, x := range tests {
		if got, ok := impl.EndOfScore(x.l); !ok || got != x.want {
			t.Error(x.l, got, ok)
		}
	}
}

func TestRangeOf(t *testing.T) {
	tests := []struct {
		l               []impl.Note
		least, greatest int
		ok              bool
	}{
		{nil, 0, 0, false},
		{[]impl.Note{}, 0, 0, false},
		{[]impl.Note{note(61, 4, 2)}, 61, 61, true},
		{[]impl.Note{note(70, 0, 1), note(24, 1, 1), note(96, 2, 1), note(50, 3, 1)}, 24, 96, true},
		{chord(30), 40, 69, true},
	}
	for _, x := range tests {
		if a, b, ok := impl.RangeOf(x.l); a != x.least || b != x.greatest || ok != x.ok {
			t.Error(x.l, a, b, ok)
		}
	}
}

func TestPitchName(t *testing.T) {
	classes := strings.Fields("c c# d d# e f f# g g# a a# b")
	for pitch := 24; pitch <= 96; pitch++ {
		want := classes[pitch%12] + strconv.Itoa(pitch/12)
		if got, ok := impl.PitchName(pitch); !ok || got != want {
			t.Error(pitch, got, ok)
		}
	}
	known := map[int]string{24: "c2", 35: "b2", 36: "c3", 60: "c5", 61: "c#5", 70: "a#5", 95: "b7", 96: "c8"}
	for pitch, want := range known {
		if got, ok := impl.PitchName(pitch); !ok || got != want {
			t.Error(pitch, got, ok)
		}
	}
	for _, pitch := range append([]int{-1, 0, 1, 12, 23, 97, 108, 120, -60}, extremes...) {
		if got, ok := impl.PitchName(pitch); ok || got != "" {
			t.Error(pitch, got, ok)
		}
	}
}

func TestScoreText(t *testing.T) {
	tests := []struct {
		l    []impl.Note
		want string
	}{
		{nil, ""},
		{[]impl.Note{note(61, 4, 2)}, "c#5 4 2\n"},
		{[]impl.Note{note(24, 0, 1), note(96, 0, 99), note(59, 999, 10)}, "c2 0 1\nc8 0 99\nb4 999 10\n"},
	}
	for _, x := range tests {
		if got, ok := impl.ScoreText(x.l); !ok || got != x.want {
			t.Errorf("%v: %q %v", x.l, got, ok)
		}
		if got, ok := impl.ParseScore(x.want); !ok || !slices.Equal(got, x.l) {
			t.Errorf("%q: %v %v", x.want, got, ok)
		}
	}
}

func TestWhatRequiresAScoreRefusesOthers(t *testing.T) {
	one := []impl.Note{note(60, 500, 1)}
	calls := scoreCalls()
	calls["JoinScores, first"] = func(l []impl.Note) result {
		joined, ok := impl.JoinScores(l, one)
		return result{notes: joined, ok: ok}
	}
	calls["JoinScores, second"] = func(l []impl.Note) result {
		joined, ok := impl.JoinScores(one, l)
		return result{notes: joined, ok: ok}
	}
	for name, call := range calls {
		for list, l := range noScores() {
			if got := call(l); !got.isZero() {
				t.Error(name, list, got)
			}
		}
	}
}

// notTexts are no text of a score.
func notTexts() []string {
	l := []string{
		"c#5 4 2", "c#5 4 2\n\n", "\n", "\nc#5 4 2\n", " c#5 4 2\n", "c#5 4 2 \n", "c#5 4 2\n ", " ", "  \n",
		"c#5  4 2\n", "c#5 4  2\n", "c#54 2\n", "c#5 42\n", "c#542\n", "c# 5 4 2\n", "c#5\t4 2\n", "c#5 4 2\r\n",
		"c#5 4 2\r", "c#5,4,2\n", "c#5 4\n", "c#5\n", "c#5 4 2 1\n", "4 2\n", "c#5 4 2;", "c#5 4 2\x00\n", "c#5\u00a04 2\n",
		"c#5 04 2\n", "c#5 00 2\n", "c#5 4 02\n", "c#05 4 2\n", "c#5 +4 2\n", "c#5 -4 2\n", "c#5 -0 2\n", "c#5 4 +2\n",
		"c#5 4 -2\n", "c#+5 4 2\n", "c#-5 4 2\n", "c#5  2\n", "c#5 4 \n", " 4 2\n",
		"C#5 4 2\n", "h5 4 2\n", "e#5 4 2\n", "b#5 4 2\n", "db5 4 2\n", "c##5 4 2\n", "#5 4 2\n", "#c5 4 2\n", "5 4 2\n",
		"c 4 2\n", "c# 4 2\n", "c5# 4 2\n", "5c 4 2\n", "cd5 4 2\n", "61 4 2\n", "r 4 2\n", "c#5.0 4 2\n",
		"\u0163#5 4 2\n", "c\u266f5 4 2\n", "\xff5 4 2\n", "c\xff5 4 2\n", "\xc1\xa35 4 2\n", "c5\xff 4 2\n", "\xe3\x235 4 2\n",
		"c\uff15 4 2\n", "c5 \u0664 2\n", "c5 4 \uff12\n",
		"c0 4 2\n", "c1 4 2\n", "b1 4 2\n", "c#8 4 2\n", "d8 4 2\n", "b8 4 2\n", "c9 4 2\n", "c10 4 2\n", "c55 4 2\n",
		"c5 1000 2\n", "c5 4 0\n", "c5 4 100\n", "c5 0x4 2\n", "c5 1_0 2\n", "c5 1e1 2\n", "c5 4.0 2\n",
		"c4611686018427387909 4 2\n", "c18446744073709551621 4 2\n", "c5 18446744073709551620 2\n", "c5 4 18446744073709551618\n",
		"c5 9223372036854775807 2\n", "c5 4 9223372036854775807\n", "c5 9223372036854775808 2\n",
		"d5 0 1\nc5 0 1\n", "c5 1 1\nc5 0 1\n", "c5 0 1\nc5 0 1\n", "c5 0 2\nc5 1 1\n", "c5 0 9\nd5 1 1\nc5 8 1\n",
		"c5 0 1\nc5 1 1", "c5 0 1\n\nc5 1 1\n", "c5 0 1 c5 1 1\n", "c5 0 1\nc5 1 0\n", "c5 0 0\nc5 1 1\n",
		lines(31), strings.Repeat("c5 0 1\n", 20000), strings.Repeat("\n", 20000), strings.Repeat(" ", 20000) + "\n",
		"c" + strings.Repeat("5", 20000) + " 4 2\n", "c5 " + strings.Repeat("0", 20000) + "4 2\n", strings.Repeat("c", 20000),
	}
	return l
}

// lines returns the text of row(n).
func lines(n int) string {
	var s strings.Builder
	for i := range n {
		fmt.Fprintf(&s, "c5 %d 2\n", 2*i)
	}
	return s.String()
}

func TestParseScore(t *testing.T) {
	if got, ok := impl.ParseScore(""); !ok || len(got) != 0 {
		t.Error("no notes", got, ok)
	}
	if got, ok := impl.ParseScore(lines(30)); !ok || !slices.Equal(got, row(30)) {
		t.Error("thirty notes", got, ok)
	}
	got, ok := impl.ParseScore("c2 0 1\nc8 0 99\nc2 1 2\nb#")
	if ok || got != nil {
		t.Error("a bad end", got, ok)
	}
	for _, s := range notTexts() {
		if got, ok := impl.ParseScore(s); ok || got != nil {
			t.Errorf("%.60q: %v %v", s, got, ok)
		}
	}
}

var lineForm = regexp.MustCompile(`^([a-g]#?[0-9]) (0|[1-9][0-9]*) (0|[1-9][0-9]*)\n$`)

// readText reads a text by looking its names up in pitches.
func readText(s string, pitches map[string]int) ([]impl.Note, bool) {
	var l []impl.Note
	for _, line := range strings.SplitAfter(s, "\n") {
		if line == "" {
			continue
		}
		words := lineForm.FindStringSubmatch(line)
		if words == nil {
			return nil, false
		}
		start, err1 := strconv.Atoi(words[2])
		length, err2 := strconv.Atoi(words[3])
		if err1 != nil || err2 != nil {
			return nil, false
		}
		l = append(l, note(pitches[words[1]], start, length))
	}
	return l, isScore(l)
}

// pitchesByName has the names of pitches that are too low or too high, too.
func pitchesByName() map[string]int {
	pitches := map[string]int{}
	for i, class := range strings.Fields("c c# d d# e f f# g g# a a# b") {
		for octave := range 10 {
			pitches[class+strconv.Itoa(octave)] = 12*octave + i
		}
	}
	return pitches
}

// changedTexts returns a text without each of its bytes, with each of them twice, and with any byte in place of or in front of each of them.
func changedTexts(s string) []string {
	var l []string
	for i := range len(s) {
		l = append(l, s[:i]+s[i+1:], s[:i]+s[i:i+1]+s[i:])
		for b := range 256 {
			c := string([]byte{byte(b)})
			l = append(l, s[:i]+c+s[i+1:], s[:i]+c+s[i:])
		}
	}
	return l
}

// TestParseScoreOfChangedTexts changes each byte of texts.
func TestParseScoreOfChangedTexts(t *testing.T) {
	bases := []string{"c#5 4 2\n", "c2 0 1\nc8 0 99\na#4 999 10\n", "c5 0 2\nc5 2 1\n", lines(30)}
	pitches := pitchesByName()
	read := func(s string) ([]impl.Note, bool) { return readText(s, pitches) }
	if n := checkReading(t, bases, impl.ParseScore, read, impl.ScoreText); n < 100 {
		t.Error("too few texts are read", n)
	}
}
