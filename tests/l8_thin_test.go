package tests

import (
	"slices"
	"testing"

	"loop.example/g00949/impl"
)

// thinnedNotes is a score of three notes that sound together in one step, the shortest of which is the second one.
func thinnedNotes() []impl.Note { return []impl.Note{note(60, 0, 4), note(62, 0, 2), note(64, 1, 3)} }

// twoSteps is an instrument with the repeat time 2.
func twoSteps() impl.Instrument { return instrument(2, 60, 62, 64) }

// allIndices are those of the notes of a score with n notes.
func allIndices(n int) []int { return pitchesFrom(0, n) }

// lengthsAt returns notes of the pitch 60, given by their starts and lengths.
func lengthsAt(pairs ...int) []impl.Note {
	var l []impl.Note
	for i := 0; i < len(pairs); i += 2 {
		l = append(l, note(60, pairs[i], pairs[i+1]))
	}
	return l
}

// thinScores returns scores with at most MaxThinned notes, by a name.
func thinScores() map[string][]impl.Note {
	all := map[string][]impl.Note{
		"twelve notes":         row(12),
		"twelve at once":       chord(12),
		"eleven notes":         row(11),
		"three voices":         thinnedNotes(),
		"repeats":              scoreAt(0, 1, 2, 4, 5, 8, 12),
		"longest repeats":      lengthsAt(0, 99, 99, 99, 198, 99),
		"twelve fast repeats":  scoreAt(allIndices(12)...),
		"a pitch of no tracks": {note(61, 0, 1), note(61, 1, 1), note(63, 1, 2)},
	}
	for name, l := range goodScores() {
		if len(l) <= 12 {
			all[name] = l
		}
	}
	return all
}

// noThinScores returns what is no score with at most MaxThinned notes.
func noThinScores() map[string][]impl.Note {
	all := noScores()
	all["thirteen notes"] = row(13)
	all["thirteen at once"] = chord(13)
	all["thirteen fast repeats"] = scoreAt(allIndices(13)...)
	all["fourteen notes"] = row(14)
	all["thirty notes"] = row(30)
	all["thirty at once"] = chord(30)
	return all
}

// badParts returns lists that are no parts of a score with n notes, which is at most MaxThinned.
func badParts(n int) [][]int {
	all := [][]int{
		{-1}, {n}, {n + 1}, {-1, 0}, {0, 0}, {1, 0}, {0, 1, 1}, {0, 2, 1}, {0, -1}, {1, 1}, {n - 1, n - 1}, {n - 1, n}, {n, 0}, {0, n},
		allIndices(n + 1), slices.Concat(allIndices(n), []int{n - 1}), slices.Concat(allIndices(n), []int{0}), slices.Concat([]int{-1}, allIndices(n)), slices.Concat([]int{0}, allIndices(max(n, 1))), allIndices(100), make([]int, 100),
	}
	for _, x := range extremes {
		all = append(all, []int{x}, []int{0, x}, []int{x, 0}, []int{x, x})
	}
	return all
}

// badVoices are numbers of voices that are not valid.
func badVoices() []int {
	return append([]int{-20, -2, -1, 0, 21, 22, 100}, extremes...)
}

func TestThinnedLimits(t *testing.T) {
	if impl.MaxThinned != 12 {
		t.Error("limit", impl.MaxThinned)
	}
}

func TestMostVoices(t *testing.T) {
	tests := []struct {
		l    []impl.Note
		want int
	}{
		{nil, 0}, {[]impl.Note{}, 0}, {oneNote(60), 1}, {thinnedNotes(), 3}, {thinnedNotes()[:2], 2}, {thinnedNotes()[2:], 1}, {row(12), 1}, {chord(12), 12}, {chord(11), 11},
		// They end where another one starts, one step behind it, and one step before.
		{[]impl.Note{note(60, 0, 4), note(62, 4, 2)}, 1}, {[]impl.Note{note(60, 0, 5), note(62, 4, 2)}, 2}, {[]impl.Note{note(60, 0, 3), note(62, 4, 2)}, 1}, {lengthsAt(0, 4, 4, 2), 1}, {[]impl.Note{note(60, 0, 4), note(62, 0, 4), note(60, 4, 4), note(62, 4, 4)}, 2}, {[]impl.Note{note(60, 0, 4), note(62, 0, 5), note(60, 4, 4), note(62, 5, 4)}, 2},
		// They lie within another one, together or one behind the other.
		{[]impl.Note{note(60, 0, 10), note(62, 3, 2)}, 2}, {[]impl.Note{note(60, 0, 10), note(62, 3, 2), note(64, 5, 2)}, 2}, {[]impl.Note{note(60, 0, 10), note(62, 3, 2), note(64, 4, 2)}, 3}, {[]impl.Note{note(60, 0, 10), note(62, 3, 2), note(62, 5, 2), note(62, 9, 9)}, 2}, {[]impl.Note{note(60, 0, 10), note(62, 1, 8), note(64, 2, 6), note(65, 3, 4), note(67, 4, 1)}, 5},
		// Most sound in the first, in a middle or in the last step, of which there are far ones too.
		{[]impl.Note{note(60, 0, 2), note(62, 0, 1), note(64, 0, 1), note(62, 1, 1)}, 3}, {[]impl.Note{note(60, 0, 2), note(62, 2, 3), note(64, 3, 3), note(65, 4, 2), note(67, 5, 1), note(60, 9, 1)}, 3}, {[]impl.Note{note(60, 5, 1), note(62, 900, 99), note(24, 998, 1), note(96, 998, 99)}, 3}, {[]impl.Note{note(62, 901, 99), note(24, 999, 1), note(96, 999, 99)}, 3}, {[]impl.Note{note(62, 900, 99), note(24, 999, 1), note(96, 999, 99)}, 2}, {[]impl.Note{note(24, 0, 99), note(96, 98, 1)}, 2}, {[]impl.Note{note(24, 0, 99), note(96, 99, 1)}, 1},
	}
	for _, x := range tests {
		if got, ok := impl.MostVoices(x.l); got != x.want || !ok {
			t.Error(x.l, got, ok)
		}
	}
}

// partTest is a part of a score and what it is for a number of voices.
type partTest struct {
	in     impl.Instrument
	l      []impl.Note
	voices int
	kept   []int
	want   bool
}

func partTests() []partTest {
	two, three, one := twoSteps(), thinnedNotes(), instrument(3, 60)
	high := []impl.Note{note(59, 0, 1), note(60, 0, 9), note(61, 1, 1), note(62, 3, 2)}
	nested := []impl.Note{note(60, 0, 9), note(62, 2, 2), note(64, 4, 2)}
	all := []partTest{
		{two, three, 2, []int{0, 1}, true}, {two, three, 2, []int{0, 2}, true}, {two, three, 2, []int{1, 2}, true}, {two, three, 2, []int{0, 1, 2}, false}, {two, three, 3, []int{0, 1, 2}, true}, {two, three, 20, []int{0, 1, 2}, true}, {two, three, 1, []int{0, 1}, false}, {two, three, 1, []int{1, 2}, false}, {two, three, 1, []int{0}, true}, {two, three, 1, []int{2}, true}, {two, three, 1, nil, true}, {two, three, 1, []int{}, true}, {two, three, 20, nil, true},
		{two, nil, 1, nil, true}, {two, []impl.Note{}, 20, []int{}, true},
		// The instrument has not all pitches: what matters is those of the kept notes.
		{two, high, 1, []int{1}, true}, {two, high, 2, []int{1, 3}, true}, {two, high, 1, []int{1, 3}, false}, {two, high, 20, []int{0}, false}, {two, high, 20, []int{2}, false}, {two, high, 20, []int{0, 1, 3}, false}, {two, high, 20, []int{1, 2, 3}, false}, {two, high, 20, []int{0, 2}, false}, {two, high, 20, nil, true}, {two, oneNote(24), 20, []int{0}, false}, {instrument(2, 24), oneNote(24), 1, []int{0}, true},
		// The starts differ by the repeat time and by one step less; between the two lies a note that is kept or not.
		{one, scoreAt(0, 2), 20, []int{0, 1}, false}, {one, scoreAt(0, 3), 1, []int{0, 1}, true}, {one, scoreAt(0, 2), 1, []int{0}, true}, {one, scoreAt(0, 2), 1, []int{1}, true}, {one, scoreAt(0, 2, 4), 1, []int{0, 2}, true}, {one, scoreAt(0, 2, 4), 1, []int{0, 1, 2}, false}, {one, scoreAt(0, 1, 2), 1, []int{0, 2}, false}, {one, scoreAt(0, 1, 3), 1, []int{0, 2}, true}, {one, scoreAt(0, 1, 4), 1, []int{1, 2}, true}, {one, scoreAt(0, 1, 4), 1, []int{0, 1}, false}, {one, scoreAt(5, 8, 10), 1, []int{0, 1}, true}, {one, scoreAt(5, 8, 10), 1, []int{1, 2}, false}, {one, scoreAt(5, 8, 10), 1, []int{0, 2}, true},
		{instrument(1, 60), scoreAt(0, 1, 2, 3), 1, allIndices(4), true}, {instrument(20, 60), scoreAt(0, 20, 40), 1, allIndices(3), true}, {instrument(20, 60), scoreAt(0, 20, 39), 1, allIndices(3), false}, {instrument(20, 60), scoreAt(0, 19), 1, allIndices(2), false}, {instrument(20, 60), lengthsAt(0, 19, 19, 99), 1, allIndices(2), false}, {instrument(20, 60), lengthsAt(0, 20, 20, 99), 1, allIndices(2), true},
		{instrument(3, 60, 62), []impl.Note{note(60, 0, 1), note(62, 1, 1), note(60, 2, 1)}, 1, []int{0, 1}, true}, {instrument(3, 60, 62), []impl.Note{note(60, 0, 1), note(62, 1, 1), note(60, 2, 1)}, 1, []int{1, 2}, true}, {instrument(3, 60, 62), []impl.Note{note(60, 0, 1), note(62, 1, 1), note(60, 2, 1)}, 1, []int{0, 1, 2}, false}, {instrument(3, 60, 62), []impl.Note{note(60, 0, 1), note(62, 1, 1), note(60, 2, 1)}, 1, []int{0, 2}, false},
		// They end where another one starts, and lie within another one; a note that is not kept takes no voice.
		{two, []impl.Note{note(60, 0, 4), note(62, 4, 2)}, 1, []int{0, 1}, true}, {two, []impl.Note{note(60, 0, 5), note(62, 4, 2)}, 1, []int{0, 1}, false}, {two, []impl.Note{note(60, 0, 4), note(62, 3, 1), note(64, 4, 2)}, 1, []int{0, 2}, true}, {two, nested, 1, []int{0, 1}, false}, {two, nested, 1, []int{1, 2}, true}, {two, nested, 2, allIndices(3), true}, {two, nested, 1, []int{0, 2}, false},
		{instrument(1, 60), row(12), 1, allIndices(12), true}, {instrument(2, 60), row(12), 1, allIndices(12), true}, {instrument(3, 60), row(12), 20, allIndices(12), false}, {instrument(3, 60), row(12), 1, []int{0, 2, 4, 6, 8, 10}, true}, {instrument(3, 60), row(12), 1, []int{1, 3, 5, 7, 9, 11}, true}, {instrument(3, 60), row(12), 1, []int{1, 3, 5, 7, 9, 10, 11}, false},
	}
	twelve := instrument(1, pitchesFrom(40, 20)...)
	return append(all, partTest{twelve, chord(12), 12, allIndices(12), true}, partTest{twelve, chord(12), 11, allIndices(12), false}, partTest{twelve, chord(12), 11, allIndices(12)[1:], true}, partTest{twelve, chord(12), 10, allIndices(12)[1:], false}, partTest{twelve, chord(12), 20, allIndices(12), true}, partTest{twelve, chord(12), 1, []int{11}, true}, partTest{twelve, chord(12), 1, []int{0, 11}, false})
}

func TestIsThinned(t *testing.T) {
	for _, x := range partTests() {
		if got, ok := impl.IsThinned(x.in, x.l, x.voices, x.kept); got != x.want || !ok {
			t.Error(x.in, x.l, x.voices, x.kept, got, ok)
		}
		for _, kept := range badParts(len(x.l)) {
			if got, ok := impl.IsThinned(x.in, x.l, x.voices, kept); got || ok {
				t.Error("no part", x.in, x.l, x.voices, kept, got, ok)
			}
		}
		for _, voices := range badVoices() {
			if got, ok := impl.IsThinned(x.in, x.l, voices, x.kept); got || ok {
				t.Error("no voices", x.in, x.l, voices, x.kept, got, ok)
			}
		}
	}
}

func TestThinLoss(t *testing.T) {
	lengths := []impl.Note{note(60, 0, 1), note(61, 0, 10), note(62, 5, 99), note(24, 999, 50)}
	tests := []struct {
		l    []impl.Note
		kept []int
		want int
	}{
		{thinnedNotes(), []int{0, 1}, 3}, {thinnedNotes(), []int{0, 2}, 2}, {thinnedNotes(), []int{1, 2}, 4}, {thinnedNotes(), nil, 9}, {thinnedNotes(), []int{}, 9}, {thinnedNotes(), []int{0, 1, 2}, 0}, {thinnedNotes(), []int{1}, 7},
		{nil, nil, 0}, {[]impl.Note{}, []int{}, 0}, {oneNote(60), nil, 1}, {oneNote(60), []int{0}, 0}, {lengths, nil, 160}, {lengths, []int{0}, 159}, {lengths, []int{1}, 150}, {lengths, []int{2}, 61}, {lengths, []int{3}, 110}, {lengths, []int{0, 3}, 109}, {lengths, []int{0, 1, 2, 3}, 0},
		// No instrument is asked, and no number of voices.
		{scoreAt(0, 1, 2), []int{0, 1}, 1}, {row(12), allIndices(12), 0}, {row(12), nil, 24}, {row(12), []int{0, 11}, 20}, {row(12), []int{11}, 22}, {chord(12), []int{5}, 33}, {lengthsAt(0, 99, 99, 99, 198, 99, 297, 99, 396, 99, 495, 99, 594, 99, 693, 99, 792, 99, 891, 99, 990, 9, 999, 99), nil, 1098},
	}
	for _, x := range tests {
		if got, ok := impl.ThinLoss(x.l, x.kept); got != x.want || !ok {
			t.Error(x.l, x.kept, got, ok)
		}
		for _, kept := range badParts(len(x.l)) {
			if got, ok := impl.ThinLoss(x.l, kept); got != 0 || ok {
				t.Error("no part", x.l, kept, got, ok)
			}
		}
	}
}

// thinTest is a score and what remains of it: the part with the least loss, this loss, the greedy part, a bound of losses and what all parts with the least loss keep.
type thinTest struct {
	name   string
	in     impl.Instrument
	l      []impl.Note
	voices int
	least  []int
	loss   int
	greedy []int
	bound  int
	always []int
}

func thinTests() []thinTest {
	two, three, one := twoSteps(), thinnedNotes(), instrument(3, 60)
	twelve := instrument(1, pitchesFrom(40, 20)...)
	return append(repeatTests(), []thinTest{
		{"no notes", two, nil, 1, nil, 0, nil, 0, nil},
		{"empty", two, []impl.Note{}, 20, nil, 0, nil, 0, nil},
		{"two of three voices", two, three, 2, []int{0, 2}, 2, []int{0, 1}, 0, []int{0, 2}},
		{"one of three voices", two, three, 1, []int{0}, 5, []int{0}, 0, []int{0}},
		{"three of three voices", two, three, 3, []int{0, 1, 2}, 0, []int{0, 1, 2}, 0, []int{0, 1, 2}},
		{"twenty voices", two, three, 20, []int{0, 1, 2}, 0, []int{0, 1, 2}, 0, []int{0, 1, 2}},
		{"one note", one, oneNote(60), 1, []int{0}, 0, []int{0}, 0, []int{0}},
		{"a missing pitch", one, oneNote(61), 20, nil, 1, nil, 1, nil},
		{"missing pitches", two, []impl.Note{note(59, 0, 9), note(60, 0, 1), note(61, 1, 5), note(63, 2, 3)}, 1, []int{1}, 17, []int{1}, 17, []int{1}},
		{"all pitches missing", instrument(1, 96), row(12), 20, nil, 24, nil, 24, nil},
		{"missing pitches take no voice", two, []impl.Note{note(59, 0, 9), note(60, 0, 4), note(61, 0, 5), note(62, 4, 3)}, 1, []int{1, 3}, 14, []int{1, 3}, 14, []int{1, 3}},
		{"one ends where the next one starts", two, []impl.Note{note(60, 0, 4), note(62, 4, 2), note(64, 6, 1)}, 1, []int{0, 1, 2}, 0, []int{0, 1, 2}, 0, []int{0, 1, 2}},
		{"one ends a step too late", two, []impl.Note{note(60, 0, 5), note(62, 4, 2), note(64, 6, 1)}, 1, []int{0, 2}, 2, []int{0, 2}, 0, []int{0, 2}},
		{"a longer one starts in the last step", two, []impl.Note{note(60, 0, 2), note(62, 1, 9)}, 1, []int{1}, 2, []int{0}, 0, []int{1}},
		{"within another one", two, []impl.Note{note(60, 0, 9), note(62, 2, 2), note(64, 4, 2)}, 1, []int{0}, 4, []int{0}, 0, []int{0}},
		{"within another one, but longer", two, []impl.Note{note(60, 0, 9), note(62, 2, 5), note(64, 7, 5)}, 1, []int{1, 2}, 9, []int{0}, 0, []int{1, 2}},
		{"within another one, two voices", two, []impl.Note{note(60, 0, 9), note(62, 2, 2), note(64, 4, 2)}, 2, []int{0, 1, 2}, 0, []int{0, 1, 2}, 0, []int{0, 1, 2}},
		// Several parts have the least loss: the list that is less decides, also where it is longer or shorter.
		{"equal chords, one voice", twelve, chord(12), 1, []int{0}, 33, []int{0}, 0, nil},
		{"equal chords, half of the voices", twelve, chord(12), 6, allIndices(6), 18, allIndices(6), 0, nil},
		{"equal chords, one voice less", twelve, chord(12), 11, allIndices(11), 3, allIndices(11), 0, nil},
		{"equal chords, all voices", twelve, chord(12), 12, allIndices(12), 0, allIndices(12), 0, allIndices(12)},
		{"the long one or the two short ones", two, []impl.Note{note(60, 0, 4), note(62, 0, 2), note(64, 2, 2)}, 1, []int{0}, 4, []int{0}, 0, nil},
		{"the two short ones or the long one", two, []impl.Note{note(60, 0, 2), note(62, 0, 4), note(64, 2, 2)}, 1, []int{0, 2}, 4, []int{0, 2}, 0, nil},
		{"the first one and one of two", two, []impl.Note{note(60, 0, 2), note(62, 2, 3), note(64, 2, 3)}, 1, []int{0, 1}, 3, []int{0, 1}, 0, []int{0}},
		{"one of two and the last one", two, []impl.Note{note(60, 0, 2), note(62, 0, 2), note(64, 2, 3)}, 1, []int{0, 2}, 2, []int{0, 2}, 0, []int{2}},
		{"the first part is not the greedy one", two, []impl.Note{note(60, 0, 5), note(62, 1, 3), note(62, 4, 3), note(64, 4, 3)}, 1, []int{1, 2}, 8, []int{0}, 0, []int{1}},
		{"the greedy part is as good", two, []impl.Note{note(60, 0, 5), note(62, 1, 3), note(64, 4, 2)}, 1, []int{0}, 5, []int{0}, 0, nil},
	}...)
}

// repeatTests are scores with notes of one pitch that are too near to each other, or just not.
func repeatTests() []thinTest {
	one, twenty := instrument(3, 60), instrument(20, 60)
	alternating := []impl.Note{note(60, 0, 1), note(62, 0, 2), note(60, 1, 2), note(62, 2, 2), note(60, 3, 1), note(62, 4, 1)}
	return []thinTest{
		{"just the repeat time", one, scoreAt(0, 3), 1, []int{0, 1}, 0, []int{0, 1}, 0, []int{0, 1}},
		{"a step less", one, scoreAt(0, 2), 1, []int{0}, 1, []int{0}, 1, nil},
		{"a step less, the second one longer", one, lengthsAt(0, 2, 2, 5), 1, []int{1}, 2, []int{0}, 2, []int{1}},
		{"a step less, the first one longer", instrument(6, 60), lengthsAt(0, 5, 5, 2), 1, []int{0}, 2, []int{0}, 2, []int{0}},
		{"each too soon, the middle one out", one, scoreAt(0, 2, 4), 1, []int{0, 2}, 1, []int{0, 2}, 1, []int{0, 2}},
		{"each too soon, all too near", one, scoreAt(0, 1, 2), 1, []int{0}, 2, []int{0}, 1, nil},
		{"each too soon, the middle one longer", instrument(6, 60), lengthsAt(0, 1, 1, 5, 6, 1), 1, []int{1}, 2, []int{0, 2}, 1, []int{1}},
		{"each too soon, the last one longest", one, lengthsAt(0, 1, 1, 1, 2, 9), 1, []int{2}, 2, []int{0}, 1, []int{2}},
		{"four, each too soon", one, lengthsAt(0, 2, 2, 2, 4, 2, 6, 2), 1, []int{0, 2}, 4, []int{0, 2}, 4, nil},
		{"four, the second pair counts", one, lengthsAt(0, 2, 2, 1, 3, 2, 5, 4), 1, []int{0, 3}, 3, []int{0, 2}, 3, []int{0, 3}},
		{"two pairs apart", one, lengthsAt(0, 1, 2, 2, 50, 2, 52, 1), 1, []int{1, 2}, 2, []int{0, 2}, 2, []int{1, 2}},
		{"a pair and one apart", one, lengthsAt(0, 1, 2, 1, 5, 1), 1, []int{0, 2}, 1, []int{0, 2}, 1, []int{2}},
		{"the least repeat time", instrument(1, 60), scoreAt(allIndices(12)...), 1, allIndices(12), 0, allIndices(12), 0, allIndices(12)},
		{"the greatest repeat time", twenty, scoreAt(0, 20, 40), 1, []int{0, 1, 2}, 0, []int{0, 1, 2}, 0, []int{0, 1, 2}},
		{"the greatest repeat time, less", twenty, scoreAt(0, 19, 39), 1, []int{0, 2}, 1, []int{0, 2}, 1, []int{2}},
		{"the greatest repeat time, twelve", twenty, scoreAt(allIndices(12)...), 20, []int{0}, 11, []int{0}, 6, nil},
		{"twelve repeats", one, row(12), 20, []int{0, 2, 4, 6, 8, 10}, 12, []int{0, 2, 4, 6, 8, 10}, 12, nil},
		{"a missing pitch repeats", instrument(3, 61), lengthsAt(0, 1, 1, 2, 3, 4), 1, nil, 7, nil, 7, nil},
		{"a missing pitch repeats too", instrument(3, 62), alternating, 20, []int{1, 5}, 6, []int{1, 5}, 6, []int{1, 5}},
		{"two pitches repeat", instrument(3, 60, 62), alternating, 20, []int{0, 1, 4, 5}, 4, []int{0, 1, 4, 5}, 3, []int{1, 5}},
		{"two pitches repeat, one voice", instrument(3, 60, 62), alternating, 1, []int{1, 4, 5}, 5, []int{0, 3}, 3, []int{1, 4, 5}},
	}
}

func TestThinned(t *testing.T) {
	for _, x := range thinTests() {
		if got, loss, ok := impl.LeastLoss(x.in, x.l, x.voices); !ok || loss != x.loss || !slices.Equal(got, x.least) {
			t.Error("least", x.name, got, loss, ok)
		}
		if got, ok := impl.GreedyPart(x.in, x.l, x.voices); !ok || !slices.Equal(got, x.greedy) {
			t.Error("greedy", x.name, got, ok)
		}
		if got, ok := impl.LossBound(x.in, x.l, x.voices); got != x.bound || !ok {
			t.Error("bound", x.name, got, ok)
		}
		if got, ok := impl.AlwaysKept(x.in, x.l, x.voices); !ok || !slices.Equal(got, x.always) {
			t.Error("always", x.name, got, ok)
		}
		for _, voices := range badVoices() {
			checkNoThinned(t, x.name, x.in, x.l, voices)
		}
	}
}

// TestLossBoundVoices checks that a bound does not depend on the number of voices.
func TestLossBoundVoices(t *testing.T) {
	for _, x := range thinTests() {
		for voices := 1; voices <= 20; voices++ {
			if got, ok := impl.LossBound(x.in, x.l, voices); got != x.bound || !ok {
				t.Error(x.name, voices, got, ok)
			}
		}
	}
}

func TestVoicesFor(t *testing.T) {
	two, three, one, twelve := twoSteps(), thinnedNotes(), instrument(3, 60), instrument(1, pitchesFrom(40, 20)...)
	missing := []impl.Note{note(60, 0, 4), note(61, 0, 5), note(62, 1, 2)}
	longest := []impl.Note{note(40, 0, 99), note(41, 0, 99), note(42, 0, 99)}
	tests := []struct {
		in   impl.Instrument
		l    []impl.Note
		loss int
		want int
		ok   bool
	}{
		{two, three, 2, 2, true}, {two, three, 0, 3, true}, {two, three, 1, 3, true}, {two, three, 3, 2, true}, {two, three, 4, 2, true}, {two, three, 5, 1, true}, {two, three, 6, 1, true}, {two, three, 9, 1, true}, {two, three, 2000, 1, true},
		{two, nil, 0, 1, true}, {two, nil, 2000, 1, true}, {two, []impl.Note{}, 0, 1, true}, {two, oneNote(60), 0, 1, true}, {two, row(12), 0, 1, true}, {two, row(12), 2000, 1, true},
		// No number of voices brings a missing pitch back, or a repeat that is too fast.
		{two, missing, 4, 0, false}, {two, missing, 5, 2, true}, {two, missing, 6, 2, true}, {two, missing, 7, 1, true}, {two, missing, 0, 0, false}, {two, oneNote(61), 0, 0, false}, {two, oneNote(61), 1, 1, true}, {one, scoreAt(0, 2), 0, 0, false}, {one, scoreAt(0, 2), 1, 1, true}, {one, row(12), 11, 0, false}, {one, row(12), 12, 1, true}, {instrument(20, 60), scoreAt(allIndices(12)...), 10, 0, false}, {instrument(20, 60), scoreAt(allIndices(12)...), 11, 1, true},
		{twelve, chord(12), 0, 12, true}, {twelve, chord(12), 2, 12, true}, {twelve, chord(12), 3, 11, true}, {twelve, chord(12), 18, 6, true}, {twelve, chord(12), 17, 7, true}, {twelve, chord(12), 32, 2, true}, {twelve, chord(12), 33, 1, true}, {twelve, chord(12), 36, 1, true}, {twelve, chord(12), 2000, 1, true}, {twelve, longest, 197, 2, true}, {twelve, longest, 198, 1, true}, {twelve, longest, 98, 3, true}, {twelve, longest, 99, 2, true},
	}
	for _, x := range tests {
		if got, ok := impl.VoicesFor(x.in, x.l, x.loss); got != x.want || ok != x.ok {
			t.Error(x.in, x.l, x.loss, got, ok)
		}
		for _, loss := range badLosses() {
			got, ok := impl.VoicesFor(x.in, x.l, loss)
			checkNone(t, "VoicesFor", got, ok)
		}
	}
}

// badLosses are numbers that are no losses in 0..2000.
func badLosses() []int {
	return append([]int{-2000, -2, -1, 2001, 2002, 5000}, extremes...)
}

func TestKeptScore(t *testing.T) {
	three := thinnedNotes()
	tests := []struct {
		l    []impl.Note
		kept []int
		want []impl.Note
	}{
		{three, nil, nil}, {three, []int{}, nil}, {three, []int{0, 1, 2}, three}, {three, []int{0, 2}, []impl.Note{three[0], three[2]}}, {three, []int{1}, three[1:2]}, {three, []int{2}, three[2:]}, {three, []int{1, 2}, three[1:]},
		{nil, nil, nil}, {[]impl.Note{}, []int{}, nil}, {oneNote(24), []int{0}, oneNote(24)}, {row(12), allIndices(12), row(12)}, {row(12), allIndices(11), row(11)}, {row(12), []int{0, 11}, []impl.Note{note(60, 0, 2), note(60, 22, 2)}}, {chord(12), allIndices(12)[3:], chord(12)[3:]}, {scoreAt(0, 1, 2, 5), []int{1, 3}, scoreAt(1, 5)},
	}
	for _, x := range tests {
		if got, ok := impl.KeptScore(x.l, x.kept); !ok || !slices.Equal(got, x.want) {
			t.Error(x.l, x.kept, got, ok)
		}
		for _, kept := range badParts(len(x.l)) {
			if got, ok := impl.KeptScore(x.l, kept); got != nil || ok {
				t.Error("no part", x.l, kept, got, ok)
			}
		}
	}
}

// joinTest is a score and what it is with joined repeats, if they are not too long.
type joinTest struct {
	in   impl.Instrument
	l    []impl.Note
	want []impl.Note
	ok   bool
}

func joinTests() []joinTest {
	two, three, twenty := twoSteps(), instrument(3, 60, 62, 64), instrument(20, 60)
	return []joinTest{
		{two, nil, nil, true}, {two, []impl.Note{}, nil, true}, {two, thinnedNotes(), thinnedNotes(), true}, {two, scoreAt(0, 1), lengthsAt(0, 2), true}, {two, lengthsAt(0, 1, 1, 2), lengthsAt(0, 3), true}, {three, lengthsAt(0, 1, 2, 2), lengthsAt(0, 4), true}, {three, lengthsAt(5, 2, 7, 4), lengthsAt(5, 6), true},
		// The starts differ by the repeat time, and by one step less.
		{three, scoreAt(0, 3), scoreAt(0, 3), true}, {three, scoreAt(0, 2), lengthsAt(0, 3), true}, {twenty, scoreAt(0, 20), scoreAt(0, 20), true}, {twenty, scoreAt(0, 19), lengthsAt(0, 20), true}, {twenty, lengthsAt(0, 19, 19, 19), lengthsAt(0, 38), true}, {twenty, lengthsAt(0, 20, 20, 19), lengthsAt(0, 20, 20, 19), true}, {instrument(1, 60), scoreAt(allIndices(12)...), scoreAt(allIndices(12)...), true}, {twenty, scoreAt(allIndices(12)...), lengthsAt(0, 12), true}, {twenty, scoreAt(pitchesFrom(988, 12)...), lengthsAt(988, 12), true},
		// They follow each other: what counts is the start of the note that is there.
		{two, scoreAt(0, 1, 2), lengthsAt(0, 2, 2, 1), true}, {two, scoreAt(0, 1, 2, 3), lengthsAt(0, 2, 2, 2), true}, {two, scoreAt(0, 1, 2, 3, 4), lengthsAt(0, 2, 2, 2, 4, 1), true}, {three, scoreAt(0, 1, 2), lengthsAt(0, 3), true}, {three, scoreAt(0, 1, 2, 3), lengthsAt(0, 3, 3, 1), true}, {three, scoreAt(0, 2, 4), lengthsAt(0, 3, 4, 1), true}, {three, scoreAt(0, 2, 4, 6), lengthsAt(0, 3, 4, 3), true}, {three, row(12), lengthsAt(0, 4, 4, 4, 8, 4, 12, 4, 16, 4, 20, 4), true}, {three, scoreAt(0, 3, 5), lengthsAt(0, 1, 3, 3), true}, {three, scoreAt(0, 2, 5), lengthsAt(0, 3, 5, 1), true},
		// A note becomes just as long as it may, or a step longer, the first one or a later one.
		{twenty, lengthsAt(0, 1, 1, 98), lengthsAt(0, 99), true}, {twenty, lengthsAt(0, 1, 2, 98), nil, false}, {twenty, lengthsAt(0, 19, 19, 80), lengthsAt(0, 99), true}, {twenty, lengthsAt(0, 19, 19, 81), nil, false}, {two, lengthsAt(0, 1, 1, 99), nil, false}, {twenty, lengthsAt(980, 1, 999, 80), lengthsAt(980, 99), true}, {twenty, lengthsAt(980, 1, 999, 81), nil, false}, {twenty, lengthsAt(0, 1, 10, 1, 19, 80), lengthsAt(0, 99), true}, {twenty, lengthsAt(0, 1, 10, 1, 19, 81), nil, false}, {twenty, lengthsAt(0, 1, 19, 1, 50, 1, 51, 98), lengthsAt(0, 20, 50, 99), true}, {twenty, lengthsAt(0, 1, 19, 1, 50, 1, 51, 99), nil, false}, {twenty, lengthsAt(0, 1, 1, 99, 100, 1), nil, false}, {twenty, lengthsAt(0, 99, 99, 99), lengthsAt(0, 99, 99, 99), true},
		// Notes of other pitches lie between and overlap; they stay, and are joined for themselves.
		{two, []impl.Note{note(60, 0, 1), note(62, 0, 9), note(60, 1, 3)}, []impl.Note{note(60, 0, 4), note(62, 0, 9)}, true}, {three, []impl.Note{note(60, 0, 1), note(62, 1, 2), note(64, 1, 1), note(60, 2, 3), note(62, 4, 1)}, []impl.Note{note(60, 0, 5), note(62, 1, 2), note(64, 1, 1), note(62, 4, 1)}, true}, {three, []impl.Note{note(60, 0, 1), note(62, 0, 2), note(60, 1, 2), note(62, 2, 2), note(60, 3, 1), note(62, 4, 1)}, []impl.Note{note(60, 0, 3), note(62, 0, 4), note(60, 3, 1), note(62, 4, 1)}, true},
		{three, []impl.Note{note(62, 0, 1), note(60, 1, 1), note(62, 2, 1), note(60, 3, 1)}, []impl.Note{note(62, 0, 3), note(60, 1, 3)}, true}, {three, []impl.Note{note(62, 0, 1), note(60, 1, 1), note(62, 3, 1), note(60, 4, 1)}, []impl.Note{note(62, 0, 1), note(60, 1, 1), note(62, 3, 1), note(60, 4, 1)}, true},
		// Repeats of a pitch that the instrument has not stay, and may be as long as any.
		{instrument(3, 62), scoreAt(0, 1, 2), scoreAt(0, 1, 2), true}, {instrument(20, 62), lengthsAt(0, 1, 1, 99), lengthsAt(0, 1, 1, 99), true}, {instrument(3, 62), []impl.Note{note(60, 0, 1), note(62, 0, 1), note(60, 1, 1), note(62, 1, 1)}, []impl.Note{note(60, 0, 1), note(62, 0, 2), note(60, 1, 1)}, true}, {instrument(20, 24), row(12), row(12), true},
	}
}

func TestJoinRepeats(t *testing.T) {
	for _, x := range joinTests() {
		if got, ok := impl.JoinRepeats(x.in, x.l); ok != x.ok || !slices.Equal(got, x.want) || !ok && got != nil {
			t.Error(x.in, x.l, got, ok)
		}
	}
}

// checkNoThinned calls all functions of the chapter that have a number of voices, with an instrument, a score or such a number that is not valid.
func checkNoThinned(t *testing.T, name string, in impl.Instrument, l []impl.Note, voices int) {
	t.Helper()
	for _, kept := range [][]int{nil, {0}, {0, 1}} {
		if is, ok := impl.IsThinned(in, l, voices, kept); is || ok {
			t.Error("IsThinned", name, voices, kept, is, ok)
		}
	}
	if part, loss, ok := impl.LeastLoss(in, l, voices); part != nil || loss != 0 || ok {
		t.Error("LeastLoss", name, voices, part, loss, ok)
	}
	if part, ok := impl.GreedyPart(in, l, voices); part != nil || ok {
		t.Error("GreedyPart", name, voices, part, ok)
	}
	if kept, ok := impl.AlwaysKept(in, l, voices); kept != nil || ok {
		t.Error("AlwaysKept", name, voices, kept, ok)
	}
	bound, ok := impl.LossBound(in, l, voices)
	checkNone(t, "LossBound, "+name, bound, ok)
}

// checkNoThinnedScore calls all functions of the chapter that have an instrument, which or the score of which is not valid.
func checkNoThinnedScore(t *testing.T, name string, in impl.Instrument, l []impl.Note) {
	t.Helper()
	for _, voices := range []int{0, 1, 20, 21} {
		checkNoThinned(t, name, in, l, voices)
	}
	for _, loss := range []int{-1, 0, 2000, 2001} {
		voices, ok := impl.VoicesFor(in, l, loss)
		checkNone(t, "VoicesFor, "+name, voices, ok)
	}
	if joined, ok := impl.JoinRepeats(in, l); joined != nil || ok {
		t.Error("JoinRepeats", name, joined, ok)
	}
}

func TestWhatThinsRefusesOthers(t *testing.T) {
	for name, in := range badInstruments() {
		for _, l := range [][]impl.Note{nil, oneNote(60), thinnedNotes(), scoreAt(0, 1, 2), row(12), row(13)} {
			checkNoThinnedScore(t, name, in, l)
		}
	}
	for name, l := range noThinScores() {
		checkNoThinnedScore(t, name, twoSteps(), l)
		checkNoThinnedScore(t, name, instrument(20, pitchesFrom(40, 20)...), l)
		most, ok := impl.MostVoices(l)
		checkNone(t, "MostVoices, "+name, most, ok)
		for _, kept := range [][]int{nil, {}, {0}, {0, 1}, allIndices(12), allIndices(13), {-1}} {
			loss, ok := impl.ThinLoss(l, kept)
			checkNone(t, "ThinLoss, "+name, loss, ok)
			if score, ok := impl.KeptScore(l, kept); score != nil || ok {
				t.Error("KeptScore", name, kept, score, ok)
			}
		}
	}
}
