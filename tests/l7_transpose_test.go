package tests

import (
	"slices"
	"testing"

	"loop.example/g00949/impl"
)

// threePitches is the instrument of the document's example.
func threePitches() impl.Instrument { return instrument(1, 60, 62, 64) }

// exampleNotes is the score of the document's example.
func exampleNotes() []impl.Note { return []impl.Note{note(62, 0, 1), note(64, 1, 1)} }

// oneNote is a score with one note.
func oneNote(pitch int) []impl.Note { return []impl.Note{note(pitch, 0, 1)} }

// allTranspositions are the numbers in -24..24.
func allTranspositions() []int { return pitchesFrom(-24, 49) }

// beyondTranspositions are numbers that are none.
func beyondTranspositions() []int {
	return append([]int{-1000, -96, -72, -60, -36, -26, -25, 25, 26, 36, 60, 72, 96, 1000}, extremes...)
}

func TestTransposeLoss(t *testing.T) {
	three, example, ends := threePitches(), exampleNotes(), instrument(1, 24, 96)
	bothEnds := []impl.Note{note(24, 0, 1), note(96, 0, 1)}
	tests := []struct {
		in   impl.Instrument
		l    []impl.Note
		by   int
		want int
	}{
		{three, example, -1, 2}, {three, example, -2, 0}, {three, example, 0, 0}, {three, example, 1, 2}, {three, example, 2, 1}, {three, example, -4, 1},
		{three, example, -3, 2}, {three, example, -24, 2}, {three, example, 24, 2}, {three, example, 3, 2},
		{three, nil, -24, 0}, {three, nil, 0, 0}, {three, nil, 24, 0}, {three, []impl.Note{}, 7, 0},
		{instrument(1, 36), oneNote(60), -24, 0}, {instrument(1, 36), oneNote(60), -23, 1}, {instrument(1, 36), oneNote(60), 24, 1}, {instrument(1, 36), oneNote(60), 0, 1},
		{instrument(1, 84), oneNote(60), 24, 0}, {instrument(1, 84), oneNote(60), 23, 1}, {instrument(1, 84), oneNote(60), -24, 1}, {instrument(1, 60), oneNote(60), 0, 0},
		// A note is not lost only because another one of its pitch is near, or has its pitch and step then.
		{instrument(20, 60), row(30), 0, 0}, {instrument(20, 60), row(30), 1, 30}, {instrument(20, 61), row(30), 1, 0}, {instrument(20, 61), row(30), 0, 30},
		{instrument(1, pitchesFrom(40, 20)...), chord(30), 0, 10}, {instrument(1, pitchesFrom(40, 20)...), chord(30), -10, 10}, {instrument(1, pitchesFrom(40, 20)...), chord(30), -24, 24}, {instrument(1, pitchesFrom(40, 20)...), chord(30), 19, 29},
		{ends, bothEnds, 0, 0}, {ends, bothEnds, 1, 2}, {ends, bothEnds, -1, 2}, {ends, bothEnds, 24, 2}, {ends, bothEnds, -24, 2},
		{instrument(1, 48, 72), bothEnds, 24, 1}, {instrument(1, 48, 72), bothEnds, -24, 1}, {instrument(1, pitchesFrom(77, 20)...), bothEnds, -19, 1}, {instrument(1, pitchesFrom(77, 20)...), bothEnds, -20, 2}, {instrument(1, pitchesFrom(77, 20)...), bothEnds, 1, 2},
		// A fold does not save a note.
		{three, oneNote(74), 0, 1}, {three, oneNote(72), 0, 1}, {three, oneNote(72), -12, 0},
	}
	for _, x := range tests {
		if got, ok := impl.TransposeLoss(x.in, x.l, x.by); got != x.want || !ok {
			t.Error(x.in, x.l, x.by, got, ok)
		}
		for _, by := range beyondTranspositions() {
			if got, ok := impl.TransposeLoss(x.in, x.l, by); got != 0 || ok {
				t.Error(x.in, x.l, by, got, ok)
			}
		}
	}
}

// tableWith is a table of losses that are n but for those of some transpositions, given by them and their losses.
func tableWith(n int, pairs ...int) []int {
	table := slices.Repeat([]int{n}, 49)
	for i := 0; i < len(pairs); i += 2 {
		table[pairs[i]+24] = pairs[i+1]
	}
	return table
}

func TestLossTable(t *testing.T) {
	tests := []struct {
		in   impl.Instrument
		l    []impl.Note
		want []int
	}{
		{threePitches(), exampleNotes(), tableWith(2, -4, 1, -2, 0, 0, 0, 2, 1)}, {threePitches(), nil, tableWith(0)}, {threePitches(), []impl.Note{}, tableWith(0)},
		{instrument(1, 36), oneNote(60), tableWith(1, -24, 0)}, {instrument(1, 84), oneNote(60), tableWith(1, 24, 0)}, {instrument(1, 36, 84), oneNote(60), tableWith(1, -24, 0, 24, 0)},
		{instrument(1, 35, 85), oneNote(60), tableWith(1)}, {instrument(1, 24), oneNote(96), tableWith(1)}, {instrument(1, 96), oneNote(24), tableWith(1)},
		{instrument(1, 24, 96), []impl.Note{note(24, 0, 1), note(96, 0, 1)}, tableWith(2, 0, 0)}, {instrument(20, 61), row(30), tableWith(30, 1, 0)},
		{instrument(1, 60), []impl.Note{note(48, 0, 1), note(60, 0, 1), note(61, 0, 1), note(60, 1, 1)}, tableWith(4, -1, 3, 0, 2, 12, 3)},
	}
	for _, x := range tests {
		if got, ok := impl.LossTable(x.in, x.l); !ok || !slices.Equal(got, x.want) {
			t.Error(x.in, x.l, got, ok)
		}
	}
}

// bestTest is a score, its best transposition for an instrument, and the loss.
type bestTest struct {
	in   impl.Instrument
	l    []impl.Note
	by   int
	loss int
}

func checkBestTests(t *testing.T, best func(impl.Instrument, []impl.Note) (int, int, bool), tests []bestTest) {
	t.Helper()
	for _, x := range tests {
		if by, loss, ok := best(x.in, x.l); by != x.by || loss != x.loss || !ok {
			t.Error(x.in, x.l, by, loss, ok)
		}
	}
}

func TestBestTransposition(t *testing.T) {
	three, twenty := threePitches(), instrument(1, pitchesFrom(40, 20)...)
	checkBestTests(t, impl.BestTransposition, []bestTest{
		{three, exampleNotes(), 0, 0}, {three, exampleNotes()[1:], 0, 0}, {three, nil, 0, 0}, {three, []impl.Note{}, 0, 0}, {twenty, nil, 0, 0},
		{instrument(1, 58, 62), oneNote(60), -2, 0}, {instrument(1, 57, 62), oneNote(60), 2, 0}, {instrument(1, 58, 63), oneNote(60), -2, 0}, {instrument(1, 59, 61), oneNote(60), -1, 0},
		{instrument(1, 58, 62, 63), oneNote(60), -2, 0}, {instrument(1, 50, 58, 62), oneNote(60), -2, 0}, {instrument(1, 36, 84), oneNote(60), -24, 0}, {instrument(1, 37, 84), oneNote(60), -23, 0}, {instrument(1, 36, 83), oneNote(60), 23, 0},
		{instrument(1, 36), oneNote(60), -24, 0}, {instrument(1, 84), oneNote(60), 24, 0}, {instrument(1, 35), oneNote(60), 0, 1}, {instrument(1, 85), oneNote(60), 0, 1}, {instrument(1, 35, 84), oneNote(60), 24, 0}, {instrument(1, 36, 85), oneNote(60), -24, 0},
		{instrument(1, 24), oneNote(96), 0, 1}, {instrument(1, 96), oneNote(24), 0, 1}, {instrument(1, 24), row(30), 0, 30}, {instrument(1, 24, 96), []impl.Note{note(24, 0, 1), note(96, 0, 1)}, 0, 0},
		// Less losses count more than being near to 0, and equal ones on one side less than the nearest.
		{instrument(1, 60, 64), []impl.Note{note(60, 0, 1), note(63, 0, 1), note(70, 0, 1), note(74, 0, 1)}, -10, 2}, {instrument(1, 60, 70, 74), []impl.Note{note(60, 0, 1), note(64, 0, 1)}, 10, 0}, {instrument(1, 60, 62), []impl.Note{note(64, 0, 1), note(66, 0, 1)}, -4, 0},
		{instrument(1, 50, 52, 70, 72), []impl.Note{note(60, 0, 1), note(62, 0, 1)}, -10, 0}, {instrument(1, 49, 51, 70, 72), []impl.Note{note(60, 0, 1), note(62, 0, 1)}, 10, 0}, {instrument(1, 60, 62), []impl.Note{note(61, 0, 1), note(64, 0, 1)}, -1, 1},
		{twenty, chord(20), 0, 0}, {twenty, chord(30), 0, 10}, {twenty, chord(30)[10:], -10, 0}, {twenty, chord(30)[5:], -5, 5}, {instrument(1, pitchesFrom(45, 20)...), chord(20), 5, 0}, {instrument(1, pitchesFrom(45, 20)...), chord(30), 0, 10},
	})
}

func TestFullTranspositions(t *testing.T) {
	three, twenty := threePitches(), instrument(1, pitchesFrom(40, 20)...)
	tests := []struct {
		in   impl.Instrument
		l    []impl.Note
		want []int
	}{
		{three, exampleNotes(), []int{-2, 0}}, {three, exampleNotes()[:1], []int{-2, 0, 2}}, {three, nil, allTranspositions()}, {three, []impl.Note{}, allTranspositions()},
		{instrument(1, 36, 84), oneNote(60), []int{-24, 24}}, {instrument(1, 35, 85), oneNote(60), nil}, {instrument(1, 35, 60, 85), oneNote(60), []int{0}}, {instrument(1, 36), row(30), []int{-24}}, {instrument(1, 84), row(30), []int{24}},
		{instrument(1, 24), oneNote(96), nil}, {instrument(1, 96), oneNote(24), nil}, {instrument(1, 24, 96), []impl.Note{note(24, 0, 1), note(96, 0, 1)}, []int{0}}, {instrument(1, 24, 25), []impl.Note{note(24, 0, 1), note(96, 0, 1)}, nil},
		{twenty, oneNote(50), pitchesFrom(-10, 20)}, {twenty, oneNote(30), pitchesFrom(10, 15)}, {twenty, oneNote(70), pitchesFrom(-24, 14)}, {twenty, chord(20), []int{0}}, {twenty, chord(19), []int{0, 1}}, {twenty, chord(30), nil}, {twenty, chord(30)[11:], []int{-11, -10}},
		// The last one of thirty notes, and the first one, are looked at too.
		{instrument(1, 60), append(row(29), note(61, 60, 1)), nil}, {instrument(1, 60), append(oneNote(59), row(30)[1:]...), nil},
	}
	for _, x := range tests {
		if got, ok := impl.FullTranspositions(x.in, x.l); !ok || !slices.Equal(got, x.want) {
			t.Error(x.in, x.l, got, ok)
		}
	}
}

// pitchTest is a pitch and that of an instrument to which it leads.
type pitchTest struct {
	in    impl.Instrument
	pitch int
	want  int
	ok    bool
}

func checkPitchTests(t *testing.T, call func(impl.Instrument, int) (int, bool), tests []pitchTest) {
	t.Helper()
	for _, x := range tests {
		if got, ok := call(x.in, x.pitch); got != x.want || ok != x.ok {
			t.Error(x.in, x.pitch, got, ok)
		}
		for _, pitch := range beyondPitches() {
			if got, ok := call(x.in, pitch); got != 0 || ok {
				t.Error(x.in, pitch, got, ok)
			}
		}
	}
}

// beyondPitches are numbers that are no pitches, among them those an octave or two away from one.
func beyondPitches() []int {
	return append([]int{-60, -12, -1, 0, 1, 12, 22, 23, 97, 98, 108, 120, 1000}, extremes...)
}

func TestNearestPitch(t *testing.T) {
	two, three, one, twenty := instrument(1, 58, 62), threePitches(), instrument(1, 60), instrument(1, pitchesFrom(40, 20)...)
	checkPitchTests(t, impl.NearestPitch, []pitchTest{
		{two, 60, 58, true}, {two, 59, 58, true}, {two, 61, 62, true}, {two, 58, 58, true}, {two, 62, 62, true}, {two, 57, 58, true}, {two, 63, 62, true}, {two, 24, 58, true}, {two, 96, 62, true},
		{instrument(1, 58, 63), 60, 58, true}, {instrument(1, 58, 63), 61, 63, true}, {instrument(1, 57, 62), 59, 57, true}, {instrument(1, 57, 62), 60, 62, true},
		{three, 61, 60, true}, {three, 63, 62, true}, {three, 62, 62, true}, {three, 60, 60, true}, {three, 64, 64, true}, {three, 74, 64, true}, {three, 50, 60, true},
		{one, 60, 60, true}, {one, 24, 60, true}, {one, 96, 60, true}, {one, 59, 60, true}, {instrument(1, 24), 96, 24, true}, {instrument(1, 96), 24, 96, true},
		{instrument(1, 24, 96), 60, 24, true}, {instrument(1, 24, 96), 59, 24, true}, {instrument(1, 24, 96), 61, 96, true}, {instrument(1, 24, 96), 24, 24, true}, {instrument(1, 24, 96), 96, 96, true},
		{twenty, 39, 40, true}, {twenty, 24, 40, true}, {twenty, 60, 59, true}, {twenty, 96, 59, true}, {twenty, 50, 50, true}, {twenty, 59, 59, true}, {instrument(1, 40, 60, 62), 61, 60, true}, {instrument(1, 40, 50, 60), 55, 50, true},
	})
}

func TestFoldPitch(t *testing.T) {
	three, one, twenty := threePitches(), instrument(1, 60), instrument(1, pitchesFrom(40, 20)...)
	checkPitchTests(t, impl.FoldPitch, []pitchTest{
		{three, 74, 62, true}, {three, 62, 62, true}, {three, 50, 62, true}, {three, 86, 62, true}, {three, 26, 62, true}, {three, 72, 60, true}, {three, 28, 64, true}, {three, 96, 60, true}, {three, 24, 60, true},
		{three, 73, 0, false}, {three, 61, 0, false}, {three, 63, 0, false}, {three, 59, 0, false}, {three, 65, 0, false}, {three, 66, 0, false},
		{one, 60, 60, true}, {one, 48, 60, true}, {one, 72, 60, true}, {one, 24, 60, true}, {one, 96, 60, true}, {one, 54, 0, false}, {one, 66, 0, false}, {one, 59, 0, false}, {one, 61, 0, false},
		{instrument(1, 24), 96, 24, true}, {instrument(1, 96), 24, 96, true}, {instrument(1, 95), 24, 0, false}, {instrument(1, 95), 35, 95, true}, {instrument(1, 25), 85, 25, true}, {instrument(1, 25), 96, 0, false},
		// Octaves on both sides, the lower one, the higher one or none of which is nearer, and a nearer pitch that is no octave.
		{instrument(1, 48, 72), 60, 48, true}, {instrument(1, 36, 84), 60, 36, true}, {instrument(1, 36, 72), 60, 72, true}, {instrument(1, 48, 84), 60, 48, true}, {instrument(1, 48, 60, 72), 60, 60, true}, {instrument(1, 24, 96), 60, 24, true}, {instrument(1, 24, 96), 72, 96, true}, {instrument(1, 24, 96), 48, 24, true},
		{instrument(1, 48, 59, 61, 72), 60, 48, true}, {instrument(1, 36, 59, 61, 72), 60, 72, true}, {instrument(1, 24, 36, 48, 60, 72, 84, 96), 84, 84, true}, {instrument(1, 24, 36, 48), 96, 48, true}, {instrument(1, 60, 72, 84), 24, 60, true}, {instrument(1, 24, 48, 72), 60, 48, true}, {instrument(1, 24, 48, 72), 36, 24, true},
		{twenty, 40, 40, true}, {twenty, 59, 59, true}, {twenty, 60, 48, true}, {twenty, 64, 52, true}, {twenty, 63, 51, true}, {twenty, 71, 59, true}, {twenty, 24, 48, true}, {twenty, 28, 40, true}, {twenty, 35, 47, true}, {twenty, 96, 48, true}, {twenty, 39, 51, true},
	})
}

// foldTest is a score, what is folded of it, and how many notes are left out.
type foldTest struct {
	in      impl.Instrument
	l       []impl.Note
	want    []impl.Note
	leftOut int
}

func foldTests() []foldTest {
	three, one := threePitches(), instrument(1, 60)
	all := []foldTest{
		{three, nil, nil, 0}, {three, []impl.Note{}, nil, 0}, {three, exampleNotes(), exampleNotes(), 0}, {three, oneNote(74), oneNote(62), 0}, {three, oneNote(61), nil, 1}, {three, oneNote(73), nil, 1}, {instrument(1, 96), oneNote(24), oneNote(96), 0}, {instrument(1, 24), oneNote(96), oneNote(24), 0},
		{three, []impl.Note{note(61, 0, 1), note(62, 0, 1), note(63, 0, 1), note(76, 1, 1), note(77, 1, 1)}, []impl.Note{note(62, 0, 1), note(64, 1, 1)}, 3},
		{instrument(20, 60), row(30), row(30), 0}, {one, movedPitches(row(30), 12), row(30), 0}, {one, movedPitches(row(30), 1), nil, 30}, {instrument(1, pitchesFrom(40, 20)...), chord(20), chord(20), 0}, {instrument(1, pitchesFrom(40, 20)...), chord(30), chord(20), 10},
		// Two notes that have one pitch and one step: the first one of the score stays, whichever is longer.
		{one, []impl.Note{note(48, 0, 5), note(60, 0, 3)}, []impl.Note{note(60, 0, 5)}, 1}, {one, []impl.Note{note(48, 0, 3), note(60, 0, 5)}, []impl.Note{note(60, 0, 3)}, 1}, {one, []impl.Note{note(60, 0, 3), note(72, 0, 5)}, []impl.Note{note(60, 0, 3)}, 1}, {one, []impl.Note{note(48, 7, 1), note(72, 7, 1)}, []impl.Note{note(60, 7, 1)}, 1},
		{one, []impl.Note{note(48, 0, 1), note(60, 0, 9), note(72, 0, 2)}, []impl.Note{note(60, 0, 1)}, 2}, {one, []impl.Note{note(36, 0, 2), note(48, 0, 2), note(60, 0, 2), note(72, 2, 1)}, []impl.Note{note(60, 0, 2), note(60, 2, 1)}, 2},
		// They share a step, follow each other without one between, and with one.
		{one, []impl.Note{note(48, 0, 5), note(72, 4, 2)}, []impl.Note{note(60, 0, 5)}, 1}, {one, []impl.Note{note(48, 0, 5), note(72, 5, 2)}, []impl.Note{note(60, 0, 5), note(60, 5, 2)}, 0}, {one, []impl.Note{note(48, 0, 5), note(72, 6, 2)}, []impl.Note{note(60, 0, 5), note(60, 6, 2)}, 0}, {one, []impl.Note{note(72, 0, 5), note(48, 4, 2)}, []impl.Note{note(60, 0, 5)}, 1}, {instrument(20, 60), []impl.Note{note(72, 0, 1), note(48, 1, 1)}, []impl.Note{note(60, 0, 1), note(60, 1, 1)}, 0},
		{one, []impl.Note{note(60, 0, 99), note(72, 98, 1)}, []impl.Note{note(60, 0, 99)}, 1}, {one, []impl.Note{note(60, 0, 99), note(72, 99, 1)}, []impl.Note{note(60, 0, 99), note(60, 99, 1)}, 0}, {one, []impl.Note{note(60, 999, 99), note(72, 999, 1)}, []impl.Note{note(60, 999, 99)}, 1},
		// A note that is left out keeps no other one out, though the one that stays keeps out several.
		{one, []impl.Note{note(48, 0, 5), note(60, 3, 4), note(72, 5, 2)}, []impl.Note{note(60, 0, 5), note(60, 5, 2)}, 1}, {one, []impl.Note{note(48, 0, 9), note(60, 1, 1), note(72, 2, 1), note(84, 3, 1)}, []impl.Note{note(60, 0, 9)}, 3}, {one, []impl.Note{note(48, 0, 9), note(61, 1, 20), note(72, 9, 1)}, []impl.Note{note(60, 0, 9), note(60, 9, 1)}, 1},
		// Between the two stands a note of another pitch.
		{three, []impl.Note{note(60, 0, 5), note(62, 1, 1), note(72, 4, 1)}, []impl.Note{note(60, 0, 5), note(62, 1, 1)}, 1}, {three, []impl.Note{note(60, 0, 5), note(62, 1, 9), note(72, 5, 1)}, []impl.Note{note(60, 0, 5), note(62, 1, 9), note(60, 5, 1)}, 0},
		// Notes of one step stand in another order then.
		{instrument(1, 62, 72), []impl.Note{note(60, 0, 1), note(62, 0, 2)}, []impl.Note{note(62, 0, 2), note(72, 0, 1)}, 0}, {three, []impl.Note{note(52, 3, 1), note(62, 3, 2), note(72, 3, 3)}, []impl.Note{note(60, 3, 3), note(62, 3, 2), note(64, 3, 1)}, 0}, {three, []impl.Note{note(64, 0, 1), note(74, 0, 2), note(84, 0, 3), note(50, 1, 1)}, []impl.Note{note(60, 0, 3), note(62, 0, 2), note(64, 0, 1)}, 1},
		{three, []impl.Note{note(52, 3, 1), note(64, 3, 2), note(72, 3, 3)}, []impl.Note{note(60, 3, 3), note(64, 3, 1)}, 1}, {instrument(1, 48, 72), []impl.Note{note(60, 0, 1), note(84, 0, 2)}, []impl.Note{note(48, 0, 1), note(72, 0, 2)}, 0},
	}
	return append(all, foldTest{instrument(1, 24, 96), []impl.Note{note(24, 0, 1), note(60, 0, 1), note(96, 0, 1), note(72, 1, 1)}, []impl.Note{note(24, 0, 1), note(96, 0, 1), note(96, 1, 1)}, 1})
}

// movedPitches returns the notes with a number added to all pitches.
func movedPitches(l []impl.Note, by int) []impl.Note {
	var moved []impl.Note
	for _, x := range l {
		moved = append(moved, note(x.Pitch+by, x.Start, x.Length))
	}
	return moved
}

func TestFoldScore(t *testing.T) {
	for _, x := range foldTests() {
		if got, leftOut, ok := impl.FoldScore(x.in, x.l); !ok || leftOut != x.leftOut || !slices.Equal(got, x.want) {
			t.Error(x.in, x.l, got, leftOut, ok)
		}
	}
}

func TestBestFold(t *testing.T) {
	three, one, ends := threePitches(), instrument(1, 60), []impl.Note{note(24, 0, 1), note(96, 0, 1)}
	tests := []bestTest{
		{three, nil, 0, 0}, {three, []impl.Note{}, 0, 0}, {three, exampleNotes(), 0, 0}, {three, oneNote(74), 0, 0}, {three, oneNote(61), -1, 0}, {three, oneNote(73), -1, 0}, {three, oneNote(65), -1, 0}, {three, oneNote(66), -2, 0}, {three, oneNote(69), 3, 0}, {three, oneNote(68), -4, 0}, {three, oneNote(71), 1, 0},
		{one, oneNote(60), 0, 0}, {one, oneNote(96), 0, 0}, {one, oneNote(61), -1, 0}, {one, oneNote(59), 1, 0}, {one, oneNote(66), -6, 0}, {one, oneNote(54), -6, 0}, {one, oneNote(67), 5, 0}, {one, oneNote(65), -5, 0}, {one, oneNote(71), 1, 0}, {one, oneNote(49), -1, 0}, {one, oneNote(91), 5, 0}, {one, oneNote(90), -6, 0},
		// Near the lowest and the highest pitch only one of two transpositions leads to a valid pitch.
		{instrument(1, 35), oneNote(24), 11, 0}, {instrument(1, 95), oneNote(24), 11, 0}, {instrument(1, 34), oneNote(24), 10, 0}, {instrument(1, 35), oneNote(25), 10, 0}, {instrument(1, 35), oneNote(26), 9, 0}, {instrument(1, 30), oneNote(24), 6, 0}, {instrument(1, 36), oneNote(30), -6, 0}, {instrument(1, 36), oneNote(29), -5, 0},
		{instrument(1, 25), oneNote(96), -11, 0}, {instrument(1, 85), oneNote(96), -11, 0}, {instrument(1, 86), oneNote(96), -10, 0}, {instrument(1, 85), oneNote(95), -10, 0}, {instrument(1, 35), oneNote(34), 1, 0}, {instrument(1, 36), oneNote(26), -2, 0}, {instrument(1, 25), oneNote(94), -9, 0}, {instrument(1, 24), oneNote(94), 2, 0}, {instrument(1, 90), oneNote(96), -6, 0}, {instrument(1, 60), oneNote(95), 1, 0}, {instrument(1, 60), oneNote(90), -6, 0},
		// A note that is moved to no valid pitch is left out and counted, and does not keep the others out.
		{instrument(1, 24), ends, 0, 1}, {instrument(1, 25), ends, 1, 1}, {instrument(1, 35), ends, -1, 1}, {instrument(1, 25, 35), ends, -1, 1}, {instrument(1, 25, 36), ends, 0, 1}, {instrument(1, 24, 96), ends, 0, 0}, {instrument(1, 30), ends, -6, 1}, {instrument(1, 25, 85), ends, 1, 1},
		{instrument(1, 61), []impl.Note{note(24, 0, 1), note(60, 1, 1), note(84, 2, 1), note(96, 3, 1)}, 1, 1}, {instrument(1, 59), []impl.Note{note(24, 0, 1), note(60, 1, 1), note(84, 2, 1), note(96, 3, 1)}, -1, 1}, {instrument(1, 54), []impl.Note{note(24, 0, 1), note(60, 1, 1), note(96, 2, 1)}, -6, 1}, {instrument(1, 54), []impl.Note{note(60, 1, 1), note(96, 2, 1)}, -6, 0}, {instrument(1, 54), []impl.Note{note(24, 1, 1), note(60, 2, 1)}, 6, 0},
		// Fewer left out count more than being near to 0; notes that meet are left out too.
		{one, []impl.Note{note(60, 0, 1), note(65, 1, 1), note(65, 2, 1)}, -5, 1}, {one, []impl.Note{note(60, 0, 1), note(67, 1, 1), note(67, 2, 1)}, 5, 1}, {one, []impl.Note{note(48, 0, 2), note(60, 1, 2), note(61, 3, 1), note(61, 4, 1)}, -1, 2}, {one, []impl.Note{note(48, 0, 2), note(60, 2, 2), note(61, 3, 1), note(73, 4, 1)}, 0, 2}, {one, []impl.Note{note(60, 0, 1), note(66, 1, 1)}, 0, 1}, {one, []impl.Note{note(61, 0, 1), note(71, 1, 1)}, -1, 1},
		{one, row(30), 0, 0}, {instrument(1, 61), row(30), 1, 0}, {instrument(1, 59), row(30), -1, 0}, {instrument(1, 66), row(30), -6, 0}, {one, chord(30), 0, 29}, {instrument(1, pitchesFrom(40, 20)...), chord(30), 0, 10}, {instrument(1, pitchesFrom(77, 20)...), chord(30), 0, 18}, {instrument(1, pitchesFrom(41, 20)...), chord(20), 1, 0}, {instrument(1, pitchesFrom(52, 20)...), chord(20), 11, 1},
	}
	for _, x := range foldTests() {
		if x.leftOut == 0 {
			tests = append(tests, bestTest{x.in, x.l, 0, 0})
		}
	}
	checkBestTests(t, impl.BestFold, tests)
}

func TestPlayableClasses(t *testing.T) {
	tests := []struct {
		in   impl.Instrument
		want []int
	}{
		{threePitches(), []int{0, 2, 4}}, {instrument(1, 60), []int{0}}, {instrument(1, 24), []int{0}}, {instrument(1, 96), []int{0}}, {instrument(1, 71), []int{11}}, {instrument(1, 95), []int{11}}, {instrument(1, 25), []int{1}},
		{instrument(1, 71, 72), []int{0, 11}}, {instrument(1, 35, 36, 37), []int{0, 1, 11}}, {instrument(1, 24, 36, 48), []int{0}}, {instrument(1, 24, 36, 48, 60, 72, 84, 96), []int{0}}, {instrument(1, 31, 42, 55, 66), []int{6, 7}}, {instrument(1, 24, 26, 38, 49), []int{0, 1, 2}},
		{instrument(1, pitchesFrom(60, 12)...), pitchesFrom(0, 12)}, {instrument(1, pitchesFrom(65, 12)...), pitchesFrom(0, 12)}, {instrument(1, pitchesFrom(65, 11)...), []int{0, 1, 2, 3, 5, 6, 7, 8, 9, 10, 11}}, {instrument(1, pitchesFrom(24, 20)...), pitchesFrom(0, 12)}, {instrument(20, pitchesFrom(77, 20)...), pitchesFrom(0, 12)},
	}
	for _, x := range tests {
		if got, ok := impl.PlayableClasses(x.in); !ok || !slices.Equal(got, x.want) {
			t.Error(x.in, got, ok)
		}
	}
}

// checkNoTranspositions calls all functions of the chapter that have a score, which or the instrument of which is not valid.
func checkNoTranspositions(t *testing.T, name string, in impl.Instrument, l []impl.Note) {
	t.Helper()
	for _, by := range []int{-25, -24, -1, 0, 1, 24, 25} {
		loss, ok := impl.TransposeLoss(in, l, by)
		checkNone(t, "TransposeLoss, "+name, loss, ok)
	}
	if table, ok := impl.LossTable(in, l); table != nil || ok {
		t.Error("LossTable", name, table, ok)
	}
	if full, ok := impl.FullTranspositions(in, l); full != nil || ok {
		t.Error("FullTranspositions", name, full, ok)
	}
	by, loss, ok := impl.BestTransposition(in, l)
	checkNone(t, "BestTransposition, "+name, by, ok)
	checkNone(t, "BestTransposition, its loss, "+name, loss, ok)
	by, leftOut, ok := impl.BestFold(in, l)
	checkNone(t, "BestFold, "+name, by, ok)
	checkNone(t, "BestFold, left out, "+name, leftOut, ok)
	if folded, leftOut, ok := impl.FoldScore(in, l); folded != nil || leftOut != 0 || ok {
		t.Error("FoldScore", name, folded, leftOut, ok)
	}
}

func TestWhatTransposesRefusesOthers(t *testing.T) {
	for name, in := range badInstruments() {
		for _, l := range [][]impl.Note{nil, oneNote(60), oneNote(24), exampleNotes(), row(30), row(31)} {
			checkNoTranspositions(t, name, in, l)
		}
		for _, pitch := range []int{23, 24, 48, 60, 62, 72, 96, 97} {
			nearest, ok := impl.NearestPitch(in, pitch)
			checkNone(t, "NearestPitch, "+name, nearest, ok)
			folded, ok := impl.FoldPitch(in, pitch)
			checkNone(t, "FoldPitch, "+name, folded, ok)
		}
		if classes, ok := impl.PlayableClasses(in); classes != nil || ok {
			t.Error("PlayableClasses", name, classes, ok)
		}
	}
	for name, l := range noScores() {
		checkNoTranspositions(t, name, threePitches(), l)
		checkNoTranspositions(t, name, instrument(1, pitchesFrom(40, 20)...), l)
	}
}
