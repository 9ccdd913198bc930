package tests

import (
	"slices"
	"testing"

	"loop.example/g00949/impl"
)

// twoPitches is the instrument of most tests of this chapter.
func twoPitches() impl.Instrument { return instrument(2, 60, 62) }

// twoNotes is a score of its pitches, with the layout twoHoles.
func twoNotes() []impl.Note { return []impl.Note{note(60, 0, 2), note(62, 3, 2)} }

func twoHoles() []impl.Hole { return holes(0, 0, 3, 1, 6, 9) }

// noteTest is a note and its hole.
type noteTest struct {
	in impl.Instrument
	x  impl.Note
	y  impl.Hole
}

func noteTests() []noteTest {
	two, twenty := twoPitches(), instrument(1, pitchesFrom(77, 20)...)
	return []noteTest{
		{two, note(62, 3, 2), hole(1, 6, 9)}, {two, note(60, 3, 2), hole(0, 6, 9)}, {two, note(62, 3, 1), hole(1, 6, 7)},
		{two, note(60, 0, 1), hole(0, 0, 1)}, {two, note(60, 0, 2), hole(0, 0, 3)}, {two, note(60, 1, 1), hole(0, 2, 3)},
		{two, note(60, 0, 98), hole(0, 0, 195)}, {two, note(60, 0, 99), hole(0, 0, 197)}, {two, note(60, 1, 99), hole(0, 2, 199)},
		{two, note(62, 999, 1), hole(1, 1998, 1999)}, {two, note(62, 998, 1), hole(1, 1996, 1997)}, {two, note(62, 998, 2), hole(1, 1996, 1999)},
		{two, note(60, 901, 99), hole(0, 1802, 1999)}, {two, note(60, 900, 99), hole(0, 1800, 1997)},
		{twenty, note(77, 5, 3), hole(0, 10, 15)}, {twenty, note(78, 5, 3), hole(1, 10, 15)}, {twenty, note(96, 5, 3), hole(19, 10, 15)},
		{instrument(20, 24, 96), note(24, 5, 3), hole(0, 10, 15)}, {instrument(20, 24, 96), note(96, 5, 3), hole(1, 10, 15)},
		{instrument(3, 60), note(60, 5, 3), hole(0, 10, 15)},
	}
}

func TestHoleFor(t *testing.T) {
	for _, x := range noteTests() {
		if got, ok := impl.HoleFor(x.in, x.x); got != x.y || !ok {
			t.Error(x.in, x.x, got, ok)
		}
	}
	two, twenty := twoPitches(), instrument(1, pitchesFrom(77, 20)...)
	tests := []noteTest{
		{in: two, x: note(59, 3, 2)}, {in: two, x: note(61, 3, 2)}, {in: two, x: note(63, 3, 2)}, {in: two, x: note(24, 3, 2)}, {in: two, x: note(96, 3, 2)},
		{in: two, x: note(60, 999, 2)}, {in: two, x: note(60, 999, 99)}, {in: two, x: note(60, 998, 3)}, {in: two, x: note(60, 902, 99)},
		{in: twenty, x: note(76, 3, 2)}, {in: twenty, x: note(97, 3, 2)}, {in: instrument(3, 60), x: note(62, 3, 2)}, {in: instrument(3, 60), x: note(0, 3, 2)},
	}
	for _, x := range badNotes() {
		for _, in := range goodInstruments() {
			tests = append(tests, noteTest{in: in, x: x})
		}
	}
	for _, in := range badInstruments() {
		tests = append(tests, noteTest{in: in, x: note(60, 3, 2)}, noteTest{in: in, x: note(24, 0, 1)}, noteTest{in: in, x: impl.Note{}})
	}
	for _, x := range tests {
		if got, ok := impl.HoleFor(x.in, x.x); got != (impl.Hole{}) || ok {
			t.Error(x.in, x.x, got, ok)
		}
	}
}

func TestNoteFor(t *testing.T) {
	for _, x := range noteTests() {
		if got, ok := impl.NoteFor(x.in, x.y); got != x.x || !ok {
			t.Error(x.in, x.y, got, ok)
		}
	}
	two, twenty := twoPitches(), instrument(1, pitchesFrom(77, 20)...)
	tests := []noteTest{
		{in: two, y: hole(1, 7, 9)}, {in: two, y: hole(1, 5, 9)}, {in: two, y: hole(1, 1, 3)}, {in: two, y: hole(1, 1997, 1999)},
		{in: two, y: hole(1, 6, 8)}, {in: two, y: hole(1, 6, 10)}, {in: two, y: hole(1, 0, 2)}, {in: two, y: hole(1, 1998, 2000)}, {in: two, y: hole(0, 0, 2000)},
		{in: two, y: hole(1, 7, 10)}, {in: two, y: hole(1, 7, 8)}, {in: two, y: hole(0, 1999, 2000)}, {in: two, y: hole(0, 1, 2)}, {in: two, y: hole(0, 1, 2000)},
		{in: two, y: hole(0, 0, 198)}, {in: two, y: hole(0, 0, 199)}, {in: two, y: hole(0, 0, 200)}, {in: two, y: hole(0, 2, 201)}, {in: two, y: hole(0, 1800, 1999)}, {in: two, y: hole(0, 0, 1999)},
		{in: two, y: hole(2, 6, 9)}, {in: two, y: hole(19, 6, 9)}, {in: two, y: hole(-1, 6, 9)}, {in: two, y: hole(20, 6, 9)}, {in: two, y: hole(60, 6, 9)},
		{in: twenty, y: hole(20, 6, 9)}, {in: twenty, y: hole(-1, 6, 9)}, {in: twenty, y: hole(77, 6, 9)}, {in: instrument(3, 60), y: hole(1, 6, 9)},
		{in: two, y: hole(0, -2, 1)}, {in: two, y: hole(0, 0, -1)}, {in: two, y: hole(0, 6, 5)}, {in: two, y: hole(0, 2000, 2001)}, {in: two, y: hole(0, 1998, 2001)},
	}
	for _, y := range badHoles() {
		for _, in := range goodInstruments() {
			tests = append(tests, noteTest{in: in, y: y})
		}
	}
	for _, in := range badInstruments() {
		tests = append(tests, noteTest{in: in, y: hole(0, 6, 9)}, noteTest{in: in, y: hole(1, 0, 1)}, noteTest{in: in, y: impl.Hole{}})
	}
	for _, x := range tests {
		if got, ok := impl.NoteFor(x.in, x.y); got != (impl.Note{}) || ok {
			t.Error(x.in, x.y, got, ok)
		}
	}
}

// rowHoles returns the layout of row(n) for an instrument whose first pitch is 60.
func rowHoles(n int) []impl.Hole {
	var l []impl.Hole
	for i := range n {
		l = append(l, hole(0, 4*i, 4*i+3))
	}
	return l
}

// chordHoles returns the layout of chord(n) for an instrument whose first pitch is 40.
func chordHoles(n int) []impl.Hole {
	var l []impl.Hole
	for i := range n {
		l = append(l, hole(i, 14, 19))
	}
	return l
}

// layoutTest is a score and its layout.
type layoutTest struct {
	in    impl.Instrument
	l     []impl.Note
	sheet []impl.Hole
}

func layoutTests() []layoutTest {
	two, slow := twoPitches(), instrument(3, 60)
	return []layoutTest{
		{two, nil, nil}, {two, []impl.Note{}, nil}, {two, twoNotes(), twoHoles()}, {two, twoNotes()[1:], twoHoles()[1:]},
		{two, []impl.Note{note(60, 5, 9), note(62, 5, 1)}, holes(0, 10, 27, 1, 10, 11)}, {two, []impl.Note{note(62, 4, 1), note(60, 5, 9)}, holes(1, 8, 9, 0, 10, 27)},
		// Between these notes of one pitch there are no, one and three steps; the starts of the fourth ones are just Repeat apart.
		{slow, []impl.Note{note(60, 0, 3), note(60, 3, 2)}, holes(0, 0, 5, 0, 6, 9)}, {slow, []impl.Note{note(60, 0, 3), note(60, 4, 2)}, holes(0, 0, 5, 0, 8, 11)},
		{slow, []impl.Note{note(60, 0, 3), note(60, 6, 2)}, holes(0, 0, 5, 0, 12, 15)}, {slow, []impl.Note{note(60, 0, 1), note(60, 3, 1)}, holes(0, 0, 1, 0, 6, 7)},
		{instrument(1, 60), scoreAt(0, 1, 2, 4), holes(0, 0, 1, 0, 2, 3, 0, 4, 5, 0, 8, 9)}, {instrument(20, 60), scoreAt(0, 20, 41), holes(0, 0, 1, 0, 40, 41, 0, 82, 83)},
		{two, row(30), rowHoles(30)}, {instrument(1, pitchesFrom(40, 20)...), chord(20), chordHoles(20)}, {instrument(2, pitchesFrom(40, 20)...), chord(1), chordHoles(1)},
		{two, []impl.Note{note(60, 0, 99), note(60, 99, 1)}, holes(0, 0, 197, 0, 198, 199)}, {two, []impl.Note{note(60, 0, 1), note(62, 999, 1)}, holes(0, 0, 1, 1, 1998, 1999)},
		{two, []impl.Note{note(60, 901, 99), note(62, 999, 1)}, holes(0, 1802, 1999, 1, 1998, 1999)},
		{instrument(2, 24, 96), []impl.Note{note(24, 3, 1), note(96, 3, 2)}, holes(0, 6, 7, 1, 6, 9)},
	}
}

// notPlayed are scores that are not laid out, as the instrument cannot play them or a hole would end behind MaxEnd.
func notPlayed() []layoutTest {
	two := twoPitches()
	return []layoutTest{
		{in: two, l: []impl.Note{note(61, 0, 2)}}, {in: two, l: []impl.Note{note(60, 0, 2), note(63, 3, 2)}}, {in: two, l: []impl.Note{note(59, 0, 2), note(62, 3, 2)}},
		{in: two, l: scoreAt(0, 1)}, {in: two, l: scoreAt(0, 2, 3)}, {in: two, l: []impl.Note{note(60, 0, 1), note(62, 0, 5), note(60, 1, 1)}},
		{in: instrument(3, 60), l: scoreAt(0, 2)}, {in: instrument(3, 60), l: row(30)}, {in: instrument(20, 60), l: scoreAt(0, 19)}, {in: instrument(20, 60), l: scoreAt(0, 20, 39)},
		{in: two, l: chord(30)}, {in: instrument(1, pitchesFrom(40, 20)...), l: chord(21)}, {in: instrument(1, pitchesFrom(41, 20)...), l: chord(1)},
		{in: two, l: []impl.Note{note(60, 999, 2)}}, {in: two, l: []impl.Note{note(60, 0, 1), note(62, 999, 2)}}, {in: two, l: []impl.Note{note(60, 902, 99)}},
		{in: two, l: []impl.Note{note(60, 902, 99), note(62, 999, 1)}}, {in: two, l: []impl.Note{note(60, 999, 1), note(62, 999, 99)}},
	}
}

func TestLayOut(t *testing.T) {
	for _, x := range layoutTests() {
		if got, ok := impl.LayOut(x.in, x.l); !ok || !slices.Equal(got, x.sheet) {
			t.Error(x.in, x.l, got, ok)
		}
	}
	for _, x := range notPlayed() {
		if got, ok := impl.LayOut(x.in, x.l); ok || got != nil {
			t.Error(x.in, x.l, got, ok)
		}
	}
}

// readTest is a sheet that is read back as a score. is tells whether it is the score's layout.
type readTest struct {
	in       impl.Instrument
	sheet    []impl.Hole
	l        []impl.Note
	read, is bool
}

func readTests() []readTest {
	two, slow := twoPitches(), instrument(3, 60)
	all := []readTest{
		{slow, holes(0, 0, 3, 0, 4, 7), []impl.Note{note(60, 0, 2), note(60, 2, 2)}, true, false},
		{slow, holes(0, 0, 1, 0, 6, 7, 0, 10, 13), []impl.Note{note(60, 0, 1), note(60, 3, 1), note(60, 5, 2)}, true, false},
		{instrument(20, 60), holes(0, 0, 1, 0, 38, 39), scoreAt(0, 19), true, false}, {two, holes(0, 0, 1, 0, 2, 3), scoreAt(0, 1), true, false},
		{slow, rowHoles(30), row(30), true, false}, {two, rowHoles(31), nil, false, false}, {slow, rowHoles(31), nil, false, false}, {two, rowHoles(60), nil, false, false},
		{two, append(holes(1, 0, 1), rowHoles(30)[1:]...), append([]impl.Note{note(62, 0, 1)}, row(30)[1:]...), true, true},
		{two, append(rowHoles(30), hole(1, 1998, 1999)), nil, false, false},
		{two, holes(0, 0, 3, 1, 7, 9), nil, false, false}, {two, holes(0, 0, 3, 1, 6, 8), nil, false, false}, {two, holes(0, 0, 3, 1, 7, 10), nil, false, false}, {two, holes(0, 0, 2, 1, 6, 9), nil, false, false},
		{two, holes(0, 1, 3, 1, 6, 9), nil, false, false}, {two, holes(0, 0, 3, 2, 6, 9), nil, false, false}, {two, holes(2, 0, 3, 0, 6, 9), nil, false, false}, {two, holes(19, 0, 1), nil, false, false},
		{two, holes(0, 0, 3, 1, 5, 9, 0, 10, 13), nil, false, false}, {two, holes(0, 0, 199), nil, false, false}, {two, holes(0, 0, 198), nil, false, false}, {two, holes(0, 0, 197, 1, 2, 201), nil, false, false},
		{two, holes(0, 1998, 2000), nil, false, false}, {two, holes(0, 1999, 2000), nil, false, false}, {two, holes(0, 0, 2000), nil, false, false},
		{two, exampleSheet(), nil, false, false}, {two, manyHoles(60), nil, false, false}, {slow, holes(1, 0, 1), nil, false, false}, {slow, holes(0, 0, 1, 1, 0, 1), nil, false, false},
	}
	for _, x := range layoutTests() {
		all = append(all, readTest{x.in, x.sheet, x.l, true, true})
	}
	return all
}

func TestReadBack(t *testing.T) {
	for _, x := range readTests() {
		if got, ok := impl.ReadBack(x.in, x.sheet); ok != x.read || !slices.Equal(got, x.l) {
			t.Error(x.in, x.sheet, got, ok)
		}
	}
}

func TestIsLayOut(t *testing.T) {
	for _, x := range readTests() {
		if got, ok := impl.IsLayOut(x.in, x.sheet); got != x.is || !ok {
			t.Error(x.in, x.sheet, got, ok)
		}
	}
}

func TestLayOutFrom(t *testing.T) {
	l, long := twoNotes(), []impl.Note{note(60, 0, 50), note(62, 3, 2)}
	first, last := scoreAt(0), scoreAt(999)
	tests := []struct {
		l    []impl.Note
		from int
		want []impl.Hole
		ok   bool
	}{
		{l, 0, twoHoles(), true}, {l, 10, holes(0, 10, 13, 1, 16, 19), true}, {l, 7, holes(0, 7, 10, 1, 13, 16), true}, {l, 1, holes(0, 1, 4, 1, 7, 10), true},
		{l, 1990, holes(0, 1990, 1993, 1, 1996, 1999), true}, {l, 1991, holes(0, 1991, 1994, 1, 1997, 2000), true}, {l, 1992, nil, false}, {l, 1993, nil, false},
		{l, 1999, nil, false}, {l, 2000, nil, false}, {l, 2001, nil, false}, {l, -1, nil, false}, {l, -2, nil, false}, {l, -2000, nil, false}, {l[1:], -6, nil, false},
		{nil, 0, nil, true}, {nil, 7, nil, true}, {nil, 2000, nil, true}, {nil, 2001, nil, false}, {nil, -1, nil, false}, {nil, -2000, nil, false},
		{first, 1999, holes(0, 1999, 2000), true}, {first, 2000, nil, false}, {first, 2001, nil, false},
		{last, 0, holes(0, 1998, 1999), true}, {last, 1, holes(0, 1999, 2000), true}, {last, 2, nil, false}, {last, -1, nil, false}, {last, -1998, nil, false}, {last, 2000, nil, false},
		{long, 1901, holes(0, 1901, 2000, 1, 1907, 1910), true}, {long, 1902, nil, false}, {long, 1991, nil, false},
		{row(30), 1881, movedHoles(rowHoles(30), 1881), true}, {row(30), 1882, nil, false},
	}
	for _, x := range tests {
		if got, ok := impl.LayOutFrom(twoPitches(), x.l, x.from); ok != x.ok || !slices.Equal(got, x.want) {
			t.Error(x.l, x.from, got, ok)
		}
		for _, from := range extremes {
			if got, ok := impl.LayOutFrom(twoPitches(), x.l, from); ok || got != nil {
				t.Error(x.l, from, got, ok)
			}
		}
	}
	for _, x := range notPlayed() {
		for _, from := range []int{-2000, -4, -1, 0, 1, 7, 2000} {
			if got, ok := impl.LayOutFrom(x.in, x.l, from); ok || got != nil {
				t.Error(x.in, x.l, from, got, ok)
			}
		}
	}
}

func movedHoles(l []impl.Hole, by int) []impl.Hole {
	var moved []impl.Hole
	for _, x := range l {
		moved = append(moved, hole(x.Track, x.From+by, x.To+by))
	}
	return moved
}

func TestTracksUsed(t *testing.T) {
	all := goodSheets()
	tests := []struct {
		l    []impl.Hole
		want []int
	}{
		{nil, nil}, {[]impl.Hole{}, nil}, {twoHoles(), []int{0, 1}}, {exampleSheet(), []int{3, 5}}, {holes(0, 0, 1), []int{0}}, {holes(19, 0, 1), []int{19}},
		{manyHoles(60), []int{7}}, {blockOfHoles(20), pitchesFrom(0, 20)}, {blockOfHoles(60), pitchesFrom(0, 20)}, {blockOfHoles(19), pitchesFrom(0, 19)},
		{all["both ends of a track"], []int{0, 19}}, {all["a hole over others"], []int{1, 2, 3}}, {all["equal Tos"], []int{0, 3, 7, 19}},
		{holes(9, 0, 1, 2, 3, 4, 9, 5, 6, 0, 7, 8, 2, 9, 10), []int{0, 2, 9}},
	}
	for _, x := range tests {
		if got, ok := impl.TracksUsed(x.l); !ok || !slices.Equal(got, x.want) {
			t.Error(x.l, got, ok)
		}
	}
}

func TestSpareTracks(t *testing.T) {
	one, two, twenty := instrument(3, 60), twoPitches(), instrument(1, pitchesFrom(77, 20)...)
	tests := []struct {
		in   impl.Instrument
		l    []impl.Hole
		want []int
	}{
		{two, twoHoles()[1:], []int{0}}, {two, twoHoles()[:1], []int{1}}, {two, twoHoles(), nil}, {two, nil, []int{0, 1}}, {two, []impl.Hole{}, []int{0, 1}},
		{two, exampleSheet(), []int{0, 1}}, {two, holes(2, 0, 1, 19, 0, 1), []int{0, 1}}, {two, holes(1, 0, 1, 2, 0, 1), []int{0}}, {two, blockOfHoles(60), nil}, {two, rowHoles(60), []int{1}},
		{one, nil, []int{0}}, {one, holes(0, 0, 1), nil}, {one, holes(1, 0, 1), []int{0}}, {one, holes(19, 0, 1), []int{0}},
		{twenty, nil, pitchesFrom(0, 20)}, {twenty, blockOfHoles(20), nil}, {twenty, blockOfHoles(19), []int{19}}, {twenty, blockOfHoles(20)[1:], []int{0}},
		{twenty, manyHoles(60), []int{0, 1, 2, 3, 4, 5, 6, 8, 9, 10, 11, 12, 13, 14, 15, 16, 17, 18, 19}}, {twenty, holes(19, 0, 1, 0, 5, 6), pitchesFrom(1, 18)},
	}
	for _, x := range tests {
		if got, ok := impl.SpareTracks(x.in, x.l); !ok || !slices.Equal(got, x.want) {
			t.Error(x.in, x.l, got, ok)
		}
	}
}

// countTest is a sheet and a number, of a track or of tracks.
type countTest struct {
	l    []impl.Hole
	n    int
	want int
	ok   bool
}

func checkCountTests(t *testing.T, count func([]impl.Hole, int) (int, bool), tests []countTest) {
	t.Helper()
	for _, x := range tests {
		if got, ok := count(x.l, x.n); got != x.want || ok != x.ok {
			t.Error(x.l, x.n, got, ok)
		}
		for _, n := range append([]int{-20, -1, 21, 40, 2000}, extremes...) {
			if got, ok := count(x.l, n); got != 0 || ok {
				t.Error(x.l, n, got, ok)
			}
		}
	}
}

func TestOpenTime(t *testing.T) {
	l, all := exampleSheet(), goodSheets()
	checkCountTests(t, impl.OpenTime, []countTest{
		{l, 3, 6, true}, {l, 5, 4, true}, {l, 0, 0, true}, {l, 4, 0, true}, {l, 19, 0, true}, {l, 20, 0, false}, {l, -1, 0, false},
		{nil, 0, 0, true}, {nil, 19, 0, true}, {nil, 20, 0, false}, {nil, -1, 0, false},
		{twoHoles(), 0, 3, true}, {twoHoles(), 1, 3, true}, {holes(0, 0, 1), 0, 1, true}, {holes(19, 1999, 2000), 19, 1, true}, {holes(19, 1999, 2000), 0, 0, true},
		{all["a whole track"], 5, 2000, true}, {all["a whole track"], 6, 0, true}, {manyHoles(60), 7, 120, true}, {manyHoles(60), 8, 0, true},
		{blockOfHoles(60), 0, 12, true}, {blockOfHoles(60), 19, 12, true}, {blockOfHoles(60), 20, 0, false},
		{all["both ends of a track"], 0, 20, true}, {all["both ends of a track"], 19, 20, true}, {all["both ends of a track"], 10, 0, true}, {all["three of one track"], 9, 9, true},
	})
}

func TestCrowdedSteps(t *testing.T) {
	l, all := exampleSheet(), goodSheets()
	checkCountTests(t, impl.CrowdedSteps, []countTest{
		{l, 0, 8, true}, {l, 1, 2, true}, {l, 2, 0, true}, {l, 19, 0, true}, {l, 20, 0, true}, {l, 21, 0, false}, {l, -1, 0, false},
		{nil, 0, 0, true}, {nil, 20, 0, true}, {nil, 21, 0, false}, {nil, -1, 0, false}, {twoHoles(), 0, 6, true}, {twoHoles(), 1, 0, true},
		// The second hole begins in the step behind the first one, in the last one of it, and one step later.
		{holes(1, 0, 5, 2, 5, 9), 0, 9, true}, {holes(1, 0, 5, 2, 5, 9), 1, 0, true}, {holes(1, 0, 6, 2, 5, 9), 0, 9, true}, {holes(1, 0, 6, 2, 5, 9), 1, 1, true}, {holes(1, 0, 5, 2, 6, 9), 0, 8, true},
		{blockOfHoles(20), 19, 4, true}, {blockOfHoles(20), 20, 0, true}, {blockOfHoles(20), 0, 4, true}, {blockOfHoles(19), 18, 4, true}, {blockOfHoles(19), 19, 0, true},
		{blockOfHoles(60), 19, 12, true}, {blockOfHoles(60), 20, 0, true}, {blockOfHoles(59), 19, 8, true}, {blockOfHoles(59), 18, 12, true},
		{all["a whole track"], 0, 2000, true}, {all["a whole track"], 1, 0, true}, {holes(0, 0, 2000, 19, 0, 2000), 1, 2000, true}, {holes(0, 0, 2000, 19, 0, 2000), 2, 0, true},
		{holes(0, 0, 1, 3, 0, 1, 19, 1999, 2000), 0, 2, true}, {holes(0, 0, 1, 3, 0, 1, 19, 1999, 2000), 1, 1, true}, {holes(0, 1999, 2000, 19, 1999, 2000), 1, 1, true},
		{all["equal Tos"], 0, 10, true}, {all["equal Tos"], 1, 9, true}, {all["equal Tos"], 2, 8, true}, {all["equal Tos"], 3, 1, true}, {all["equal Tos"], 4, 0, true},
		{manyHoles(60), 0, 120, true}, {manyHoles(60), 1, 0, true},
	})
}

// checkRefused calls all functions of the chapter that have a score or a sheet, one of which, or the instrument, is not valid.
func checkRefused(t *testing.T, name string, in impl.Instrument, l []impl.Note, sheet []impl.Hole) {
	t.Helper()
	layout, ok := impl.LayOut(in, l)
	checkNoSheet(t, "LayOut, "+name, layout, ok)
	for _, from := range []int{0, 1, 2, 2000} {
		layout, ok = impl.LayOutFrom(in, l, from)
		checkNoSheet(t, "LayOutFrom, "+name, layout, ok)
	}
	if score, ok := impl.ReadBack(in, sheet); score != nil || ok {
		t.Error("ReadBack", name, score, ok)
	}
	if is, ok := impl.IsLayOut(in, sheet); is || ok {
		t.Error("IsLayOut", name, is, ok)
	}
	if spare, ok := impl.SpareTracks(in, sheet); spare != nil || ok {
		t.Error("SpareTracks", name, spare, ok)
	}
}

func TestWhatRequiresALayoutRefusesOthers(t *testing.T) {
	scores, sheets := noScores(), noSheets()
	for name, in := range badInstruments() {
		for _, x := range layoutTests() {
			checkRefused(t, name, in, x.l, x.sheet)
		}
		checkRefused(t, name+", no score and no sheet", in, row(31), rowHoles(61))
	}
	for name, l := range scores {
		checkRefused(t, name, twoPitches(), l, rowHoles(61))
		checkRefused(t, name, instrument(1, pitchesFrom(40, 20)...), l, rowHoles(61))
	}
	for name, l := range sheets {
		for _, in := range goodInstruments() {
			checkRefused(t, name, in, row(31), l)
		}
		if used, ok := impl.TracksUsed(l); used != nil || ok {
			t.Error("TracksUsed", name, used, ok)
		}
		for n := range 20 {
			time, ok := impl.OpenTime(l, n)
			checkNone(t, "OpenTime, "+name, time, ok)
			steps, ok := impl.CrowdedSteps(l, n)
			checkNone(t, "CrowdedSteps, "+name, steps, ok)
		}
	}
}
