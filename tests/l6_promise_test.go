package tests

import (
	"fmt"
	"math/rand"
	"slices"
	"testing"

	"loop.example/g00949/impl"
)

// holeOf is the definition of the hole of a note in the document. It reports whether there is one.
func holeOf(in impl.Instrument, x impl.Note) (impl.Hole, bool) {
	track := slices.Index(in.Pitches, x.Pitch)
	y := hole(track, 2*x.Start, 2*(x.Start+x.Length)-1)
	if track < 0 || y.To > 2000 {
		return impl.Hole{}, false
	}
	return y, true
}

// holesOf is the definition of the layout of a score in the document. It reports whether there is one.
func holesOf(in impl.Instrument, l []impl.Note) ([]impl.Hole, bool) {
	if len(lacking(in, l)) > 0 || len(fastPairs(in.Repeat, l)) > 0 {
		return nil, false
	}
	var sheet []impl.Hole
	for _, x := range l {
		y, ok := holeOf(in, x)
		if !ok {
			return nil, false
		}
		sheet = append(sheet, y)
	}
	return holesInOrder(sheet), true
}

// keptNotes returns the notes of a score that the instrument can play together.
func keptNotes(in impl.Instrument, l []impl.Note) []impl.Note {
	var kept []impl.Note
	for _, x := range l {
		if slices.Contains(in.Pitches, x.Pitch) && !tooNear(in.Repeat, x, kept) {
			kept = append(kept, x)
		}
	}
	return kept
}

// checkLayout checks the sixth promise, and that there is a layout where there is to be one. It reports whether there is.
func checkLayout(t *testing.T, in impl.Instrument, l []impl.Note) bool {
	t.Helper()
	want, fine := holesOf(in, l)
	sheet, ok := impl.LayOut(in, l)
	if ok != fine || !slices.Equal(sheet, want) {
		t.Fatal("layout", in, l, sheet, want, ok)
	}
	if !ok {
		return false
	}
	if !isSheet(sheet) || len(sheet) != len(l) {
		t.Fatal("no sheet", in, l, sheet)
	}
	for i, x := range l {
		if y, ok := impl.HoleFor(in, x); y != sheet[i] || !ok {
			t.Fatal("not the hole of", x, in, sheet[i], y, ok)
		}
		if back, ok := impl.NoteFor(in, sheet[i]); back != x || !ok {
			t.Fatal("not the note of", sheet[i], in, x, back, ok)
		}
	}
	if back, ok := impl.ReadBack(in, sheet); !ok || !slices.Equal(back, l) {
		t.Fatal("read back", in, l, sheet, back, ok)
	}
	if is, ok := impl.IsLayOut(in, sheet); !is || !ok {
		t.Fatal("is no layout", in, l, sheet, is, ok)
	}
	return true
}

// checkFrom holds a layout with an added number against its definition. It reports whether there is one.
func checkFrom(t *testing.T, in impl.Instrument, l []impl.Note, from int) bool {
	t.Helper()
	want, fine := holesOf(in, l)
	want = movedHoles(want, from)
	fine = fine && from >= 0 && from <= 2000 && isSheet(want)
	sheet, ok := impl.LayOutFrom(in, l, from)
	if ok != fine || ok && !slices.Equal(sheet, want) || !ok && sheet != nil {
		t.Fatal("layout from", in, l, from, sheet, ok)
	}
	if !ok || from%2 == 1 && len(l) > 0 {
		return ok
	}
	// Two steps of the sheet are one of the score.
	if back, ok := impl.ReadBack(in, sheet); !ok || !slices.Equal(back, movedNotes(l, from/2)) {
		t.Fatal("read back from", in, l, from, back, ok)
	}
	return true
}

func movedNotes(l []impl.Note, by int) []impl.Note {
	var moved []impl.Note
	for _, x := range l {
		moved = append(moved, note(x.Pitch, x.Start+by, x.Length))
	}
	return moved
}

// checkSounds checks that in both steps of a sheet that are one of the score the tracks of the notes are open that sound there, but that each note is silent in its last one.
func checkSounds(t *testing.T, in impl.Instrument, l []impl.Note) {
	t.Helper()
	sheet, ok := impl.LayOut(in, l)
	if !ok {
		t.Fatal("no layout", in, l)
	}
	for step, open := range openSteps(sheet) {
		var tracks []int
		for track, pitch := range in.Pitches {
			sounds := func(x impl.Note) bool {
				return x.Pitch == pitch && x.Start <= step/2 && step/2 < x.Start+x.Length && step != 2*(x.Start+x.Length)-1
			}
			if slices.ContainsFunc(l, sounds) {
				tracks = append(tracks, track)
			}
		}
		if !slices.Equal(open, tracks) {
			t.Fatal("open in step", step, in, l, sheet, open, tracks)
		}
	}
}

func TestPromise6GoodScores(t *testing.T) {
	played := 0
	for _, in := range goodInstruments() {
		for _, l := range goodScores() {
			for _, l := range [][]impl.Note{l, keptNotes(in, l)} {
				if checkLayout(t, in, l) {
					checkSounds(t, in, l)
					played++
				}
				for _, from := range []int{-2000, -1, 0, 1, 2, 7, 10, 1000, 1001, 1801, 1802, 1981, 1991, 1998, 1999, 2000, 2001} {
					checkFrom(t, in, l, from)
				}
			}
		}
	}
	if played < 100 {
		t.Error("too few layouts", played)
	}
	for _, x := range append(layoutTests(), notPlayed()...) {
		checkLayout(t, x.in, x.l)
		checkFrom(t, x.in, x.l, 3)
	}
}

func TestPromise6SomeScores(t *testing.T) {
	r := rand.New(rand.NewSource(20))
	wide := instrument(3, pitchesFrom(77, 20)...)
	played, moved, late := 0, 0, 0
	check := func(in impl.Instrument, l []impl.Note) bool {
		length := 0
		for _, x := range l {
			length = max(length, 2*(x.Start+x.Length)-1)
		}
		for _, from := range []int{r.Intn(2003) - 1, 2000 - length, 2001 - length, r.Intn(200)} {
			if checkFrom(t, in, l, from) {
				moved++
			}
		}
		return checkLayout(t, in, l)
	}
	for range 2000 {
		in, l := someInstrument(r), busyScore(r)
		check(in, l)
		l = keptNotes(in, l)
		if !check(in, l) {
			t.Fatal("not laid out", in, l)
		}
		played += len(l)
		if !check(wide, keptNotes(wide, scoreWithin(r, 77, 20, 1000, 1+r.Intn(99)))) {
			late++
		}
	}
	if played < 5000 || moved < 5000 || late < 100 {
		t.Error("too few notes, layouts or late ends", played, moved, late)
	}
	for range 100 {
		checkSounds(t, wide, keptNotes(wide, scoreWithin(r, 77, 20, 900, 99)))
	}
}

// TestPromise6AllNotes takes all notes of an instrument and all holes of its tracks.
func TestPromise6AllNotes(t *testing.T) {
	in := instrument(1, 24, 96)
	notes := map[impl.Hole]impl.Note{}
	for _, pitch := range in.Pitches {
		for start := range 1000 {
			for length := 1; length <= 99; length++ {
				x := note(pitch, start, length)
				want, fine := holeOf(in, x)
				if got, ok := impl.HoleFor(in, x); got != want || ok != fine {
					t.Fatal("the hole of", x, got, want, ok)
				}
				if fine {
					notes[want] = x
				}
			}
		}
	}
	for track := range 2 {
		for from := range 2000 {
			// Beyond the longest note there are few holes to look at.
			for to := from + 1; to <= min(2000, from+220); to++ {
				y := hole(track, from, to)
				want, fine := notes[y]
				if got, ok := impl.NoteFor(in, y); got != want || ok != fine {
					t.Fatal("the note of", y, got, want, ok)
				}
				delete(notes, y)
			}
			if got, ok := impl.NoteFor(in, hole(track, from, 2000)); got != (impl.Note{}) || ok {
				t.Fatal("the note of the hole up to the end, from", from, got, ok)
			}
		}
	}
	if len(notes) > 0 {
		t.Error("notes are not looked at", len(notes))
	}
}

// moreScores returns all scores that are one with some of these notes, in order, added.
func moreScores(l, notes []impl.Note) [][]impl.Note {
	all := [][]impl.Note{l}
	for i, x := range notes {
		if longer := append(slices.Clone(l), x); isScore(longer) {
			all = append(all, moreScores(longer, notes[i+1:])...)
		}
	}
	return all
}

// TestPromise6AllShortSheets holds all sheets of two tracks and eight steps against the layouts of all scores of four steps.
func TestPromise6AllShortSheets(t *testing.T) {
	const steps = 4
	var notes []impl.Note
	for start := range steps {
		for _, pitch := range []int{60, 62} {
			for length := 1; length <= steps-start; length++ {
				notes = append(notes, note(pitch, start, length))
			}
		}
	}
	scores := map[string][]impl.Note{}
	for _, l := range moreScores(nil, notes) {
		sheet, _ := holesOf(instrument(1, 60, 62), l)
		scores[fmt.Sprint(sheet)] = l
	}
	// Each of the two pitches can have 34 rows of notes in four steps.
	if len(scores) != 34*34 {
		t.Error("scores", len(scores))
	}
	for set := range 1 << (4 * steps) {
		sheet := holesOfSet(set, 2*steps)
		want, fine := scores[fmt.Sprint(sheet)]
		for repeat := 1; repeat <= 3; repeat++ {
			in := instrument(repeat, 60, 62)
			if got, ok := impl.ReadBack(in, sheet); ok != fine || !slices.Equal(got, want) {
				t.Fatal("read back", in, sheet, got, want, ok)
			}
			plays := fine && len(fastPairs(repeat, want)) == 0
			if is, ok := impl.IsLayOut(in, sheet); is != plays || !ok {
				t.Fatal("is a layout", in, sheet, is, ok)
			}
		}
	}
}

// noteOf is the definition of the note with a hole: it looks through all notes that can have its From or To.
func noteOf(in impl.Instrument, y impl.Hole) (impl.Note, bool) {
	for _, pitch := range in.Pitches {
		for length := 1; length <= 99; length++ {
			x := note(pitch, y.From/2, length)
			if got, ok := holeOf(in, x); ok && got == y {
				return x, true
			}
		}
	}
	return impl.Note{}, false
}

// checkBack holds what is read back of a sheet against the notes of its holes. It reports whether that is a score.
func checkBack(t *testing.T, in impl.Instrument, sheet []impl.Hole) bool {
	t.Helper()
	var want []impl.Note
	fine := true
	for _, y := range sheet {
		x, is := noteOf(in, y)
		if got, ok := impl.NoteFor(in, y); got != x || ok != is {
			t.Fatal("the note of", in, y, got, x, ok)
		}
		fine = fine && is
		want = append(want, x)
	}
	want = inOrder(want)
	fine = fine && isScore(want)
	got, ok := impl.ReadBack(in, sheet)
	if ok != fine || ok && !slices.Equal(got, want) || !ok && got != nil {
		t.Fatal("read back", in, sheet, got, want, ok)
	}
	layout, laid := holesOf(in, want)
	if is, ok := impl.IsLayOut(in, sheet); is != (fine && laid && slices.Equal(layout, sheet)) || !ok {
		t.Fatal("is a layout", in, sheet, is, ok)
	}
	return fine
}

// changedLayout returns a layout in which one hole has another end or track.
func changedLayout(r *rand.Rand, sheet []impl.Hole) []impl.Hole {
	l := slices.Clone(sheet)
	if len(l) == 0 {
		return l
	}
	x := &l[r.Intn(len(l))]
	switch r.Intn(4) {
	case 0:
		x.From += r.Intn(5) - 2
	case 1:
		x.To += r.Intn(5) - 2
	case 2:
		x.Track = r.Intn(20)
	case 3:
		x.From, x.To = x.From+1, x.To+1
	}
	return holesInOrder(l)
}

func TestPromise6SomeSheets(t *testing.T) {
	r := rand.New(rand.NewSource(21))
	read, unread := 0, 0
	check := func(in impl.Instrument, sheet []impl.Hole) {
		if !isSheet(sheet) {
			return
		}
		if checkBack(t, in, sheet) {
			read++
		} else {
			unread++
		}
	}
	for range 1000 {
		in, l := someInstrument(r), busyScore(r)
		sheet, _ := impl.LayOut(instrument(1, in.Pitches...), keptNotes(instrument(1, in.Pitches...), l))
		check(in, sheet)
		for range 4 {
			check(in, changedLayout(r, sheet))
		}
		check(in, someSheet(r))
		check(instrument(2, pitchesFrom(50, 20)...), evenSheet(r))
	}
	if read < 1000 || unread < 1000 {
		t.Error("too few sheets", read, unread)
	}
}

// evenSheet returns a sheet whose holes begin at even steps and end at odd ones, some of them longer than a note.
func evenSheet(r *rand.Rand) []impl.Hole {
	var l []impl.Hole
	most := 28 + r.Intn(6)
	for range 2 * most {
		from := 2 * r.Intn(880)
		longer := holesInOrder(append(l, hole(r.Intn(20), from, from+1+2*r.Intn(100))))
		if len(longer) <= most && isSheet(longer) {
			l = longer
		}
	}
	return l
}

// checkTracks holds what is asked of the tracks of a sheet against its open tracks in all steps.
func checkTracks(t *testing.T, in impl.Instrument, l []impl.Hole) {
	t.Helper()
	var times [20]int
	// crowds counts steps by the number of their open tracks.
	var crowds [21]int
	for _, tracks := range openSteps(l) {
		crowds[len(tracks)]++
		for _, track := range tracks {
			times[track]++
		}
	}
	var used, spare []int
	for track, time := range times {
		if got, ok := impl.OpenTime(l, track); got != time || !ok {
			t.Fatal("open time", l, track, got, time, ok)
		}
		if time > 0 {
			used = append(used, track)
		} else if track < len(in.Pitches) {
			spare = append(spare, track)
		}
	}
	if got, ok := impl.TracksUsed(l); !ok || !slices.Equal(got, used) {
		t.Fatal("used", l, got, used, ok)
	}
	if got, ok := impl.SpareTracks(in, l); !ok || !slices.Equal(got, spare) {
		t.Fatal("spare", in, l, got, spare, ok)
	}
	crowded := 0
	for most := 20; most >= 0; most-- {
		if got, ok := impl.CrowdedSteps(l, most); got != crowded || !ok {
			t.Fatal("crowded", l, most, got, crowded, ok)
		}
		crowded += crowds[most]
	}
}

func TestTracksByTheirDefinitions(t *testing.T) {
	r := rand.New(rand.NewSource(22))
	for _, l := range goodSheets() {
		for _, in := range goodInstruments() {
			checkTracks(t, in, l)
		}
	}
	for range 200 {
		checkTracks(t, instrument(2, pitchesFrom(50, 1+r.Intn(20))...), someSheet(r))
	}
}

func TestPromise33NotesAndHoles(t *testing.T) {
	done := map[string]int{}
	notes := append(badNotes(), note(60, 0, 1), note(60, 0, 99), note(62, 999, 1), note(60, 999, 2), note(24, 5, 9), note(96, 5, 9))
	all := append(badHoles(), hole(0, 0, 1), hole(0, 6, 9), hole(1, 6, 9), hole(0, 0, 197), hole(0, 0, 199), hole(19, 0, 1), hole(0, 7, 9), hole(0, 1998, 1999))
	for name, in := range allInstruments() {
		for _, x := range notes {
			checkBoth(t, done, "HoleFor", name, impl.HoleFor, in, x)
		}
		for _, y := range all {
			checkBoth(t, done, "NoteFor", name, impl.NoteFor, in, y)
		}
	}
	checkDone(t, done, "HoleFor", "NoteFor")
}

func TestPromise33LaidOutScores(t *testing.T) {
	numbers := append([]int{-2001, -2000, -1, 0, 1, 2, 7, 1901, 1902, 1991, 1999, 2000, 2001}, extremes...)
	done := map[string]int{}
	check := func(about string, in impl.Instrument, l []impl.Note, numbers []int) {
		checkBoth(t, done, "LayOut", about, impl.LayOut, in, l)
		for _, n := range numbers {
			checkBoth(t, done, "LayOutFrom", about, impl.LayOutFrom, in, l, n)
		}
	}
	for inName, in := range allInstruments() {
		for name, l := range goodScores() {
			check(inName+" and "+name, in, l, []int{0, 1, 2000})
		}
		for _, x := range layoutTests() {
			check(inName, in, x.l, []int{3})
		}
	}
	for _, x := range append(layoutTests(), notPlayed()...) {
		check("a score", x.in, x.l, numbers)
	}
	for name, l := range noScores() {
		check(name, twoPitches(), l, []int{0})
	}
	checkDone(t, done, "LayOut", "LayOutFrom")
}

func TestPromise33SheetsReadBack(t *testing.T) {
	numbers := append([]int{-20, -1, 0, 1, 3, 5, 7, 19, 20, 21, 2000}, extremes...)
	done := map[string]int{}
	check := func(about string, in impl.Instrument, sheet []impl.Hole) {
		checkBoth(t, done, "ReadBack", about, impl.ReadBack, in, sheet)
		checkBoth(t, done, "IsLayOut", about, impl.IsLayOut, in, sheet)
		checkBoth(t, done, "SpareTracks", about, impl.SpareTracks, in, sheet)
	}
	checkAlone := func(about string, sheet []impl.Hole, numbers []int) {
		checkBoth(t, done, "TracksUsed", about, impl.TracksUsed, sheet)
		for _, n := range numbers {
			checkBoth(t, done, "OpenTime", about, impl.OpenTime, sheet, n)
			checkBoth(t, done, "CrowdedSteps", about, impl.CrowdedSteps, sheet, n)
		}
	}
	for _, x := range readTests() {
		check("a sheet", x.in, x.sheet)
		checkAlone("a sheet", x.sheet, []int{0, 1})
	}
	for inName, in := range allInstruments() {
		for _, sheet := range [][]impl.Hole{nil, twoHoles(), rowHoles(30), exampleSheet()} {
			check(inName, in, sheet)
		}
	}
	for name, sheet := range goodSheets() {
		check(name, twoPitches(), sheet)
		check(name, instrument(1, pitchesFrom(77, 20)...), sheet)
		checkAlone(name, sheet, numbers)
	}
	for name, sheet := range noSheets() {
		check(name, twoPitches(), sheet)
		checkAlone(name, sheet, []int{0, 7})
	}
	checkDone(t, done, "ReadBack", "IsLayOut", "SpareTracks", "TracksUsed", "OpenTime", "CrowdedSteps")
}

// TestPromise33LayoutsAreNew checks that results share no memory with an instrument, a score or a sheet, also of their spare capacity.
func TestPromise33LayoutsAreNew(t *testing.T) {
	for _, x := range layoutTests() {
		pitches := newGuard(x.in.Pitches, 61)
		in := impl.Instrument{Pitches: pitches.arg, Repeat: x.in.Repeat}
		score, sheet := newGuard(x.l, note(62, 998, 1)), newGuard(x.sheet, hole(1, 1996, 1997))
		layout, laid := impl.LayOut(in, score.arg)
		overwriteAll(layout, hole(-5, -5, -5))
		moved, far := impl.LayOutFrom(in, score.arg, 0)
		overwriteAll(moved, hole(-5, -5, -5))
		back, read := impl.ReadBack(in, sheet.arg)
		overwriteAll(back, note(-5, -5, -5))
		used, fine := impl.TracksUsed(sheet.arg)
		overwriteAll(used, -5)
		spare, known := impl.SpareTracks(in, sheet.arg)
		overwriteAll(spare, -5)
		if !laid || !far || !read || !fine || !known {
			t.Error("fails", x, laid, far, read, fine, known)
		}
		pitches.check(t, "the pitches")
		score.check(t, "the score")
		sheet.check(t, "the sheet")
	}
}
