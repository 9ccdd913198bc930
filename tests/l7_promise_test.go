package tests

import (
	"math/rand"
	"slices"
	"sort"
	"testing"

	"loop.example/g00949/impl"
)

// lostBy is the definition of the loss of a transposition in the document.
func lostBy(in impl.Instrument, l []impl.Note, by int) int {
	lost := 0
	for _, x := range l {
		if !slices.Contains(in.Pitches, x.Pitch+by) {
			lost++
		}
	}
	return lost
}

// bestOf is the definition of the best transposition in -most..most, from the losses of all.
func bestOf(most int, loss func(by int) int) (int, int) {
	all := pitchesFrom(-most, 2*most+1)
	losses := map[int]int{}
	for _, by := range all {
		losses[by] = loss(by)
	}
	far := func(by int) int { return max(by, -by) }
	sort.Slice(all, func(i, j int) bool {
		a, b := all[i], all[j]
		if losses[a] != losses[b] {
			return losses[a] < losses[b]
		}
		return far(a) < far(b) || far(a) == far(b) && a < b
	})
	return all[0], losses[all[0]]
}

// nearestOf is the definition of the nearest pitch among those that differ by a multiple of a number: it looks at all differences, from 0 on.
func nearestOf(in impl.Instrument, pitch, number int) (int, bool) {
	for far := 0; far <= 72; far += number {
		for _, other := range []int{pitch - far, pitch + far} {
			if slices.Contains(in.Pitches, other) {
				return other, true
			}
		}
	}
	return 0, false
}

// foldOf is the definition of a folded score of transposed notes, by sounding steps, and of how many are left out.
func foldOf(in impl.Instrument, l []impl.Note, by int) ([]impl.Note, int) {
	var taken [97][1100]bool
	var kept []impl.Note
	for _, x := range l {
		pitch, folds := nearestOf(in, x.Pitch+by, 12)
		if x.Pitch+by < 24 || x.Pitch+by > 96 || !folds {
			continue
		}
		steps := taken[pitch][x.Start : x.Start+x.Length]
		if slices.Contains(steps, true) {
			continue
		}
		for i := range steps {
			steps[i] = true
		}
		kept = append(kept, note(pitch, x.Start, x.Length))
	}
	return inOrder(kept), len(l) - len(kept)
}

// checkTransposing checks the first part of the seventh promise, and losses against their definition. It returns the best transposition.
func checkTransposing(t *testing.T, in impl.Instrument, l []impl.Note) int {
	t.Helper()
	best, least, ok := impl.BestTransposition(in, l)
	wantBest, wantLeast := bestOf(24, func(by int) int { return lostBy(in, l, by) })
	if best != wantBest || least != wantLeast || !ok {
		t.Fatal("best", in, l, best, least, ok, wantBest, wantLeast)
	}
	if loss, ok := impl.TransposeLoss(in, l, best); loss != least || !ok {
		t.Fatal("not the loss of the best", in, l, best, least, loss, ok)
	}
	table, ok := impl.LossTable(in, l)
	if len(table) != 49 || !ok {
		t.Fatal("table", in, l, table, ok)
	}
	var full []int
	for _, by := range allTranspositions() {
		loss, ok := impl.TransposeLoss(in, l, by)
		if loss != lostBy(in, l, by) || table[by+24] != loss || !ok {
			t.Fatal("loss", in, l, by, loss, table, ok)
		}
		if loss < least {
			t.Fatal("a less loss than the least one", in, l, by, loss, least)
		}
		if loss == 0 {
			full = append(full, by)
		}
	}
	if got, ok := impl.FullTranspositions(in, l); !ok || !slices.Equal(got, full) {
		t.Fatal("full", in, l, got, full, ok)
	}
	return best
}

// checkPitches checks the second part of the seventh promise for all pitches, and the nearest ones and the classes. It returns how many are folded.
func checkPitches(t *testing.T, in impl.Instrument) int {
	t.Helper()
	folded := 0
	for pitch := 24; pitch <= 96; pitch++ {
		want, _ := nearestOf(in, pitch, 1)
		if got, ok := impl.NearestPitch(in, pitch); got != want || !ok {
			t.Fatal("nearest", in, pitch, got, want, ok)
		}
		want, fine := nearestOf(in, pitch, 12)
		got, ok := impl.FoldPitch(in, pitch)
		if got != want || ok != fine {
			t.Fatal("folded", in, pitch, got, want, ok)
		}
		if !ok {
			continue
		}
		if !slices.Contains(in.Pitches, got) || (got-pitch)%12 != 0 {
			t.Fatal("folded to no pitch of the instrument", in, pitch, got)
		}
		folded++
	}
	var want []int
	for class := range 12 {
		if slices.ContainsFunc(in.Pitches, func(pitch int) bool { return pitch%12 == class }) {
			want = append(want, class)
		}
	}
	if got, ok := impl.PlayableClasses(in); !ok || !slices.Equal(got, want) {
		t.Fatal("classes", in, got, want, ok)
	}
	return folded
}

// checkFolding checks the second part of the seventh promise for the notes of a score. It returns how many are left out.
func checkFolding(t *testing.T, in impl.Instrument, l []impl.Note) int {
	t.Helper()
	folded, leftOut, ok := impl.FoldScore(in, l)
	want, left := foldOf(in, l, 0)
	if leftOut != left || !ok || !slices.Equal(folded, want) {
		t.Fatal("folded", in, l, folded, want, leftOut, left, ok)
	}
	if !isScore(folded) || len(folded)+leftOut != len(l) {
		t.Fatal("no score, or not as many notes", in, l, folded, leftOut)
	}
	for _, x := range folded {
		if !slices.Contains(in.Pitches, x.Pitch) {
			t.Fatal("folded to no pitch of the instrument", in, l, x)
		}
	}
	return leftOut
}

// checkBestFold holds the best transposition before a fold against the folded scores of all. It returns this transposition.
func checkBestFold(t *testing.T, in impl.Instrument, l []impl.Note) int {
	t.Helper()
	by, leftOut, ok := impl.BestFold(in, l)
	wantBy, want := bestOf(11, func(by int) int {
		_, left := foldOf(in, l, by)
		return left
	})
	if by != wantBy || leftOut != want || !ok {
		t.Fatal("best fold", in, l, by, leftOut, ok, wantBy, want)
	}
	for other := -11; other <= 11; other++ {
		// Some pitches may not be valid then.
		moved, ok := impl.TransposeScore(l, other)
		if !ok {
			continue
		}
		_, left, ok := impl.FoldScore(in, moved)
		if left < leftOut || other == by && left != leftOut || !ok {
			t.Fatal("not the fewest left out", in, l, by, leftOut, other, left, ok)
		}
	}
	return by
}

// pitchesAmong returns an instrument with up to n of the pitches from low on, each with the same chance.
func pitchesAmong(r *rand.Rand, low, all, n int) impl.Instrument {
	var pitches []int
	for _, i := range r.Perm(all)[:1+r.Intn(n)] {
		pitches = append(pitches, low+i)
	}
	slices.Sort(pitches)
	return instrument(1+r.Intn(20), pitches...)
}

// TestPromise7AllSmallInstruments takes all instruments with one or two pitches, and all pitches.
func TestPromise7AllSmallInstruments(t *testing.T) {
	folded := 0
	for low := 24; low <= 96; low++ {
		folded += checkPitches(t, instrument(1, low))
		for high := low + 1; high <= 96; high++ {
			folded += checkPitches(t, instrument(1, low, high))
		}
	}
	if folded < 10000 {
		t.Error("too few pitches are folded", folded)
	}
}

// TestPromise7AllOctaves takes all instruments whose pitches are those of one residue, or two near ones, modulo 12.
func TestPromise7AllOctaves(t *testing.T) {
	for class := range 12 {
		var pitches []int
		for pitch := 24 + class; pitch <= 96; pitch += 12 {
			pitches = append(pitches, pitch)
		}
		for set := 1; set < 1<<len(pitches); set++ {
			var some, pairs []int
			for i, pitch := range pitches {
				if set>>i&1 == 1 {
					some = append(some, pitch)
					pairs = append(pairs, pitch-1, pitch)
				}
			}
			checkPitches(t, instrument(1, some...))
			if pairs[0] >= 24 {
				checkPitches(t, instrument(1, pairs...))
			}
		}
	}
}

func TestPromise7SomeInstruments(t *testing.T) {
	r := rand.New(rand.NewSource(23))
	for _, in := range goodInstruments() {
		checkPitches(t, in)
	}
	for range 1000 {
		checkPitches(t, pitchesAmong(r, 24, 73, 20))
		checkPitches(t, pitchesAmong(r, 24+r.Intn(50), 20, 20))
	}
}

// TestPromise7AllSingleNotes takes all instruments with one pitch, and all pitches of a score with one note.
func TestPromise7AllSingleNotes(t *testing.T) {
	best, bestFolds := map[int]bool{}, map[int]bool{}
	for has := 24; has <= 96; has++ {
		for pitch := 24; pitch <= 96; pitch++ {
			in, l := instrument(1, has), oneNote(pitch)
			best[checkTransposing(t, in, l)] = true
			checkFolding(t, in, l)
			bestFolds[checkBestFold(t, in, l)] = true
		}
	}
	if len(best) != 49 || len(bestFolds) != 23 {
		t.Error("not all transpositions are the best ones", len(best), len(bestFolds))
	}
}

// TestPromise7AllNearPairs takes all instruments with two pitches that lie on both sides of a score's note, or on one.
func TestPromise7AllNearPairs(t *testing.T) {
	for low := 34; low <= 86; low++ {
		for high := low + 1; high <= 86; high++ {
			in := instrument(1, low, high)
			checkTransposing(t, in, oneNote(60))
			checkTransposing(t, in, []impl.Note{note(60, 0, 1), note(64, 2, 1), note(60, 3, 1)})
			checkBestFold(t, in, []impl.Note{note(60, 0, 2), note(66, 0, 2), note(61, 2, 2), note(73, 3, 1)})
		}
	}
}

func TestPromise7GoodScores(t *testing.T) {
	for _, in := range goodInstruments() {
		for _, l := range goodScores() {
			checkTransposing(t, in, l)
			checkFolding(t, in, l)
			checkBestFold(t, in, l)
		}
	}
}

func TestPromise7SomeScores(t *testing.T) {
	r := rand.New(rand.NewSource(24))
	best, bestFolds := map[int]bool{}, map[int]bool{}
	shorter := 0
	check := func(in impl.Instrument, l []impl.Note) {
		best[checkTransposing(t, in, l)] = true
		bestFolds[checkBestFold(t, in, l)] = true
		if leftOut := checkFolding(t, in, l); leftOut > 0 && leftOut < len(l) {
			shorter++
		}
	}
	for range 400 {
		check(someInstrument(r), busyScore(r))
		check(pitchesAmong(r, 24, 73, 20), someScore(r))
		// Scores of long notes in many octaves, and such at both ends of the pitches.
		check(pitchesAmong(r, 24+r.Intn(50), 20, 12), scoreWithin(r, 24, 73, 1+r.Intn(60), 1+r.Intn(99)))
		check(pitchesAmong(r, 24, 20, 3), scoreWithin(r, 24, 12, 1+r.Intn(60), 1+r.Intn(9)))
		check(pitchesAmong(r, 77, 20, 3), scoreWithin(r, 85, 12, 1+r.Intn(60), 1+r.Intn(9)))
	}
	if len(best) != 49 || len(bestFolds) != 23 || shorter < 500 {
		t.Error("too few transpositions or folded scores", len(best), len(bestFolds), shorter)
	}
}

// TestPromise7AllShortScores folds all scores of three octaves and three steps.
func TestPromise7AllShortScores(t *testing.T) {
	const steps = 3
	var notes []impl.Note
	for start := range steps {
		for _, pitch := range []int{48, 60, 72} {
			for length := 1; length <= steps-start; length++ {
				notes = append(notes, note(pitch, start, length))
			}
		}
	}
	scores := moreScores(nil, notes)
	// Each of the three pitches can have 13 rows of notes in three steps.
	if len(scores) != 13*13*13 {
		t.Error("scores", len(scores))
	}
	instruments := []impl.Instrument{instrument(1, 60), instrument(20, 48, 60), instrument(1, 36, 60), instrument(1, 48, 72), instrument(1, 61), instrument(1, 61, 72)}
	for _, l := range scores {
		for _, in := range instruments {
			checkFolding(t, in, l)
		}
		checkBestFold(t, instruments[3], l)
		checkBestFold(t, instruments[5], l)
	}
}

// TestPromise7LeftOutNotes checks that each note that is left out of a folded score has no folded pitch or meets one that stays before it.
func TestPromise7LeftOutNotes(t *testing.T) {
	r := rand.New(rand.NewSource(25))
	met, none := 0, 0
	for range 2000 {
		in, l := pitchesAmong(r, 50, 20, 8), scoreWithin(r, 36, 40, 1+r.Intn(40), 1+r.Intn(9))
		folded, _, ok := impl.FoldScore(in, l)
		var kept []impl.Note
		for _, x := range l {
			pitch, folds := nearestOf(in, x.Pitch, 12)
			x.Pitch = pitch
			switch {
			case !folds:
				none++
			case isScore(inOrder(append(slices.Clone(kept), x))):
				kept = append(kept, x)
			default:
				met++
			}
		}
		if !ok || !slices.Equal(folded, inOrder(kept)) {
			t.Fatal(in, l, folded, kept, ok)
		}
	}
	if met < 1000 || none < 1000 {
		t.Error("too few notes are left out", met, none)
	}
}

func TestPromise33TransposedScores(t *testing.T) {
	done := map[string]int{}
	check := func(about string, in impl.Instrument, l []impl.Note, numbers []int) {
		checkBoth(t, done, "LossTable", about, impl.LossTable, in, l)
		checkBoth(t, done, "BestTransposition", about, impl.BestTransposition, in, l)
		checkBoth(t, done, "FullTranspositions", about, impl.FullTranspositions, in, l)
		checkBoth(t, done, "FoldScore", about, impl.FoldScore, in, l)
		checkBoth(t, done, "BestFold", about, impl.BestFold, in, l)
		for _, by := range numbers {
			checkBoth(t, done, "TransposeLoss", about, impl.TransposeLoss, in, l, by)
		}
	}
	all := append(beyondTranspositions(), -24, -1, 0, 1, 24)
	for inName, in := range allInstruments() {
		for name, l := range goodScores() {
			check(inName+" and "+name, in, l, []int{0, 1, 25})
		}
		check(inName, in, exampleNotes(), all)
	}
	for _, x := range foldTests() {
		check("a score", x.in, x.l, all)
	}
	for name, l := range noScores() {
		check(name, threePitches(), l, []int{0, 1})
	}
	checkDone(t, done, "LossTable", "BestTransposition", "FullTranspositions", "FoldScore", "BestFold", "TransposeLoss")
}

func TestPromise33FoldedPitches(t *testing.T) {
	done := map[string]int{}
	for name, in := range allInstruments() {
		checkBoth(t, done, "PlayableClasses", name, impl.PlayableClasses, in)
		for _, pitch := range append(beyondPitches(), 24, 25, 48, 59, 60, 61, 62, 72, 95, 96) {
			checkBoth(t, done, "NearestPitch", name, impl.NearestPitch, in, pitch)
			checkBoth(t, done, "FoldPitch", name, impl.FoldPitch, in, pitch)
		}
	}
	checkDone(t, done, "PlayableClasses", "NearestPitch", "FoldPitch")
}

// TestPromise33FoldedScoresAreNew checks that results share no memory with an instrument or a score, also of their spare capacity.
func TestPromise33FoldedScoresAreNew(t *testing.T) {
	for _, x := range foldTests() {
		pitches, score := newGuard(x.in.Pitches, 61), newGuard(x.l, note(62, 998, 1))
		in := impl.Instrument{Pitches: pitches.arg, Repeat: x.in.Repeat}
		table, lost := impl.LossTable(in, score.arg)
		overwriteAll(table, -5)
		full, fine := impl.FullTranspositions(in, score.arg)
		overwriteAll(full, -5)
		folded, _, folds := impl.FoldScore(in, score.arg)
		overwriteAll(folded, note(-5, -5, -5))
		classes, plays := impl.PlayableClasses(in)
		overwriteAll(classes, -5)
		if !lost || !fine || !folds || !plays {
			t.Error("fails", x, lost, fine, folds, plays)
		}
		pitches.check(t, "the pitches")
		score.check(t, "the score")
	}
}
