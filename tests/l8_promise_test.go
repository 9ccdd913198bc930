package tests

import (
	"math/rand"
	"slices"
	"testing"

	"loop.example/g00949/impl"
)

// thinPart is a part of a score that an instrument can play, with its loss and the number of voices that it needs.
type thinPart struct {
	kept   []int
	loss   int
	voices int
}

// notesOf returns the notes of a score with some indices.
func notesOf(l []impl.Note, kept []int) []impl.Note {
	var notes []impl.Note
	for _, i := range kept {
		notes = append(notes, l[i])
	}
	return notes
}

// voicesOf is the definition of the greatest number of notes in one step, by sounding steps.
func voicesOf(l []impl.Note) int {
	var sounding [1100]int
	for _, x := range l {
		for step := x.Start; step < x.Start+x.Length; step++ {
			sounding[step]++
		}
	}
	return slices.Max(sounding[:])
}

// lossWithout is the definition of the loss of a part.
func lossWithout(l []impl.Note, kept []int) int {
	loss := 0
	for i, x := range l {
		if !slices.Contains(kept, i) {
			loss += x.Length
		}
	}
	return loss
}

// partsFrom returns all parts of a score with n notes that begin with one, in lexicographic order: what is the beginning of another one stands in front of it.
func partsFrom(kept []int, n int) [][]int {
	all := [][]int{kept}
	next := 0
	if len(kept) > 0 {
		next = kept[len(kept)-1] + 1
	}
	for i := next; i < n; i++ {
		all = append(all, partsFrom(append(slices.Clone(kept), i), n)...)
	}
	return all
}

// partsPlayed is the definition of the parts that an instrument can play with any number of voices, in lexicographic order.
func partsPlayed(in impl.Instrument, l []impl.Note) []thinPart {
	var parts []thinPart
	for _, kept := range partsFrom(nil, len(l)) {
		notes := notesOf(l, kept)
		if len(lacking(in, notes)) == 0 && len(fastPairs(in.Repeat, notes)) == 0 {
			parts = append(parts, thinPart{kept, lossWithout(l, kept), voicesOf(notes)})
		}
	}
	return parts
}

// withVoices returns the parts that are playable with a number of voices.
func withVoices(parts []thinPart, voices int) []thinPart {
	var some []thinPart
	for _, x := range parts {
		if x.voices <= voices {
			some = append(some, x)
		}
	}
	return some
}

// bestParts returns those with the least loss, in their order.
func bestParts(parts []thinPart) []thinPart {
	var best []thinPart
	for _, x := range parts {
		if len(best) > 0 && x.loss < best[0].loss {
			best = nil
		}
		if len(best) == 0 || x.loss == best[0].loss {
			best = append(best, x)
		}
	}
	return best
}

// greedyOf is the definition of the greedy part among the playable ones.
func greedyOf(parts []thinPart, n int) thinPart {
	greedy := parts[0]
	for i := range n {
		longer := append(slices.Clone(greedy.kept), i)
		at := slices.IndexFunc(parts, func(x thinPart) bool { return slices.Equal(x.kept, longer) })
		if at >= 0 {
			greedy = parts[at]
		}
	}
	return greedy
}

// boundOf is the definition of the bound of losses.
func boundOf(in impl.Instrument, l []impl.Note) int {
	bound := 0
	for _, x := range l {
		if !slices.Contains(in.Pitches, x.Pitch) {
			bound += x.Length
		}
	}
	var used []int
	for _, pair := range fastPairs(in.Repeat, l) {
		a, b := l[pair[0]], l[pair[1]]
		if slices.Contains(in.Pitches, a.Pitch) && !slices.Contains(used, pair[0]) && !slices.Contains(used, pair[1]) {
			bound += min(a.Length, b.Length)
			used = append(used, pair...)
		}
	}
	return bound
}

// alwaysOf returns the indices that all of some parts of a score with n notes keep.
func alwaysOf(parts []thinPart, n int) []int {
	var always []int
	for i := range n {
		if !slices.ContainsFunc(parts, func(x thinPart) bool { return !slices.Contains(x.kept, i) }) {
			always = append(always, i)
		}
	}
	return always
}

// thinCounts counts cases that are not ordinary, so that a test cannot pass without them.
type thinCounts struct{ several, worseGreedy, lessBound, equalBound, unreached, all, none, some int }

func (c *thinCounts) add(best []thinPart, greedy, bound int, always []int) {
	least := best[0].loss
	count := func(n *int, is bool) {
		if is {
			*n++
		}
	}
	count(&c.several, len(best) > 1)
	count(&c.worseGreedy, greedy > least)
	count(&c.lessBound, bound < least)
	count(&c.equalBound, bound == least && least > 0)
	count(&c.all, len(always) > 0 && len(best) > 1)
	count(&c.none, len(always) == 0 && len(best[0].kept) > 0)
	count(&c.some, len(always) > 0 && len(always) < len(best[0].kept))
}

// enough reports whether each kind of case was met at least n times.
func (c *thinCounts) enough(n int) bool {
	return min(c.several, c.worseGreedy, c.lessBound, c.equalBound, c.unreached, c.all, c.none, c.some) >= n
}

// checkThinning checks the eighth promise for a number of voices, and what remains of a score against the definitions, of which parts are all that the instrument can play.
func checkThinning(t *testing.T, in impl.Instrument, l []impl.Note, voices int, parts []thinPart, counts *thinCounts) {
	t.Helper()
	playable := withVoices(parts, voices)
	best := bestParts(playable)
	kept, least, ok := impl.LeastLoss(in, l, voices)
	if !ok || least != best[0].loss || !slices.Equal(kept, best[0].kept) {
		t.Fatal("least", in, l, voices, kept, least, ok, best[0])
	}
	greedy, ok := impl.GreedyPart(in, l, voices)
	if !ok || !slices.Equal(greedy, greedyOf(playable, len(l)).kept) {
		t.Fatal("greedy", in, l, voices, greedy, ok)
	}
	greedyLoss, ok := impl.ThinLoss(l, greedy)
	if !ok || least > greedyLoss || greedyLoss != lossWithout(l, greedy) {
		t.Fatal("the least loss is greater than the greedy one", in, l, voices, least, greedyLoss, ok)
	}
	bound, ok := impl.LossBound(in, l, voices)
	if !ok || bound > least || bound != boundOf(in, l) {
		t.Fatal("bound", in, l, voices, bound, least, ok)
	}
	always, ok := impl.AlwaysKept(in, l, voices)
	if !ok || !slices.Equal(always, alwaysOf(best, len(l))) {
		t.Fatal("always", in, l, voices, always, ok)
	}
	for _, part := range [][]int{kept, greedy, always} {
		if is, ok := impl.IsThinned(in, l, voices, part); !is || !ok {
			t.Fatal("not playable", in, l, voices, part, is, ok)
		}
	}
	counts.add(best, greedyLoss, bound, always)
}

// checkAllParts holds each part of a score against the definitions, and its loss against the bound and the least loss.
func checkAllParts(t *testing.T, in impl.Instrument, l []impl.Note, voices int, parts []thinPart) {
	t.Helper()
	playable := withVoices(parts, voices)
	bound, _ := impl.LossBound(in, l, voices)
	_, least, _ := impl.LeastLoss(in, l, voices)
	for _, kept := range partsFrom(nil, len(l)) {
		loss, ok := impl.ThinLoss(l, kept)
		if !ok || loss != lossWithout(l, kept) {
			t.Fatal("loss", l, kept, loss, ok)
		}
		is, fine := impl.IsThinned(in, l, voices, kept)
		want := len(playable) > 0 && slices.Equal(playable[0].kept, kept)
		if is != want || !fine {
			t.Fatal("playable", in, l, voices, kept, is, fine)
		}
		if is && (loss < least || loss < bound) {
			t.Fatal("a less loss than the least one or the bound", in, l, voices, kept, loss, least, bound)
		}
		// Both lists are in order.
		if want {
			playable = playable[1:]
		}
		notes, ok := impl.KeptScore(l, kept)
		if !ok || !slices.Equal(notes, notesOf(l, kept)) || !isScore(notes) {
			t.Fatal("kept", l, kept, notes, ok)
		}
		if can, ok := impl.CanPlay(in, notes); is && !can || !ok {
			t.Fatal("it cannot be played", in, l, voices, kept, can, ok)
		}
	}
	if len(playable) > 0 {
		t.Fatal("parts are not looked at", in, l, voices, playable)
	}
}

// checkVoices holds the number of voices that some losses need against the least losses of all numbers.
func checkVoices(t *testing.T, in impl.Instrument, l []impl.Note, parts []thinPart, losses []int, counts *thinCounts) {
	t.Helper()
	var least []int
	for voices := 1; voices <= 20; voices++ {
		least = append(least, bestParts(withVoices(parts, voices))[0].loss)
	}
	for _, loss := range append(losses, least...) {
		want := 1 + slices.IndexFunc(least, func(n int) bool { return n <= loss })
		got, ok := impl.VoicesFor(in, l, loss)
		if got != want || ok != (want > 0) {
			t.Fatal("voices", in, l, loss, got, want, ok)
		}
		if !ok {
			counts.unreached++
		}
	}
}

// joinedOf is the definition of joined repeats: it looks for the last note of a pitch among those that are not left out.
func joinedOf(in impl.Instrument, l []impl.Note) ([]impl.Note, bool) {
	joined := slices.Clone(l)
	leftOut := make([]bool, len(l))
	for j, x := range l {
		for i := j - 1; i >= 0; i-- {
			if leftOut[i] || l[i].Pitch != x.Pitch {
				continue
			}
			if slices.Contains(in.Pitches, x.Pitch) && x.Start-l[i].Start < in.Repeat {
				leftOut[j] = true
				joined[i].Length = x.Start + x.Length - l[i].Start
			}
			break
		}
	}
	var there []impl.Note
	for i, x := range joined {
		if !leftOut[i] {
			there = append(there, x)
		}
	}
	return there, isScore(there)
}

// checkJoined holds the joined repeats of a score against their definition, and what sounds then against what sounded: nothing becomes silent, and no repeat is fast any more. It returns how many notes are left out, or -1 if one would be too long.
func checkJoined(t *testing.T, in impl.Instrument, l []impl.Note) int {
	t.Helper()
	got, ok := impl.JoinRepeats(in, l)
	want, fine := joinedOf(in, l)
	if ok != fine || ok && !slices.Equal(got, want) || !ok && got != nil {
		t.Fatal("joined", in, l, got, want, ok)
	}
	if !ok {
		return -1
	}
	for _, pair := range fastPairs(in.Repeat, got) {
		if slices.Contains(in.Pitches, got[pair[0]].Pitch) {
			t.Fatal("a fast repeat is there", in, l, got, pair)
		}
	}
	for _, x := range l {
		sounds := func(y impl.Note) bool {
			return y.Pitch == x.Pitch && y.Start <= x.Start && x.Start+x.Length <= y.Start+y.Length
		}
		if !slices.ContainsFunc(got, sounds) {
			t.Fatal("a note does not sound any more", in, l, got, x)
		}
	}
	return len(l) - len(got)
}

// thinScore returns a score with at most twelve notes of some pitches from 60 on.
func thinScore(r *rand.Rand, pitches, starts, lengths int) []impl.Note {
	l := scoreWithin(r, 60, pitches, starts, lengths)
	return l[:min(len(l), 12)]
}

func TestPromise8GoodScores(t *testing.T) {
	var counts thinCounts
	for _, in := range goodInstruments() {
		for _, l := range thinScores() {
			parts := partsPlayed(in, l)
			for _, voices := range []int{1, 2, 5, 11, 12, 20} {
				checkThinning(t, in, l, voices, parts, &counts)
			}
			checkVoices(t, in, l, parts, []int{0, 1, 2000}, &counts)
			checkJoined(t, in, l)
			if got, ok := impl.MostVoices(l); got != voicesOf(l) || !ok {
				t.Fatal("voices", l, got, ok)
			}
		}
	}
}

// TestPromise8AllShortScores takes all scores of two pitches in four steps.
func TestPromise8AllShortScores(t *testing.T) {
	const steps = 4
	var notes []impl.Note
	for start := range steps {
		for pitch := 60; pitch <= 61; pitch++ {
			for length := 1; length <= steps-start; length++ {
				notes = append(notes, note(pitch, start, length))
			}
		}
	}
	scores := moreScores(nil, notes)
	// Each of the two pitches can have 34 rows of notes in four steps.
	if len(scores) != 34*34 {
		t.Error("scores", len(scores))
	}
	var counts thinCounts
	for _, l := range scores {
		for repeat := 1; repeat <= steps+1; repeat++ {
			for _, in := range []impl.Instrument{instrument(repeat, 60, 61), instrument(repeat, 61)} {
				parts := partsPlayed(in, l)
				for voices := 1; voices <= 3; voices++ {
					checkThinning(t, in, l, voices, parts, &counts)
				}
				checkVoices(t, in, l, parts, allIndices(9), &counts)
				checkAllParts(t, in, l, 1+repeat%2, parts)
				checkJoined(t, in, l)
			}
		}
	}
	if !counts.enough(100) {
		t.Error("too few cases", counts)
	}
}

// TestPromise8AllThreePitches takes all scores of three pitches in three steps.
func TestPromise8AllThreePitches(t *testing.T) {
	const steps = 3
	var notes []impl.Note
	for start := range steps {
		for pitch := 60; pitch <= 62; pitch++ {
			for length := 1; length <= steps-start; length++ {
				notes = append(notes, note(pitch, start, length))
			}
		}
	}
	scores := moreScores(nil, notes)
	// Each of the three pitches can have 13 rows of notes in three steps.
	if len(scores) != 13*13*13 {
		t.Error("scores", len(scores))
	}
	var counts thinCounts
	in := instrument(2, 60, 61, 62)
	for _, l := range scores {
		parts := partsPlayed(in, l)
		for voices := 1; voices <= 3; voices++ {
			checkThinning(t, in, l, voices, parts, &counts)
		}
		if got, ok := impl.MostVoices(l); got != voicesOf(l) || !ok {
			t.Fatal("voices", l, got, ok)
		}
	}
	if counts.several < 1000 || counts.worseGreedy < 500 {
		t.Error("too few cases", counts)
	}
}

func TestPromise8SomeScores(t *testing.T) {
	r := rand.New(rand.NewSource(26))
	var counts thinCounts
	full := 0
	check := func(l []impl.Note, repeat int) {
		in := pitchesAmong(r, 60, 6, 6)
		in.Repeat = repeat
		parts := partsPlayed(in, l)
		for _, voices := range []int{1, 2, 3 + r.Intn(18)} {
			checkThinning(t, in, l, voices, parts, &counts)
		}
		checkVoices(t, in, l, parts, []int{0, r.Intn(20), r.Intn(2001)}, &counts)
		if len(l) == 12 {
			full++
		}
	}
	for range 150 {
		check(thinScore(r, 6, 10, 6), 1+r.Intn(6))
		check(thinScore(r, 2, 12, 2), 1+r.Intn(6))
		check(thinScore(r, 6, 200, 99), 1+r.Intn(20))
		check(thinScore(r, 6, 3, 3), 1+r.Intn(20))
		check(thinScore(r, 3, 1000, 40), 20)
	}
	if !counts.enough(50) || full < 300 {
		t.Error("too few cases", counts, full)
	}
}

func TestPromise8AllPartsOfSomeScores(t *testing.T) {
	r := rand.New(rand.NewSource(27))
	for range 60 {
		in, l := pitchesAmong(r, 60, 6, 6), thinScore(r, 6, 12, 6)
		in.Repeat = 1 + r.Intn(6)
		checkAllParts(t, in, l, 1+r.Intn(4), partsPlayed(in, l))
	}
}

func TestJoinedRepeatsByTheirDefinition(t *testing.T) {
	r := rand.New(rand.NewSource(28))
	tooLong, shorter := 0, 0
	for range 4000 {
		in := pitchesAmong(r, 60, 4, 4)
		left := checkJoined(t, in, thinScore(r, 4, 1+r.Intn(60), 1+r.Intn(20)))
		// Long notes that nearly are too long then.
		last := checkJoined(t, in, lengthsAt(0, 1+r.Intn(3), 3+r.Intn(18), 75+r.Intn(25)))
		for _, n := range []int{left, last} {
			if n < 0 {
				tooLong++
			}
			if n > 0 {
				shorter++
			}
		}
	}
	if tooLong < 300 || shorter < 1000 {
		t.Error("too few repeats are joined", tooLong, shorter)
	}
}

func TestMostVoicesByTheirDefinition(t *testing.T) {
	r := rand.New(rand.NewSource(29))
	found := map[int]bool{}
	for range 1500 {
		l := thinScore(r, 1+r.Intn(30), 1+r.Intn(50), 1+r.Intn(99))
		want := voicesOf(l)
		if got, ok := impl.MostVoices(l); got != want || !ok {
			t.Fatal(l, got, want, ok)
		}
		found[want] = true
	}
	if len(found) != 13 {
		t.Error("too few numbers of voices", found)
	}
}

func TestPromise33ThinnedScores(t *testing.T) {
	done := map[string]int{}
	check := func(about string, in impl.Instrument, l []impl.Note, numbers []int) {
		checkBoth(t, done, "JoinRepeats", about, impl.JoinRepeats, in, l)
		for _, n := range numbers {
			checkBoth(t, done, "LeastLoss", about, impl.LeastLoss, in, l, n)
			checkBoth(t, done, "GreedyPart", about, impl.GreedyPart, in, l, n)
			checkBoth(t, done, "LossBound", about, impl.LossBound, in, l, n)
			checkBoth(t, done, "AlwaysKept", about, impl.AlwaysKept, in, l, n)
			checkBoth(t, done, "VoicesFor", about, impl.VoicesFor, in, l, n)
			checkBoth(t, done, "IsThinned", about, impl.IsThinned, in, l, n, []int{0})
		}
	}
	all := slices.Concat(badVoices(), badLosses(), []int{1, 2, 12, 13, 19, 20, 2000})
	for inName, in := range goodInstruments() {
		for name, l := range thinScores() {
			check(inName+" and "+name, in, l, []int{0, 1, 20})
		}
		check(inName, in, thinnedNotes(), all)
	}
	for name, in := range badInstruments() {
		check(name, in, thinnedNotes(), []int{0, 1, 20, 21})
		check(name, in, nil, []int{1})
	}
	for _, x := range joinTests() {
		check("a score", x.in, x.l, []int{-1, 0, 1, 20, 21})
	}
	for name, l := range noThinScores() {
		check(name, twoSteps(), l, []int{1})
	}
	checkDone(t, done, "JoinRepeats", "LeastLoss", "GreedyPart", "LossBound", "AlwaysKept", "VoicesFor", "IsThinned")
}

func TestPromise33PartsOfScores(t *testing.T) {
	done := map[string]int{}
	check := func(about string, l []impl.Note, kept []int) {
		checkBoth(t, done, "ThinLoss", about, impl.ThinLoss, l, kept)
		checkBoth(t, done, "KeptScore", about, impl.KeptScore, l, kept)
		for _, voices := range []int{0, 1, 20, 21} {
			checkBoth(t, done, "IsThinned", about, impl.IsThinned, twoSteps(), l, voices, kept)
		}
	}
	for name, l := range thinScores() {
		checkBoth(t, done, "MostVoices", name, impl.MostVoices, l)
		for _, kept := range append(badParts(len(l)), nil, []int{}, []int{0}, []int{1}, []int{0, 1}, allIndices(len(l))) {
			check(name, l, kept)
		}
	}
	for name, l := range noThinScores() {
		checkBoth(t, done, "MostVoices", name, impl.MostVoices, l)
		for _, kept := range [][]int{{-1}, {0}, allIndices(13)} {
			check(name, l, kept)
		}
	}
	checkDone(t, done, "ThinLoss", "KeptScore", "IsThinned", "MostVoices")
}

// TestPromise33ThinnedScoresAreNew checks that results share no memory with an instrument, a score or a part, also of their spare capacity.
func TestPromise33ThinnedScoresAreNew(t *testing.T) {
	for _, x := range partTests() {
		pitches, score, part := newGuard(x.in.Pitches, 61), newGuard(x.l, note(62, 998, 1)), newGuard(x.kept, 1)
		in := impl.Instrument{Pitches: pitches.arg, Repeat: x.in.Repeat}
		kept, can := impl.KeptScore(score.arg, part.arg)
		overwriteAll(kept, note(-5, -5, -5))
		least, _, thins := impl.LeastLoss(in, score.arg, x.voices)
		overwriteAll(least, -5)
		greedy, keeps := impl.GreedyPart(in, score.arg, x.voices)
		overwriteAll(greedy, -5)
		always, remains := impl.AlwaysKept(in, score.arg, x.voices)
		overwriteAll(always, -5)
		if !can || !thins || !keeps || !remains {
			t.Error("fails", x, can, thins, keeps, remains)
		}
		pitches.check(t, "the pitches")
		score.check(t, "the score")
		part.check(t, "the part")
	}
	for _, x := range joinTests() {
		score := newGuard(x.l, note(62, 998, 1))
		joined, ok := impl.JoinRepeats(x.in, score.arg)
		overwriteAll(joined, note(-5, -5, -5))
		if ok != x.ok {
			t.Error("joins", x, ok)
		}
		score.check(t, "the score")
	}
}
