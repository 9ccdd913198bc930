package tests

import (
	"math/rand"
	"slices"
	"testing"

	"loop.example/g00949/impl"
)

// fastPairs is the definition of fast repeats in the document.
func fastPairs(repeat int, l []impl.Note) [][]int {
	var pairs [][]int
	for j := range l {
		for i := range j {
			between := slices.ContainsFunc(l[i+1:j], func(x impl.Note) bool { return x.Pitch == l[j].Pitch })
			if l[i].Pitch == l[j].Pitch && !between && l[j].Start-l[i].Start < repeat {
				pairs = append(pairs, []int{i, j})
			}
		}
	}
	return pairs
}

// lacking is the definition of the pitches that an instrument has not.
func lacking(in impl.Instrument, l []impl.Note) []int {
	var pitches []int
	for pitch := 24; pitch <= 96; pitch++ {
		sounds := slices.ContainsFunc(l, func(x impl.Note) bool { return x.Pitch == pitch })
		if sounds && !slices.Contains(in.Pitches, pitch) {
			pitches = append(pitches, pitch)
		}
	}
	return pitches
}

// tooNear reports whether a note begins less than the repeat time behind one of these notes of its pitch.
func tooNear(repeat int, x impl.Note, l []impl.Note) bool {
	return slices.ContainsFunc(l, func(y impl.Note) bool { return y.Pitch == x.Pitch && x.Start-y.Start < repeat })
}

// checkPlaying holds all that an instrument can play of a score against the definitions.
func checkPlaying(t *testing.T, in impl.Instrument, l []impl.Note) {
	t.Helper()
	missing, ok := impl.MissingPitches(in, l)
	if !ok || !slices.Equal(missing, lacking(in, l)) {
		t.Fatal("missing", in, l, missing, ok)
	}
	fast, ok := impl.FastRepeats(in, l)
	if !ok || !samePairs(fast, fastPairs(in.Repeat, l)) {
		t.Fatal("fast", in, l, fast, ok)
	}
	can, ok := impl.CanPlay(in, l)
	if want := len(lacking(in, l)) == 0 && len(fastPairs(in.Repeat, l)) == 0; !ok || can != want {
		t.Fatal("can", in, l, can, ok)
	}
	part, ok := impl.PlayablePart(in, l)
	if !ok {
		t.Fatal("no part", in, l)
	}
	if can && !slices.Equal(part, l) {
		t.Fatal("it can be played, but lacks a note", in, l, part)
	}
	checkPart(t, in, l, part)
}

// checkPart checks the second promise, and that no other note is kept than by the document's rule.
func checkPart(t *testing.T, in impl.Instrument, l, part []impl.Note) {
	t.Helper()
	if can, ok := impl.CanPlay(in, part); !can || !ok {
		t.Fatal("the part cannot be played", in, l, part)
	}
	var kept []impl.Note
	for _, x := range l {
		cannot := !slices.Contains(in.Pitches, x.Pitch) || tooNear(in.Repeat, x, kept)
		if is := slices.Contains(part, x); is == cannot {
			t.Fatal("the part has or lacks", x, in, l, part)
		}
		if !cannot {
			kept = append(kept, x)
			continue
		}
		more := inOrder(append(slices.Clone(part), x))
		if can, ok := impl.CanPlay(in, more); can || !ok {
			t.Fatal("the part lacks what it could have", x, in, l, part)
		}
	}
	if !slices.Equal(part, kept) {
		t.Fatal("the part is not what is kept", in, l, part)
	}
}

func TestPromise2SomeScores(t *testing.T) {
	r := rand.New(rand.NewSource(9))
	shorter := 0
	for range 5000 {
		in, l := someInstrument(r), busyScore(r)
		checkPlaying(t, in, l)
		part, _ := impl.PlayablePart(in, l)
		if len(part) > 0 && len(part) < len(l) {
			shorter++
		}
	}
	if shorter < 1000 {
		t.Error("too few parts are shorter", shorter)
	}
	for _, in := range goodInstruments() {
		for _, l := range goodScores() {
			checkPlaying(t, in, l)
		}
		for range 50 {
			checkPlaying(t, in, someScore(r))
		}
	}
}

// TestPromise2AllSmallScores takes all scores of short notes of two pitches in five steps.
func TestPromise2AllSmallScores(t *testing.T) {
	const steps = 5
	for set := range 1 << (2 * steps) {
		var l []impl.Note
		for i := range 2 * steps {
			if set>>i&1 == 1 {
				l = append(l, note(60+i%2, i/2, 1))
			}
		}
		for repeat := 1; repeat <= steps+1; repeat++ {
			checkPlaying(t, instrument(repeat, 60, 61), l)
			checkPlaying(t, instrument(repeat, 61), l)
		}
	}
}

func TestGreatestRepeatByItsDefinition(t *testing.T) {
	r := rand.New(rand.NewSource(10))
	found := map[int]bool{}
	for range 5000 {
		l := scoreWithin(r, 50, 1+r.Intn(20), 1+r.Intn(200), 3)
		want := 0
		for repeat := 1; repeat <= 20; repeat++ {
			if len(fastPairs(repeat, l)) == 0 {
				want = repeat
			}
		}
		if got, ok := impl.GreatestRepeat(l); !ok || got != want {
			t.Fatal(l, got, want, ok)
		}
		found[want] = true
	}
	if len(found) < 20 {
		t.Error("too few repeat times", found)
	}
}

func TestInstrumentsAndCommonPitchesByTheirDefinitions(t *testing.T) {
	r := rand.New(rand.NewSource(11))
	for range 5000 {
		a, b := someInstrument(r), someInstrument(r)
		var want []int
		for pitch := 24; pitch <= 96; pitch++ {
			if slices.Contains(a.Pitches, pitch) && slices.Contains(b.Pitches, pitch) {
				want = append(want, pitch)
			}
		}
		if got, ok := impl.CommonPitches(a, b); !ok || !slices.Equal(got, want) {
			t.Fatal(a, b, got, ok)
		}
		for _, in := range []impl.Instrument{a, b} {
			text, ok := impl.InstrumentText(in)
			if back, fine := impl.ParseInstrument(text); !ok || !fine || !sameInstrument(back, in) {
				t.Fatalf("%v: %q is read as %v", in, text, back)
			}
		}
	}
}

// allInstruments returns valid and invalid instruments.
func allInstruments() map[string]impl.Instrument {
	all := badInstruments()
	for name, in := range goodInstruments() {
		all[name] = in
	}
	return all
}

// checkBoth also counts what succeeds, so that a test cannot pass without any result.
func checkBoth(t *testing.T, done map[string]int, name, about string, function any, args ...any) {
	t.Helper()
	if checkTotal(t, name+", "+about, function, args...) {
		done[name]++
	}
}

func checkDone(t *testing.T, done map[string]int, names ...string) {
	t.Helper()
	for _, name := range names {
		if done[name] == 0 {
			t.Error(name, "never succeeds")
		}
	}
}

func TestPromise33InstrumentsAndScores(t *testing.T) {
	done := map[string]int{}
	check := func(about string, in impl.Instrument, l []impl.Note) {
		checkBoth(t, done, "MissingPitches", about, impl.MissingPitches, in, l)
		checkBoth(t, done, "FastRepeats", about, impl.FastRepeats, in, l)
		checkBoth(t, done, "CanPlay", about, impl.CanPlay, in, l)
		checkBoth(t, done, "PlayablePart", about, impl.PlayablePart, in, l)
		checkBoth(t, done, "GreatestRepeat", about, impl.GreatestRepeat, l)
	}
	scores := goodScores()
	for inName, in := range badInstruments() {
		for name, l := range scores {
			check(inName+" and "+name, in, l)
		}
	}
	for name, l := range validButNoScore() {
		scores[name] = l
	}
	for inName, in := range goodInstruments() {
		for name, l := range scores {
			check(inName+" and "+name, in, l)
		}
	}
	for name, l := range noScores() {
		check(name, instrument(2, 60, 62), l)
	}
	checkDone(t, done, "MissingPitches", "FastRepeats", "CanPlay", "PlayablePart", "GreatestRepeat")
}

func TestPromise33InstrumentsAndNumbers(t *testing.T) {
	many := append([]int{-60, -2, -1, 0, 1, 2, 19, 20, 21, 23, 24, 60, 61, 62, 63, 95, 96, 97}, extremes...)
	done := map[string]int{}
	for name, in := range allInstruments() {
		numbers := many
		checkTotal(t, "IsInstrument, "+name, impl.IsInstrument, in)
		checkBoth(t, done, "InstrumentText", name, impl.InstrumentText, in)
		if len(in.Pitches) > 1000 {
			numbers = []int{0, 60}
		}
		for _, n := range numbers {
			checkBoth(t, done, "TrackOf", name, impl.TrackOf, in, n)
			checkBoth(t, done, "PitchOf", name, impl.PitchOf, in, n)
			checkBoth(t, done, "AddPitch", name, impl.AddPitch, in, n)
		}
	}
	checkDone(t, done, "InstrumentText", "TrackOf", "PitchOf", "AddPitch")
}

func TestPromise33TwoInstruments(t *testing.T) {
	done := map[string]int{}
	for aName, a := range goodInstruments() {
		for bName, b := range allInstruments() {
			checkBoth(t, done, "CommonPitches", aName+" and "+bName, impl.CommonPitches, a, b)
			checkBoth(t, done, "CommonPitches", bName+" and "+aName, impl.CommonPitches, b, a)
		}
	}
	checkDone(t, done, "CommonPitches")
	both := instrument(2, pitchesFrom(50, 20)...)
	got, ok := impl.CommonPitches(both, both)
	overwriteAll(got, -5)
	if !ok || !slices.Equal(both.Pitches, pitchesFrom(50, 20)) {
		t.Error("an instrument's pitches are shared", both)
	}
}

func TestPromise33InstrumentTexts(t *testing.T) {
	done := map[string]int{}
	for _, s := range append(notInstrumentTexts(), "c5 1\n", "c5 d5 2\n", textOf(pitchesFrom(50, 20), "20")) {
		checkBoth(t, done, "ParseInstrument", "a text", impl.ParseInstrument, s)
	}
	checkDone(t, done, "ParseInstrument")
	r := rand.New(rand.NewSource(12))
	for range 20000 {
		s := someText(r)
		noPanic(t, "ParseInstrument", func() { impl.ParseInstrument(s) })
	}
}
