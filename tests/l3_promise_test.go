package tests

import (
	"math/big"
	"math/rand"
	"slices"
	"strings"
	"testing"

	"loop.example/g00949/impl"
)

// checkFollowing checks the first half of the third promise: each start is the one before it plus that event's length.
func checkFollowing(t *testing.T, l []impl.Event) {
	t.Helper()
	next := new(big.Rat)
	for i, x := range l {
		num, den, ok := impl.EventStart(l, i)
		if !ok || !isRatio(num, den, next) {
			t.Fatal("the start", l, i, num, den, ok)
		}
		next.Add(ratio(num, den), lengthOf(x))
	}
	if num, den, ok := impl.VoiceLength(l); !ok || !isRatio(num, den, next) {
		t.Fatal("the length", l, num, den, ok)
	}
}

// whole reports whether all starts and ends of a voice are whole steps.
func whole(l []impl.Event, grid int) bool {
	for i := range len(l) + 1 {
		if _, off := stepNear(startOf(l, i), grid); off.Sign() != 0 {
			return false
		}
	}
	return true
}

// checkExact checks the second half of the third promise. A further event makes the last end a start, whose distance the error counts.
func checkExact(t *testing.T, l []impl.Event) int {
	t.Helper()
	exact, ok := impl.ExactGrid(l)
	if ok != (exact >= 1 && exact <= 48) || !ok && exact != 0 {
		t.Fatal("the grid", l, exact, ok)
	}
	if ok {
		if num, den, fine := impl.GridError(l, exact); num != 0 || den != 1 || !fine {
			t.Fatal("an exact grid has an error", l, exact, num, den)
		}
	}
	for grid := 1; grid <= 48; grid++ {
		if ok && grid == exact {
			if !whole(l, grid) {
				t.Fatal("not exact", l, exact)
			}
			break
		}
		if whole(l, grid) {
			t.Fatal("a less grid is exact", l, exact, grid)
		}
		if len(l) == 20 {
			continue
		}
		if num, den, fine := impl.GridError(append(slices.Clone(l), rest(1, 1)), grid); num < 1 || den < 2 || !fine {
			t.Fatal("a less grid has no error", l, exact, grid, num, den)
		}
	}
	return exact
}

// quantised is the definition of the notes of a voice on a grid.
func quantised(l []impl.Event, grid int) []impl.Note {
	var notes []impl.Note
	for i, x := range l {
		start, _ := stepNear(startOf(l, i), grid)
		end, _ := stepNear(startOf(l, i+1), grid)
		if x.Pitch != 0 && start != end {
			notes = append(notes, note(x.Pitch, start, end-start))
		}
	}
	return notes
}

// checkGrid holds the notes and the error of a grid against the definitions. It reports whether there is a score.
func checkGrid(t *testing.T, l []impl.Event, grid int) bool {
	t.Helper()
	farthest := new(big.Rat)
	for i := range l {
		if _, off := stepNear(startOf(l, i), grid); off.Cmp(farthest) > 0 {
			farthest = off
		}
	}
	if num, den, ok := impl.GridError(l, grid); !ok || !isRatio(num, den, farthest) {
		t.Fatal("the error", l, grid, num, den, ok)
	}
	want := quantised(l, grid)
	got, ok := impl.QuantiseVoice(l, grid)
	if ok != isScore(want) || ok && !slices.Equal(got, want) || !ok && got != nil {
		t.Fatal("the score", l, grid, got, ok)
	}
	return ok
}

// checkMerged holds the voice with merged rests against its definition: each run of rests is one of their whole length.
func checkMerged(t *testing.T, l []impl.Event) {
	t.Helper()
	var want []impl.Event
	for i := 0; i < len(l); i++ {
		length := lengthOf(l[i])
		first := i
		for l[first].Pitch == 0 && i+1 < len(l) && l[i+1].Pitch == 0 {
			i++
			length.Add(length, lengthOf(l[i]))
		}
		want = append(want, event(l[first].Pitch, int(length.Num().Int64()), int(length.Denom().Int64())))
	}
	got, ok := impl.MergeRests(l)
	if ok != isVoice(want) || ok && !slices.Equal(got, want) || !ok && got != nil {
		t.Fatal("merged", l, got, ok)
	}
}

// checkChanged holds transposed and stretched voices against their definitions.
func checkChanged(t *testing.T, l []impl.Event, by, num, den int) {
	t.Helper()
	var higher, longer []impl.Event
	for _, x := range l {
		length := new(big.Rat).Mul(lengthOf(x), ratio(num, den))
		longer = append(longer, event(x.Pitch, int(length.Num().Int64()), int(length.Denom().Int64())))
		if x.Pitch != 0 {
			x.Pitch += by
		}
		higher = append(higher, x)
	}
	got, ok := impl.TransposeVoice(l, by)
	if want := isVoice(higher); ok != want || ok && !slices.Equal(got, higher) || !ok && got != nil {
		t.Fatal("transposed", l, by, got, ok)
	}
	got, ok = impl.StretchVoice(l, num, den)
	if want := isVoice(longer); ok != want || ok && !slices.Equal(got, longer) || !ok && got != nil {
		t.Fatal("stretched", l, num, den, got, ok)
	}
}

func checkVoice(t *testing.T, l []impl.Event) {
	t.Helper()
	checkFollowing(t, l)
	checkExact(t, l)
	checkMerged(t, l)
	text, ok := impl.VoiceText(l)
	if want, fine := readVoice(text, pitchesByName()); !ok || !fine || !slices.Equal(want, l) {
		t.Fatalf("%v has the text %q", l, text)
	}
	if back, ok := impl.ParseVoice(text); !ok || !slices.Equal(back, l) {
		t.Fatalf("%v: %q is read as %v", l, text, back)
	}
}

func TestPromise3GoodVoices(t *testing.T) {
	for name, l := range goodVoices() {
		t.Run(name, func(t *testing.T) {
			checkVoice(t, l)
			for grid := 1; grid <= 48; grid++ {
				checkGrid(t, l, grid)
			}
			for n := 1; n <= 16; n++ {
				checkChanged(t, l, 5*n-40, n, 17-n)
				checkChanged(t, l, 40-5*n, 1, n)
				checkChanged(t, l, -n, n, 1)
			}
		})
	}
}

func TestPromise3SomeVoices(t *testing.T) {
	r := rand.New(rand.NewSource(13))
	exact, scores := 0, 0
	for range 500 {
		l := someVoice(r)
		checkVoice(t, l)
		if _, ok := impl.ExactGrid(l); ok {
			exact++
		}
		for range 5 {
			if checkGrid(t, l, 1+r.Intn(48)) {
				scores++
			}
			checkChanged(t, l, r.Intn(145)-72, 1+r.Intn(16), 1+r.Intn(16))
		}
	}
	if exact < 50 || scores < 500 {
		t.Error("too few grids or scores", exact, scores)
	}
}

// TestPromise3AllShortVoices takes all voices of up to three events with these lengths.
func TestPromise3AllShortVoices(t *testing.T) {
	kinds := []impl.Event{
		event(60, 1, 1), event(60, 1, 2), rest(1, 2), rest(1, 3), event(62, 1, 6), event(62, 5, 16), rest(7, 15), event(60, 2, 11),
	}
	grids := map[int]bool{}
	for _, a := range kinds {
		for _, b := range kinds {
			for _, c := range kinds {
				l := []impl.Event{a, b, c}
				for n := range len(l) + 1 {
					checkFollowing(t, l[:n])
					checkMerged(t, l[:n])
				}
				grids[checkExact(t, l)] = true
				for _, grid := range []int{1, 2, 3, 4, 7, 48} {
					checkGrid(t, l, grid)
				}
			}
		}
	}
	for _, grid := range []int{0, 1, 2, 3, 6, 15, 16, 33, 48} {
		if !grids[grid] {
			t.Error("no voice has the exact grid", grid, grids)
		}
	}
}

// TestPromise3EachExactGrid has a voice for each exact grid that two denominators allow.
func TestPromise3EachExactGrid(t *testing.T) {
	for a := 1; a <= 16; a++ {
		for b := 1; b <= 16; b++ {
			least := a
			for least%b != 0 {
				least += a
			}
			if least > 48 {
				least = 0
			}
			// The rest makes the start of the last event whole, so that its end has the denominator b.
			if got := checkExact(t, []impl.Event{event(60, 1, a), rest(2*a-1, a), event(62, 1, b)}); got != least {
				t.Error("the grid", a, b, got, least)
			}
			checkExact(t, []impl.Event{rest(1, a), rest(b+1, b)})
		}
	}
}

func TestPromise33VoicesAndNumbers(t *testing.T) {
	numbers := append([]int{-73, -72, -24, -2, -1, 0, 1, 2, 3, 6, 15, 16, 17, 19, 20, 21, 36, 47, 48, 49, 72, 73}, extremes...)
	done := map[string]int{}
	check := func(about string, l []impl.Event, numbers []int) {
		checkTotal(t, "IsVoice, "+about, impl.IsVoice, l)
		checkBoth(t, done, "VoiceLength", about, impl.VoiceLength, l)
		checkBoth(t, done, "ExactGrid", about, impl.ExactGrid, l)
		checkBoth(t, done, "MergeRests", about, impl.MergeRests, l)
		checkBoth(t, done, "VoiceText", about, impl.VoiceText, l)
		for _, n := range numbers {
			checkBoth(t, done, "EventStart", about, impl.EventStart, l, n)
			checkBoth(t, done, "QuantiseVoice", about, impl.QuantiseVoice, l, n)
			checkBoth(t, done, "GridError", about, impl.GridError, l, n)
			checkBoth(t, done, "TransposeVoice", about, impl.TransposeVoice, l, n)
			checkBoth(t, done, "StretchVoice", about, impl.StretchVoice, l, n, 2)
			checkBoth(t, done, "StretchVoice", about, impl.StretchVoice, l, 3, n)
			checkBoth(t, done, "StretchVoice", about, impl.StretchVoice, l, n, n)
		}
	}
	for name, l := range goodVoices() {
		check(name, l, numbers)
	}
	for name, l := range noVoices() {
		check(name, l, []int{0, 1})
	}
	checkDone(t, done, "VoiceLength", "ExactGrid", "MergeRests", "VoiceText", "EventStart", "QuantiseVoice", "GridError", "TransposeVoice", "StretchVoice")
}

func TestPromise33VoiceTexts(t *testing.T) {
	done := map[string]int{}
	for _, s := range append(notVoiceTexts(), "", "c5*1/2", "r*1/3 d5*1/6", strings.Repeat("r*1/1 ", 19)+"r*1/1") {
		checkBoth(t, done, "ParseVoice", "a text", impl.ParseVoice, s)
	}
	checkDone(t, done, "ParseVoice")
	const bytes = "cdefgabr# 0123456789*/\n\xff\x00-+"
	r := rand.New(rand.NewSource(14))
	for range 20000 {
		b := make([]byte, r.Intn(24))
		for i := range b {
			b[i] = bytes[r.Intn(len(bytes))]
		}
		noPanic(t, "ParseVoice", func() { impl.ParseVoice(string(b)) })
	}
}
