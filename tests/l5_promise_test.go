package tests

import (
	"math/rand"
	"slices"
	"testing"

	"loop.example/g00949/impl"
)

// openIn returns the tracks that are open in a step, by the definition of a hole.
func openIn(l []impl.Hole, step int) []int {
	var tracks []int
	for track := range 20 {
		if slices.ContainsFunc(l, func(x impl.Hole) bool { return x.Track == track && x.From <= step && step <= x.To-1 }) {
			tracks = append(tracks, track)
		}
	}
	return tracks
}

// openSteps returns openIn of all steps. A sheet is known by them: there is a web between its holes of one track.
func openSteps(l []impl.Hole) [][]int {
	var open [][]int
	for step := range 2000 {
		open = append(open, openIn(l, step))
	}
	return open
}

// noneOpen stands for n steps of a sheet without holes.
func noneOpen(n int) [][]int { return make([][]int, n) }

func mirrored(tracks []int) []int {
	var others []int
	for _, track := range tracks {
		others = append(others, 19-track)
	}
	slices.Reverse(others)
	return others
}

// checkOpen checks that a changed sheet is one, and that it has these open tracks in its first steps and none behind them.
func checkOpen(t *testing.T, about string, l, changed []impl.Hole, want [][]int) {
	t.Helper()
	if !isSheet(changed) {
		t.Fatal(about, l, "is no sheet:", changed)
	}
	want = slices.Concat(want, noneOpen(2000-len(want)))
	for step, tracks := range want {
		if got, ok := impl.OpenTracks(changed, step); !ok || !slices.Equal(got, tracks) {
			t.Fatal(about, l, changed, "open in step", step, got, tracks)
		}
	}
}

// checkReversed checks that a sheet that is reversed twice is the same again, and that it is read from its other end between.
func checkReversed(t *testing.T, l []impl.Hole, open [][]int, length int) {
	t.Helper()
	once, ok := impl.ReverseSheet(l, length)
	if !ok {
		t.Fatal("not reversed", l, length)
	}
	want := slices.Clone(open[:length])
	slices.Reverse(want)
	checkOpen(t, "reversed", l, once, want)
	if twice, ok := impl.ReverseSheet(once, length); !ok || !slices.Equal(twice, l) {
		t.Fatal("reversed twice", l, length, twice, ok)
	}
}

// checkMirrored checks the same of mirrored tracks.
func checkMirrored(t *testing.T, l []impl.Hole, open [][]int) {
	t.Helper()
	once, ok := impl.MirrorTracks(l)
	if !ok {
		t.Fatal("not mirrored", l)
	}
	var want [][]int
	for _, tracks := range open {
		want = append(want, mirrored(tracks))
	}
	checkOpen(t, "mirrored", l, once, want)
	if twice, ok := impl.MirrorTracks(once); !ok || !slices.Equal(twice, l) {
		t.Fatal("mirrored twice", l, twice, ok)
	}
}

// checkCut checks that a part has the open tracks of its steps, and no others.
func checkCut(t *testing.T, l []impl.Hole, open [][]int, from, to int) {
	t.Helper()
	part, ok := impl.CutSheet(l, from, to)
	if !ok {
		t.Fatal("no part", l, from, to)
	}
	checkOpen(t, "a part of", l, part, open[from:to])
}

// checkMoved checks that a sheet is moved if it stays on the roll, and comes back. It reports whether it is.
func checkMoved(t *testing.T, l []impl.Hole, open [][]int, by int) bool {
	t.Helper()
	fits := true
	for _, x := range l {
		fits = fits && x.From+by >= 0 && x.To+by <= 2000
	}
	moved, ok := impl.MoveSheet(l, by)
	if ok != fits || !ok && moved != nil {
		t.Fatal("moved", l, by, moved, ok)
	}
	if !ok {
		return false
	}
	// The sheet stays on the roll, so that no track is open in the steps that are left out here.
	checkOpen(t, "moved", l, moved, slices.Concat(noneOpen(max(by, 0)), open[max(-by, 0):2000-max(by, 0)]))
	if back, ok := impl.MoveSheet(moved, -by); !ok || !slices.Equal(back, l) {
		t.Fatal("moved back", l, by, back, ok)
	}
	return true
}

// checkOneMore holds a sheet with a further hole against the definition of a sheet. It reports whether there is one.
func checkOneMore(t *testing.T, l []impl.Hole, x impl.Hole) bool {
	t.Helper()
	want := holesInOrder(append(slices.Clone(l), x))
	got, ok := impl.AddHole(l, x)
	if ok != isSheet(want) || ok && !slices.Equal(got, want) || !ok && got != nil {
		t.Fatal("added", l, x, got, ok)
	}
	if !ok {
		return false
	}
	if back, ok := impl.DropHole(got, slices.Index(got, x)); !ok || !slices.Equal(back, l) {
		t.Fatal("dropped again", l, x, back, ok)
	}
	return true
}

// checkMeasures holds the length and the least web of a sheet against its open tracks.
func checkMeasures(t *testing.T, l []impl.Hole, open [][]int) {
	t.Helper()
	length, least, ends := 0, 2001, map[int]int{}
	for step, tracks := range open {
		for _, track := range tracks {
			// Since the track was open last there is only paper.
			if end, before := ends[track]; before && end < step {
				least = min(least, step-end)
			}
			ends[track] = step + 1
			length = step + 1
		}
	}
	if got, ok := impl.LengthOfSheet(l); got != length || !ok {
		t.Fatal("length", l, got, length, ok)
	}
	web, ok := impl.LeastWeb(l)
	if ok != (least < 2001) || ok && web != least || !ok && web != 0 {
		t.Fatal("least web", l, web, least, ok)
	}
}

func checkTextOfSheet(t *testing.T, l []impl.Hole) {
	t.Helper()
	text, ok := impl.SheetText(l)
	if want, fine := readSheet(text); !ok || !fine || !slices.Equal(want, l) {
		t.Fatalf("%v has the text %q", l, text)
	}
	if back, ok := impl.ParseSheet(text); !ok || !slices.Equal(back, l) {
		t.Fatalf("%v: %q is read as %v", l, text, back)
	}
}

// checkSheet checks all of a sheet that takes no number.
func checkSheet(t *testing.T, l []impl.Hole, open [][]int) {
	t.Helper()
	checkOpen(t, "the sheet", l, l, open)
	checkMeasures(t, l, open)
	checkMirrored(t, l, open)
	checkTextOfSheet(t, l)
}

func TestPromise5GoodSheets(t *testing.T) {
	for name, l := range goodSheets() {
		t.Run(name, func(t *testing.T) {
			open := openSteps(l)
			checkSheet(t, l, open)
			length, _ := impl.LengthOfSheet(l)
			for _, n := range []int{length, min(length+1, 2000), (length + 2000) / 2, 1999 + length/2000, 2000} {
				checkReversed(t, l, open, n)
			}
			edges := []int{0, 1, 3, 4, 5, 6, 7, 9, 10, 99, 100, 1000, 1989, 1990, 1999, 2000}
			for i, to := range edges {
				for _, from := range edges[:i] {
					checkCut(t, l, open, from, to)
				}
			}
			for _, by := range []int{-2000, -1999, -100, -4, -3, -1, 0, 1, 2, 10, 1821, 1822, 1991, 1999, 2000} {
				checkMoved(t, l, open, by)
			}
			for track := range 20 {
				checkOneMore(t, l, hole(track, 5, 9))
				checkOneMore(t, l, hole(track, 0, 1))
				checkOneMore(t, l, hole(track, 1999, 2000))
			}
		})
	}
}

func TestPromise5SomeSheets(t *testing.T) {
	r := rand.New(rand.NewSource(18))
	moved, longer := 0, 0
	for range 150 {
		l := someSheet(r)
		open := openSteps(l)
		checkSheet(t, l, open)
		length, _ := impl.LengthOfSheet(l)
		checkReversed(t, l, open, length)
		checkReversed(t, l, open, length+r.Intn(2001-length))
		for range 8 {
			a, b := r.Intn(2001), r.Intn(2001)
			checkCut(t, l, open, min(a, b, 1999), max(a, b, min(a, b, 1999)+1))
		}
		for _, x := range l {
			// These parts have an end in the hole or at one of its ends.
			checkCut(t, l, open, max(0, x.From-1+r.Intn(3)), min(2000, x.From+2+r.Intn(4)))
			checkCut(t, l, open, x.To-1, min(2000, x.To+r.Intn(9)))
		}
		for range 4 {
			if checkMoved(t, l, open, r.Intn(4001)-2000) {
				moved++
			}
		}
		for range 20 {
			from := r.Intn(2000)
			if checkOneMore(t, l, hole(r.Intn(20), from, from+1+r.Intn(min(20, 2000-from)))) {
				longer++
			}
		}
	}
	if moved < 50 || longer < 500 {
		t.Error("too few moved or longer sheets", moved, longer)
	}
}

// TestPromise5AllShortSheets takes all sheets of two tracks and five steps, by their open steps.
func TestPromise5AllShortSheets(t *testing.T) {
	const steps = 5
	for set := range 1 << (2 * steps) {
		l := holesOfSet(set, steps)
		if !isSheet(l) || !impl.IsSheet(l) {
			t.Fatal("no sheet", l)
		}
		for from := range steps {
			for to := from + 1; to <= steps; to++ {
				want := holesOfSet(cutSet(set, steps, from, to), steps)
				if got, ok := impl.CutSheet(l, from, to); !ok || !slices.Equal(got, want) {
					t.Fatal("a part of", l, from, to, got, want, ok)
				}
			}
		}
		once, ok := impl.ReverseSheet(l, steps)
		if want := holesOfSet(reversedSet(set, steps), steps); !ok || !slices.Equal(once, want) {
			t.Fatal("reversed", l, once, want, ok)
		}
		if twice, ok := impl.ReverseSheet(once, steps); !ok || !slices.Equal(twice, l) {
			t.Fatal("reversed twice", l, twice, ok)
		}
		once, _ = impl.MirrorTracks(l)
		if twice, ok := impl.MirrorTracks(once); !ok || !slices.Equal(twice, l) {
			t.Fatal("mirrored twice", l, twice, ok)
		}
	}
}

// isOpenInSet reports whether a set has a step of a track: its bit 2 * step + track.
func isOpenInSet(set, track, step int) bool { return set>>(2*step+track)&1 == 1 }

// holesOfSet returns the holes of the tracks 0 and 1 that are open in the steps of a set.
func holesOfSet(set, steps int) []impl.Hole {
	var l []impl.Hole
	for track := range 2 {
		from := -1
		for step := range steps + 1 {
			open := step < steps && isOpenInSet(set, track, step)
			if open && from < 0 {
				from = step
			}
			if !open && from >= 0 {
				l = append(l, hole(track, from, step))
				from = -1
			}
		}
	}
	return holesInOrder(l)
}

func cutSet(set, steps, from, to int) int {
	return set & (1<<(2*to) - 1) >> (2 * from)
}

func reversedSet(set, steps int) int {
	other := 0
	for step := range steps {
		other |= set >> (2 * step) & 3 << (2 * (steps - 1 - step))
	}
	return other
}

func TestPromise33SheetsAndNumbers(t *testing.T) {
	numbers := append([]int{-2001, -2000, -1, 0, 1, 2, 3, 9, 19, 20, 59, 60, 1999, 2000, 2001}, extremes...)
	done := map[string]int{}
	check := func(about string, l []impl.Hole, numbers []int) {
		checkTotal(t, "IsSheet, "+about, impl.IsSheet, l)
		checkBoth(t, done, "LengthOfSheet", about, impl.LengthOfSheet, l)
		checkBoth(t, done, "LeastWeb", about, impl.LeastWeb, l)
		checkBoth(t, done, "MirrorTracks", about, impl.MirrorTracks, l)
		checkBoth(t, done, "SheetText", about, impl.SheetText, l)
		for _, n := range numbers {
			checkBoth(t, done, "DropHole", about, impl.DropHole, l, n)
			checkBoth(t, done, "OpenTracks", about, impl.OpenTracks, l, n)
			checkBoth(t, done, "MoveSheet", about, impl.MoveSheet, l, n)
			checkBoth(t, done, "ReverseSheet", about, impl.ReverseSheet, l, n)
			for _, m := range []int{0, 7, 2000, n} {
				checkBoth(t, done, "CutSheet", about, impl.CutSheet, l, m, n)
				checkBoth(t, done, "CutSheet", about, impl.CutSheet, l, n, m)
			}
			for _, x := range []impl.Hole{hole(n, 2, 3), hole(11, n, 2000), hole(11, 0, n), hole(n, n, n)} {
				checkBoth(t, done, "AddHole", about, impl.AddHole, l, x)
			}
		}
	}
	for name, l := range goodSheets() {
		check(name, l, numbers)
	}
	for name, l := range noSheets() {
		if len(l) < 1000 {
			check(name, l, []int{0, 1, 2000})
		} else {
			check(name, l, []int{1})
		}
	}
	checkDone(t, done, "LengthOfSheet", "LeastWeb", "MirrorTracks", "SheetText", "DropHole", "OpenTracks", "MoveSheet", "ReverseSheet", "CutSheet", "AddHole")
}

func TestPromise33HolesAndSheetTexts(t *testing.T) {
	for _, x := range append(badHoles(), exampleSheet()...) {
		checkTotal(t, "IsHole", impl.IsHole, x)
	}
	done := map[string]int{}
	for _, s := range append(notSheetTexts(), "", "0 0 1\n", "3 0 4\n5 2 6\n3 7 9\n", linesOfHoles(60)) {
		checkBoth(t, done, "ParseSheet", "a text", impl.ParseSheet, s)
	}
	checkDone(t, done, "ParseSheet")
	const bytes = "0123456789 \n\n  \xff\x00-+"
	r := rand.New(rand.NewSource(19))
	for range 20000 {
		b := make([]byte, r.Intn(24))
		for i := range b {
			b[i] = bytes[r.Intn(len(bytes))]
		}
		noPanic(t, "ParseSheet", func() { impl.ParseSheet(string(b)) })
	}
}

// TestPromise33SheetsAreNew checks that results without a change share no memory with the sheet either.
func TestPromise33SheetsAreNew(t *testing.T) {
	for name, l := range goodSheets() {
		saved := slices.Clone(l)
		moved, _ := impl.MoveSheet(l, 0)
		part, _ := impl.CutSheet(l, 0, 2000)
		reversed, _ := impl.ReverseSheet(l, 2000)
		mirrored, _ := impl.MirrorTracks(l)
		longer, _ := impl.AddHole(l, hole(13, 1990, 2000))
		shorter, _ := impl.DropHole(l, len(l)-1)
		for _, result := range [][]impl.Hole{moved, part, reversed, mirrored, longer, shorter} {
			overwriteAll(result, hole(-5, -5, -5))
		}
		if !slices.Equal(l, saved) {
			t.Error(name, "is changed", l)
		}
	}
}
