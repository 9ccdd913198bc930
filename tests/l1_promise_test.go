package tests

import (
	"math/rand"
	"slices"
	"testing"

	"loop.example/g00949/impl"
)

// result holds what any function of chapter 1 returns.
type result struct {
	notes []impl.Note
	ints  []int
	text  string
	a, b  int
	ok    bool
}

func (r result) isZero() bool {
	return len(r.notes) == 0 && len(r.ints) == 0 && r.text == "" && r.a == 0 && r.b == 0 && !r.ok
}

func (r result) copied() result {
	r.notes = slices.Clone(r.notes[:cap(r.notes)])[:len(r.notes)]
	r.ints = slices.Clone(r.ints[:cap(r.ints)])[:len(r.ints)]
	return r
}

func (r result) same(o result) bool {
	return slices.Equal(r.notes, o.notes) && slices.Equal(r.ints, o.ints) && r.text == o.text && r.a == o.a && r.b == o.b && r.ok == o.ok
}

func (r result) overwrite() {
	overwriteAll(r.notes, note(-5, -5, -5))
	overwriteAll(r.ints, -5)
}

type noteCall func(l []impl.Note) result

// scoreCalls returns calls of all functions with one list that requires a score and refuses any other list.
func scoreCalls() map[string]noteCall {
	calls := map[string]noteCall{
		"IsScore": func(l []impl.Note) result { return result{ok: impl.IsScore(l)} },
		"EndOfScore": func(l []impl.Note) result {
			n, ok := impl.EndOfScore(l)
			return result{a: n, ok: ok}
		},
		"RangeOf": func(l []impl.Note) result {
			a, b, ok := impl.RangeOf(l)
			return result{a: a, b: b, ok: ok}
		},
		"ScoreText": func(l []impl.Note) result {
			s, ok := impl.ScoreText(l)
			return result{text: s, ok: ok}
		},
	}
	numbers := map[string]int{"0": 0, "1": 1, "-1": -1, "7": 7, "-72": -72, "73": 73, "999": 999, "1100": 1100, "least": extremes[0], "greatest": extremes[len(extremes)-1]}
	for name, n := range numbers {
		calls["TransposeScore "+name] = func(l []impl.Note) result {
			l, ok := impl.TransposeScore(l, n)
			return result{notes: l, ok: ok}
		}
		calls["MoveScore "+name] = func(l []impl.Note) result {
			l, ok := impl.MoveScore(l, n)
			return result{notes: l, ok: ok}
		}
		calls["SoundingAt "+name] = func(l []impl.Note) result {
			p, ok := impl.SoundingAt(l, n)
			return result{ints: p, ok: ok}
		}
	}
	return calls
}

// listCalls returns calls of all functions with lists.
func listCalls() map[string]noteCall {
	calls := scoreCalls()
	calls["SortNotes"] = func(l []impl.Note) result {
		l, ok := impl.SortNotes(l)
		return result{notes: l, ok: ok}
	}
	calls["JoinScores, twice the same"] = func(l []impl.Note) result {
		l, ok := impl.JoinScores(l, l)
		return result{notes: l, ok: ok}
	}
	calls["JoinScores, none first"] = func(l []impl.Note) result {
		l, ok := impl.JoinScores(nil, l)
		return result{notes: l, ok: ok}
	}
	calls["JoinScores, none second"] = func(l []impl.Note) result {
		l, ok := impl.JoinScores(l, nil)
		return result{notes: l, ok: ok}
	}
	return calls
}

func TestPromise1TextsAreReadBack(t *testing.T) {
	check := func(l []impl.Note) {
		s, ok := impl.ScoreText(l)
		if !ok {
			t.Fatal("no text", l)
		}
		if got, ok := impl.ParseScore(s); !ok || !slices.Equal(got, l) {
			t.Fatalf("%q is read as %v, not as %v", s, got, l)
		}
	}
	for _, l := range goodScores() {
		check(l)
	}
	for pitch := 24; pitch <= 96; pitch++ {
		check([]impl.Note{note(pitch, pitch, pitch)})
	}
	for start := range 1000 {
		check([]impl.Note{note(50, start, 1+start%99)})
	}
	r := rand.New(rand.NewSource(5))
	for range 300 {
		check(someScore(r))
	}
}

func TestPromise1TransposedScoresComeBack(t *testing.T) {
	r := rand.New(rand.NewSource(6))
	there := 0
	for range 200 {
		l := someScore(r)
		for by := -72; by <= 72; by++ {
			moved, ok := impl.TransposeScore(l, by)
			fits := len(l) == 0
			if least, greatest, some := impl.RangeOf(l); some {
				fits = least+by >= 24 && greatest+by <= 96
			}
			if ok != fits {
				t.Fatal(l, by, ok)
			}
			if !ok {
				continue
			}
			there++
			for i, x := range l {
				if moved[i] != note(x.Pitch+by, x.Start, x.Length) {
					t.Fatal(l, by, moved)
				}
			}
			if back, ok := impl.TransposeScore(moved, -by); !ok || !slices.Equal(back, l) {
				t.Fatal(l, by, back)
			}
		}
	}
	if there < 1000 {
		t.Error("too few transposed", there)
	}
}

func TestPromise1MovedScoresComeBack(t *testing.T) {
	r := rand.New(rand.NewSource(7))
	there := 0
	for range 50 {
		l := someScore(r)
		for by := -999; by <= 999; by++ {
			moved, ok := impl.MoveScore(l, by)
			if fits := len(l) == 0 || l[0].Start+by >= 0 && l[len(l)-1].Start+by <= 999; ok != fits {
				t.Fatal(l, by, ok)
			}
			if !ok {
				continue
			}
			there++
			for i, x := range l {
				if moved[i] != note(x.Pitch, x.Start+by, x.Length) {
					t.Fatal(l, by, moved)
				}
			}
			if back, ok := impl.MoveScore(moved, -by); !ok || !slices.Equal(back, l) {
				t.Fatal(l, by, back)
			}
		}
	}
	if there < 1000 {
		t.Error("too few moved", there)
	}
}

// allLists returns valid and invalid lists.
func allLists() map[string][]impl.Note {
	all := noScores()
	for name, l := range goodScores() {
		all[name] = l
	}
	return all
}

// fillers are what stands around an argument: notes that would fit into it, and such that no list may have.
var fillers = []impl.Note{{Pitch: 80, Start: 800, Length: 1}, {Pitch: -1, Start: -1, Length: -1}}

func TestPromise33OneList(t *testing.T) {
	calls := listCalls()
	for list, l := range allLists() {
		for name, call := range calls {
			for _, filler := range fillers {
				noPanic(t, name+", "+list, func() { checkCall(t, name+", "+list, call, l, filler) })
			}
		}
	}
}

func checkCall(t *testing.T, name string, call noteCall, l []impl.Note, filler impl.Note) {
	t.Helper()
	g := newGuard(l, filler)
	got := call(g.arg)
	g.check(t, name)
	saved := got.copied()
	if !saved.ok && !saved.isZero() {
		t.Error(name, "fails with a result", saved)
	}
	if again := call(slices.Clone(l)); !again.same(saved) {
		t.Error(name, "depends on what is around the argument", saved, again)
	}
	g.overwrite(note(33, 333, 3))
	if !got.same(saved) {
		t.Error(name, "the result changes with the argument")
	}
	got.overwrite()
	g.check(t, name+", by its result")
	if again := call(slices.Clone(l)); !again.same(saved) {
		t.Error(name, "depends on the last result", saved, again)
	}
}

func TestPromise33JoinScores(t *testing.T) {
	firsts := map[string][]impl.Note{
		"none": nil, "one": {note(61, 4, 2)}, "thirty": row(30), "early": {note(24, 0, 1)},
		"shared": {note(60, 0, 2), note(60, 1, 1)}, "bad": {note(23, 0, 1)}, "late": {note(96, 998, 1)},
	}
	for firstName, first := range firsts {
		for name, second := range allLists() {
			for _, filler := range fillers {
				g := newGuard(first, filler)
				call := func(l []impl.Note) result {
					joined, ok := impl.JoinScores(g.arg, l)
					g.check(t, name)
					return result{notes: joined, ok: ok}
				}
				noPanic(t, name, func() { checkCall(t, firstName+" and "+name, call, second, filler) })
				back := func(l []impl.Note) result {
					joined, ok := impl.JoinScores(l, g.arg)
					g.check(t, name)
					return result{notes: joined, ok: ok}
				}
				noPanic(t, name, func() { checkCall(t, name+" and "+firstName, back, second, filler) })
			}
		}
	}
}

func TestPromise33NumbersNotesAndTexts(t *testing.T) {
	numbers := append([]int{-1100, -1000, -999, -73, -72, -1, 0, 1, 23, 24, 60, 72, 73, 96, 97, 999, 1000, 1099, 1100}, extremes...)
	for _, n := range numbers {
		noPanic(t, "PitchName", func() { impl.PitchName(n) })
		for _, x := range []impl.Note{note(n, 0, 1), note(60, n, 1), note(60, 0, n), note(n, n, n)} {
			noPanic(t, "IsNote", func() { impl.IsNote(x) })
		}
		for list, l := range allLists() {
			if len(l) > 100 {
				continue
			}
			noPanic(t, "TransposeScore "+list, func() { impl.TransposeScore(l, n) })
			noPanic(t, "MoveScore "+list, func() { impl.MoveScore(l, n) })
			noPanic(t, "SoundingAt "+list, func() { impl.SoundingAt(l, n) })
		}
	}
	for _, s := range append(notTexts(), "", "c#5 4 2\n", lines(30)) {
		noPanic(t, "ParseScore", func() {
			got, ok := impl.ParseScore(s)
			saved := slices.Clone(got)
			overwriteAll(got, note(-5, -5, -5))
			if again, fine := impl.ParseScore(s); fine != ok || !slices.Equal(again, saved) {
				t.Errorf("%.60q depends on the last result", s)
			}
		})
	}
}

func TestPromise33ParsedBytes(t *testing.T) {
	r := rand.New(rand.NewSource(8))
	for range 20000 {
		s := someText(r)
		noPanic(t, "ParseScore", func() { impl.ParseScore(s) })
	}
}
