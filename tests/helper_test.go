package tests

import (
	"math"
	"math/rand"
	"slices"
	"sort"
	"testing"

	"loop.example/g00949/impl"
)

// extremes are the numbers at which sums and products overflow.
var extremes = []int{math.MinInt, math.MinInt + 1, math.MinInt / 2, -1 << 32, 1 << 32, math.MaxInt / 2, math.MaxInt - 1, math.MaxInt}

// guard is an argument that lies in the middle of a larger array, so that writing in front of it, in it or behind it is seen.
type guard[T comparable] struct {
	arg   []T
	array []T
	saved []T
}

func newGuard[T comparable](l []T, filler T) *guard[T] {
	around := []T{filler, filler, filler}
	array := slices.Concat(around, l, around)
	return &guard[T]{
		arg:   array[len(around) : len(around)+len(l)],
		array: array,
		saved: slices.Clone(array),
	}
}

func (g *guard[T]) check(t *testing.T, name string) {
	t.Helper()
	if !slices.Equal(g.array, g.saved) {
		t.Errorf("%s: the argument is changed: %v, before %v", name, g.array, g.saved)
	}
}

func (g *guard[T]) overwrite(x T) {
	for i := range g.array {
		g.array[i] = x
	}
	g.saved = slices.Clone(g.array)
}

// overwriteAll writes to all of a result's memory, its spare capacity too.
func overwriteAll[T any](l []T, x T) {
	all := l[:cap(l)]
	for i := range all {
		all[i] = x
	}
}

func noPanic(t *testing.T, name string, call func()) {
	t.Helper()
	defer func() {
		t.Helper()
		if r := recover(); r != nil {
			t.Errorf("%s: panics: %v", name, r)
		}
	}()
	call()
}

func note(pitch, start, length int) impl.Note {
	return impl.Note{Pitch: pitch, Start: start, Length: length}
}

// row returns n notes of one pitch that just follow each other.
func row(n int) []impl.Note {
	var l []impl.Note
	for i := range n {
		l = append(l, note(60, 2*i, 2))
	}
	return l
}

// goodScores returns scores of all kinds, by a name.
func goodScores() map[string][]impl.Note {
	return map[string][]impl.Note{
		"nil":             nil,
		"empty":           {},
		"one note":        {note(61, 4, 2)},
		"low and early":   {note(24, 0, 1)},
		"high and late":   {note(96, 999, 99)},
		"all limits":      {note(24, 0, 99), note(96, 0, 1), note(24, 999, 1), note(96, 999, 99)},
		"a chord":         {note(60, 3, 5), note(64, 3, 2), note(67, 3, 99)},
		"just following":  {note(60, 0, 2), note(60, 2, 1), note(60, 3, 4)},
		"following long":  {note(60, 0, 99), note(60, 99, 1)},
		"between others":  {note(60, 0, 5), note(59, 1, 9), note(61, 1, 9), note(60, 5, 1)},
		"thirty notes":    row(30),
		"one whole chord": chord(30),
	}
}

// chord returns n notes with the same start.
func chord(n int) []impl.Note {
	var l []impl.Note
	for i := range n {
		l = append(l, note(40+i, 7, 3))
	}
	return l
}

// badNotes returns notes that are not valid, each for one reason.
func badNotes() []impl.Note {
	l := []impl.Note{
		{}, note(0, 0, 1), note(23, 0, 1), note(97, 0, 1), note(-60, 0, 1),
		note(60, -1, 1), note(60, 1000, 1), note(60, 0, 0), note(60, 0, -1), note(60, 0, 100),
	}
	for _, n := range extremes {
		l = append(l, note(n, 0, 1), note(60, n, 1), note(60, 0, n), note(n, n, n))
	}
	return l
}

// validButNoScore returns lists of valid notes that are no scores in any order.
func validButNoScore() map[string][]impl.Note {
	return map[string][]impl.Note{
		"a note twice":        {note(60, 0, 1), note(60, 0, 1)},
		"equal starts":        {note(60, 3, 1), note(60, 3, 2)},
		"a shared step":       {note(60, 0, 2), note(60, 1, 1)},
		"a long shared step":  {note(60, 0, 99), note(60, 98, 1)},
		"shared, one between": {note(60, 0, 10), note(62, 1, 1), note(60, 5, 1)},
		"one inside another":  {note(60, 0, 10), note(60, 2, 1), note(60, 12, 1)},
		"too many":            row(31),
		"too many at once":    chord(31),
	}
}

// outOfOrder returns lists of notes that are scores in another order.
func outOfOrder() map[string][]impl.Note {
	return map[string][]impl.Note{
		"starts decrease":          {note(60, 1, 1), note(61, 0, 1)},
		"starts decrease, a pitch": {note(60, 5, 1), note(60, 0, 1)},
		"pitches decrease":         {note(61, 0, 1), note(60, 0, 1)},
		"the last one first":       {note(60, 8, 1), note(60, 0, 1), note(60, 2, 1)},
		"the last two":             {note(60, 0, 1), note(62, 4, 1), note(61, 4, 1)},
	}
}

// noScores returns all that a function that requires a score must refuse.
func noScores() map[string][]impl.Note {
	all := validButNoScore()
	for name, l := range outOfOrder() {
		all[name] = l
	}
	for _, x := range badNotes() {
		text := noteWords(x)
		all["bad: "+text] = []impl.Note{x}
		all["bad last: "+text] = []impl.Note{note(24, 0, 1), x}
		all["bad first: "+text] = []impl.Note{x, note(96, 999, 1)}
	}
	many := make([]impl.Note, 100000)
	for i := range many {
		many[i] = note(60, i%1000, 1)
	}
	all["very many"] = many
	return all
}

// isScore is the definition of a score in the document, by sounding steps.
func isScore(l []impl.Note) bool {
	if len(l) > 30 {
		return false
	}
	type sound struct{ pitch, step int }
	sounds := map[sound]bool{}
	for i, x := range l {
		if x.Pitch < 24 || x.Pitch > 96 || x.Start < 0 || x.Start > 999 || x.Length < 1 || x.Length > 99 {
			return false
		}
		if i > 0 && !before(l[i-1], x) {
			return false
		}
		for step := x.Start; step < x.Start+x.Length; step++ {
			if sounds[sound{x.Pitch, step}] {
				return false
			}
			sounds[sound{x.Pitch, step}] = true
		}
	}
	return true
}

func before(a, b impl.Note) bool {
	if a.Start != b.Start {
		return a.Start < b.Start
	}
	return a.Pitch < b.Pitch
}

func inOrder(l []impl.Note) []impl.Note {
	sorted := append([]impl.Note{}, l...)
	sort.Slice(sorted, func(i, j int) bool { return before(sorted[i], sorted[j]) })
	return sorted
}

// someNotes returns notes in a narrow space, so that many of them meet.
func someNotes(r *rand.Rand, most int) []impl.Note {
	l := make([]impl.Note, r.Intn(most+1))
	for i := range l {
		l[i] = note(60+r.Intn(3), r.Intn(9), 1+r.Intn(4))
	}
	return l
}

// someScore returns a score of up to 30 notes, in all the space or in a narrow part of it.
func someScore(r *rand.Rand) []impl.Note {
	low, pitches, starts, lengths := 24, 73, 1000, 99
	if r.Intn(2) == 0 {
		low, pitches, starts, lengths = 50, 20, 60, 12
	}
	return scoreWithin(r, low, pitches, starts, lengths)
}

// scoreWithin returns a score of up to 30 notes with so many pitches from low on, and so many starts and lengths.
func scoreWithin(r *rand.Rand, low, pitches, starts, lengths int) []impl.Note {
	var l []impl.Note
	for range r.Intn(60) {
		longer := inOrder(append(l, note(low+r.Intn(pitches), r.Intn(starts), 1+r.Intn(lengths))))
		if isScore(longer) {
			l = longer
		}
	}
	return l
}

// someText returns a text of bytes that stand in texts, and of a few that do not.
func someText(r *rand.Rand) string {
	const bytes = "cdefgab# 0123456789\n\xff\x00-+"
	b := make([]byte, r.Intn(24))
	for i := range b {
		b[i] = bytes[r.Intn(len(bytes))]
	}
	return string(b)
}
