package impl

import (
	"cmp"
	"slices"
	"strconv"
	"strings"
)

const LowPitch = 24
const HighPitch = 96
const LastStart = 999
const MaxLength = 99
const MaxNotes = 30

const mostTransposed = 72
const mostMoved = 999
const lastAskedStep = 1099

var classNames = [12]string{"c", "c#", "d", "d#", "e", "f", "f#", "g", "g#", "a", "a#", "b"}

type Note struct {
	Pitch  int
	Start  int
	Length int
}

// IsNote reports whether a note is valid.
func IsNote(x Note) bool {
	return isPitch(x.Pitch) && inRange(x.Start, 0, LastStart) && inRange(x.Length, 1, MaxLength)
}

// IsScore reports whether notes are a score.
func IsScore(l []Note) bool {
	if len(l) > MaxNotes {
		return false
	}
	var ends [HighPitch + 1]int
	for i, x := range l {
		// Only a valid note has a pitch that is an index of ends.
		if !IsNote(x) || x.Start < ends[x.Pitch] {
			return false
		}
		if i > 0 && compareNotes(l[i-1], x) >= 0 {
			return false
		}
		ends[x.Pitch] = endOfNote(x)
	}
	return true
}

// SortNotes returns the score of at most MaxNotes notes, in order. It fails if there is none.
func SortNotes(l []Note) ([]Note, bool) {
	if len(l) > MaxNotes {
		return nil, false
	}
	sorted := make([]Note, len(l))
	copy(sorted, l)
	slices.SortFunc(sorted, compareNotes)
	return scoreOnly(sorted)
}

// TransposeScore returns the score with a number in -72..72 added to all pitches. It fails if it is not valid then.
func TransposeScore(l []Note, by int) ([]Note, bool) {
	if !inRange(by, -mostTransposed, mostTransposed) {
		return nil, false
	}
	return changeScore(l, func(x Note) Note {
		x.Pitch += by
		return x
	})
}

// MoveScore returns the score with a number in -999..999 added to all starts. It fails if it is not valid then.
func MoveScore(l []Note, by int) ([]Note, bool) {
	if !inRange(by, -mostMoved, mostMoved) {
		return nil, false
	}
	return changeScore(l, func(x Note) Note {
		x.Start += by
		return x
	})
}

// JoinScores returns the score with the notes of both, in order. It fails if it is not valid.
func JoinScores(a []Note, b []Note) ([]Note, bool) {
	if !IsScore(a) || !IsScore(b) {
		return nil, false
	}
	return SortNotes(slices.Concat(a, b))
}

// SoundingAt returns the pitches that sound in a step in 0..1099, strictly increasing.
func SoundingAt(l []Note, step int) ([]int, bool) {
	if !IsScore(l) || !inRange(step, 0, lastAskedStep) {
		return nil, false
	}
	var pitches []int
	for _, x := range l {
		if x.Start <= step && step < endOfNote(x) {
			pitches = append(pitches, x.Pitch)
		}
	}
	slices.Sort(pitches)
	return pitches, true
}

// EndOfScore returns the first step, from 0 on, from which no note sounds any more.
func EndOfScore(l []Note) (int, bool) {
	if !IsScore(l) {
		return 0, false
	}
	end := 0
	for _, x := range l {
		end = max(end, endOfNote(x))
	}
	return end, true
}

// RangeOf returns the least and the greatest pitch. It fails for a score without notes.
func RangeOf(l []Note) (int, int, bool) {
	if !IsScore(l) || len(l) == 0 {
		return 0, 0, false
	}
	least, greatest := l[0].Pitch, l[0].Pitch
	for _, x := range l {
		least = min(least, x.Pitch)
		greatest = max(greatest, x.Pitch)
	}
	return least, greatest, true
}

// PitchName returns the name of a pitch: c, c#, d, d#, e, f, f#, g, g#, a, a# or b for the residues 0 to 11 modulo 12, and the pitch divided by 12, rounded down, in decimal.
func PitchName(pitch int) (string, bool) {
	if !isPitch(pitch) {
		return "", false
	}
	return classNames[pitch%12] + strconv.Itoa(pitch/12), true
}

// ScoreText returns a line for each note: PitchName, Start and Length in decimal, separated by single blanks, ended by a newline (byte 10).
func ScoreText(l []Note) (string, bool) {
	if !IsScore(l) {
		return "", false
	}
	var text strings.Builder
	for _, x := range l {
		name, _ := PitchName(x.Pitch)
		text.WriteString(name + " " + strconv.Itoa(x.Start) + " " + strconv.Itoa(x.Length) + "\n")
	}
	return text.String(), true
}

// ParseScore returns the score with a ScoreText. It fails if there is none.
func ParseScore(s string) ([]Note, bool) {
	l, ok := readLines(s, readNote)
	if !ok {
		return nil, false
	}
	return scoreOnly(l)
}

func inRange(n, least, most int) bool {
	return least <= n && n <= most
}

func isPitch(pitch int) bool {
	return inRange(pitch, LowPitch, HighPitch)
}

// endOfNote returns the first step behind a note.
func endOfNote(x Note) int {
	return x.Start + x.Length
}

func compareNotes(a, b Note) int {
	return cmp.Or(cmp.Compare(a.Start, b.Start), cmp.Compare(a.Pitch, b.Pitch))
}

// scoreOnly passes on notes that are a score; callers own their memory.
func scoreOnly(l []Note) ([]Note, bool) {
	if !IsScore(l) {
		return nil, false
	}
	return l, true
}

// changeScore checks the score before it changes it: with any other notes the change could overflow.
func changeScore(l []Note, change func(Note) Note) ([]Note, bool) {
	if !IsScore(l) {
		return nil, false
	}
	changed := make([]Note, len(l))
	for i, x := range l {
		changed[i] = change(x)
	}
	return scoreOnly(changed)
}

// readLines returns what is read in each line of a text, whose lines are all ended by a newline.
func readLines[T any](s string, read func(line string) (T, bool)) ([]T, bool) {
	lines := strings.Split(s, "\n")
	last := len(lines) - 1
	// Behind the last newline there is nothing.
	if lines[last] != "" {
		return nil, false
	}
	return readEach(lines[:last], read)
}

// readEach returns what is read in each word.
func readEach[T any](words []string, read func(word string) (T, bool)) ([]T, bool) {
	var all []T
	for _, word := range words {
		x, ok := read(word)
		if !ok {
			return nil, false
		}
		all = append(all, x)
	}
	return all, true
}

// readNote returns the note of a line of a ScoreText, without its newline.
func readNote(line string) (Note, bool) {
	words := strings.Split(line, " ")
	if len(words) != 3 {
		return Note{}, false
	}
	pitch, named := readPitch(words[0])
	start, starts := readNumber(words[1])
	length, lasts := readNumber(words[2])
	if !named || !starts || !lasts {
		return Note{}, false
	}
	return Note{Pitch: pitch, Start: start, Length: length}, true
}

// readPitch returns the pitch with a PitchName.
func readPitch(name string) (int, bool) {
	class, digits := splitName(name)
	octave, ok := readNumber(digits)
	// A greater octave could overflow below.
	if !ok || octave > HighPitch/12 {
		return 0, false
	}
	for residue, known := range classNames {
		pitch := 12*octave + residue
		if known == class && isPitch(pitch) {
			return pitch, true
		}
	}
	return 0, false
}

// splitName cuts a name before its first digit.
func splitName(name string) (string, string) {
	for i, r := range name {
		if isDigit(r) {
			return name[:i], name[i:]
		}
	}
	return name, ""
}

func isDigit(r rune) bool {
	return '0' <= r && r <= '9'
}

// readNumber returns the number that is at least 0 and is written so in decimal: writing it again finds signs and leading zeros.
func readNumber(word string) (int, bool) {
	n, err := strconv.Atoi(word)
	if err != nil || n < 0 || strconv.Itoa(n) != word {
		return 0, false
	}
	return n, true
}

// numbersLine returns a line with numbers in decimal, separated by single blanks.
func numbersLine(numbers ...int) string {
	var words []string
	for _, n := range numbers {
		words = append(words, strconv.Itoa(n))
	}
	return strings.Join(words, " ") + "\n"
}
