package tests

import (
	"math/big"
	"math/rand"
	"regexp"
	"slices"
	"strconv"
	"strings"
	"testing"

	"loop.example/g00949/impl"
)

func event(pitch, num, den int) impl.Event {
	return impl.Event{Pitch: pitch, Num: num, Den: den}
}

func rest(num, den int) impl.Event { return event(0, num, den) }

// repeated returns an event n times.
func repeated(n int, x impl.Event) []impl.Event {
	return slices.Repeat([]impl.Event{x}, n)
}

// example is the voice of the document's example.
func example() []impl.Event {
	return []impl.Event{event(60, 1, 2), rest(1, 3), event(62, 1, 6)}
}

// allDenominators returns a voice with each denominator once.
func allDenominators() []impl.Event {
	var l []impl.Event
	for den := 1; den <= 16; den++ {
		l = append(l, event(60+den, 1, den))
	}
	return l
}

// goodVoices returns voices of all kinds, by a name.
func goodVoices() map[string][]impl.Event {
	return map[string][]impl.Event{
		"nil":                   nil,
		"empty":                 {},
		"the example":           example(),
		"one note":              {event(61, 3, 8)},
		"one rest":              {rest(1, 4)},
		"rests alone":           {rest(1, 4), rest(1, 2), rest(1, 4)},
		"the shortest":          {event(24, 1, 16)},
		"the longest":           {event(96, 99, 1)},
		"all limits":            {event(24, 99, 16), rest(1, 16), event(96, 1, 1), rest(99, 1), event(24, 98, 15)},
		"no exact grid":         {event(60, 1, 7), event(62, 1, 8)},
		"no exact grid, an end": {event(60, 1, 16), event(60, 1, 5)},
		"no exact grid, primes": {rest(1, 13), event(60, 1, 4)},
		"the finest grid":       {event(60, 1, 16), event(62, 1, 3)},
		"a grid of 45":          {event(60, 1, 9), event(62, 1, 5), event(64, 1, 15)},
		"halves":                {event(60, 1, 2), event(62, 1, 1), event(64, 1, 2), rest(3, 2), event(65, 1, 2)},
		"one pitch":             {event(60, 1, 1), event(60, 1, 1), event(60, 1, 1)},
		"rests between":         {rest(1, 2), event(60, 1, 4), rest(1, 4), rest(1, 8), event(60, 1, 8), rest(1, 1)},
		"rests of no length":    {event(60, 1, 1), rest(1, 16), rest(1, 15)},
		"too long a rest":       {rest(99, 1), rest(1, 1), event(60, 1, 1)},
		"all denominators":      allDenominators(),
		"twenty notes":          repeated(20, event(60, 1, 4)),
		"twenty short notes":    repeated(20, event(70, 1, 16)),
		"twenty long notes":     repeated(20, event(70, 99, 1)),
		"twenty rests":          repeated(20, rest(1, 16)),
		"twenty long rests":     repeated(20, rest(99, 2)),
	}
}

// badEvents returns events that are not valid, each for one reason.
func badEvents() []impl.Event {
	l := []impl.Event{
		{}, event(60, 0, 1), event(60, 1, 0), event(60, 0, 0), event(60, -1, 1), event(60, 1, -1), event(60, -1, -1),
		event(60, 100, 1), event(60, 1, 17), event(60, 100, 17), rest(0, 1), rest(1, 0), rest(100, 1), rest(1, 17),
		event(60, 2, 2), event(60, 2, 4), event(60, 99, 3), event(60, 16, 16), rest(6, 4), rest(15, 10), event(60, 98, 14),
		event(23, 1, 1), event(97, 1, 1), event(1, 1, 1), event(-1, 1, 1), event(-60, 1, 1),
	}
	for _, n := range extremes {
		l = append(l, event(n, 1, 1), event(60, n, 1), event(60, 1, n), rest(n, 1), rest(1, n), event(n, n, n))
	}
	return l
}

func eventWords(x impl.Event) string {
	return strconv.Itoa(x.Pitch) + " " + strconv.Itoa(x.Num) + "/" + strconv.Itoa(x.Den)
}

// noVoices returns all that a function that requires a voice must refuse.
func noVoices() map[string][]impl.Event {
	all := map[string][]impl.Event{
		"one event too many": repeated(21, event(60, 1, 1)),
		"one rest too many":  repeated(21, rest(1, 16)),
		"very many":          repeated(5000, event(60, 1, 4)),
	}
	for _, x := range badEvents() {
		text := eventWords(x)
		all["bad: "+text] = []impl.Event{x}
		all["bad first: "+text] = []impl.Event{x, event(24, 1, 1)}
		all["bad last: "+text] = []impl.Event{event(96, 1, 16), rest(1, 2), x}
		all["bad twentieth: "+text] = append(repeated(19, rest(1, 2)), x)
	}
	return all
}

// isVoice is the definition of a voice in the document.
func isVoice(l []impl.Event) bool {
	for _, x := range l {
		if x.Pitch != 0 && (x.Pitch < 24 || x.Pitch > 96) || x.Num < 1 || x.Num > 99 || x.Den < 1 || x.Den > 16 {
			return false
		}
		if lengthOf(x).Denom().Int64() != int64(x.Den) {
			return false
		}
	}
	return len(l) <= 20
}

// lengthOf returns the length of an event; its Den is not 0.
func lengthOf(x impl.Event) *big.Rat { return ratio(x.Num, x.Den) }

func ratio(num, den int) *big.Rat { return big.NewRat(int64(num), int64(den)) }

// startOf returns the start of event i of a voice; with the number of events it is the voice's length.
func startOf(l []impl.Event, i int) *big.Rat {
	sum := new(big.Rat)
	for _, x := range l[:i] {
		sum.Add(sum, lengthOf(x))
	}
	return sum
}

// isRatio reports whether two numbers are a fraction in lowest terms.
func isRatio(num, den int, want *big.Rat) bool {
	return want.Num().Cmp(big.NewInt(int64(num))) == 0 && want.Denom().Cmp(big.NewInt(int64(den))) == 0
}

// stepNear returns the step of a grid nearest to a time, halves up, and how far it is from it, by trying steps.
func stepNear(time *big.Rat, grid int) (int, *big.Rat) {
	at := new(big.Rat).Mul(time, ratio(grid, 1))
	step := int(new(big.Int).Quo(at.Num(), at.Denom()).Int64())
	below := new(big.Rat).Sub(at, ratio(step, 1))
	above := new(big.Rat).Sub(ratio(step+1, 1), at)
	if above.Cmp(below) <= 0 {
		return step + 1, above
	}
	return step, below
}

// someLength returns a length in lowest terms, often a simple one.
func someLength(r *rand.Rand) (int, int) {
	dens := []int{1, 1, 2, 2, 3, 4, 4, 6, 8, 16, 5, 12, 1 + r.Intn(16)}
	for {
		num, den := 1+r.Intn(8), dens[r.Intn(len(dens))]
		if r.Intn(8) == 0 {
			num = 1 + r.Intn(99)
		}
		if isVoice([]impl.Event{rest(num, den)}) {
			return num, den
		}
	}
}

// someVoice returns a voice with many rests.
func someVoice(r *rand.Rand) []impl.Event {
	var l []impl.Event
	for range r.Intn(21) {
		num, den := someLength(r)
		pitch := 24 + r.Intn(73)
		if r.Intn(3) == 0 {
			pitch = 0
		}
		l = append(l, event(pitch, num, den))
	}
	return l
}

func TestVoiceLimits(t *testing.T) {
	if impl.MaxEvents != 20 || impl.MaxDenominator != 16 {
		t.Error("limits", impl.MaxEvents, impl.MaxDenominator)
	}
}

func TestIsVoice(t *testing.T) {
	for name, l := range goodVoices() {
		if !impl.IsVoice(l) {
			t.Error("a voice:", name)
		}
	}
	for name, l := range noVoices() {
		if impl.IsVoice(l) {
			t.Error("no voice:", name)
		}
	}
	for n := -110; n <= 220; n++ {
		if got, want := impl.IsVoice([]impl.Event{event(n, 1, 1)}), n == 0 || n >= 24 && n <= 96; got != want {
			t.Error("pitch", n, got)
		}
		for den := -40; den <= 60; den++ {
			want := den != 0 && isVoice([]impl.Event{event(60, n, den)})
			if got := impl.IsVoice([]impl.Event{event(60, n, den)}); got != want {
				t.Error("a note of", n, den, got)
			}
			if got := impl.IsVoice([]impl.Event{event(24, 1, 1), rest(n, den)}); got != want {
				t.Error("a rest of", n, den, got)
			}
		}
	}
	for n := range 50 {
		if got := impl.IsVoice(repeated(n, rest(1, 1))); got != (n <= 20) {
			t.Error("events", n, got)
		}
	}
}

func TestVoiceLength(t *testing.T) {
	tests := []struct {
		l        []impl.Event
		num, den int
	}{
		{nil, 0, 1},
		{[]impl.Event{}, 0, 1},
		{example(), 1, 1},
		{[]impl.Event{rest(1, 4)}, 1, 4},
		{[]impl.Event{event(60, 99, 16)}, 99, 16},
		{[]impl.Event{rest(1, 4), rest(1, 2), rest(1, 4)}, 1, 1},
		{[]impl.Event{event(60, 1, 16), rest(1, 15)}, 31, 240},
		{[]impl.Event{event(60, 1, 13), event(60, 1, 11), event(60, 1, 7)}, 311, 1001},
		{repeated(20, event(60, 99, 1)), 1980, 1},
		{repeated(20, rest(1, 16)), 5, 4},
		{allDenominators(), 2436559, 720720},
	}
	for _, x := range tests {
		if num, den, ok := impl.VoiceLength(x.l); num != x.num || den != x.den || !ok {
			t.Error(x.l, num, den, ok)
		}
	}
}

func TestEventStart(t *testing.T) {
	tests := []struct {
		l           []impl.Event
		i, num, den int
		ok          bool
	}{
		{example(), -1, 0, 0, false}, {example(), 0, 0, 1, true}, {example(), 1, 1, 2, true},
		{example(), 2, 5, 6, true}, {example(), 3, 0, 0, false}, {example(), 4, 0, 0, false},
		{nil, -1, 0, 0, false}, {nil, 0, 0, 0, false}, {nil, 1, 0, 0, false},
		{[]impl.Event{rest(1, 4)}, 0, 0, 1, true}, {[]impl.Event{rest(1, 4)}, 1, 0, 0, false},
		{repeated(20, event(60, 99, 1)), 19, 1881, 1, true}, {repeated(20, event(60, 99, 1)), 20, 0, 0, false},
		{repeated(20, event(60, 1, 16)), 8, 1, 2, true},
		{allDenominators(), 15, 1195757, 360360, true}, {allDenominators(), 16, 0, 0, false},
	}
	for _, x := range tests {
		if num, den, ok := impl.EventStart(x.l, x.i); num != x.num || den != x.den || ok != x.ok {
			t.Error(x.l, x.i, num, den, ok)
		}
		for _, i := range extremes {
			if num, den, ok := impl.EventStart(x.l, i); num != 0 || den != 0 || ok {
				t.Error(x.l, i, num, den, ok)
			}
		}
	}
}

// longVoice returns rests up to a start and an event there.
func longVoice(start int, x impl.Event) []impl.Event {
	var l []impl.Event
	for start > 0 {
		length := min(start, 99)
		l = append(l, rest(length, 1))
		start -= length
	}
	return append(l, x)
}

func TestQuantiseVoice(t *testing.T) {
	halves := []impl.Event{event(60, 1, 2), event(62, 1, 1), event(64, 1, 2)}
	short := []impl.Event{event(60, 1, 16), event(62, 1, 16), event(64, 15, 8), event(65, 1, 3), rest(1, 3), event(60, 1, 6)}
	tests := []struct {
		l    []impl.Event
		grid int
		want []impl.Note
		ok   bool
	}{
		{nil, 1, nil, true}, {nil, 48, nil, true}, {nil, 0, nil, false}, {nil, 49, nil, false},
		{example(), 4, []impl.Note{note(60, 0, 2), note(62, 3, 1)}, true},
		{example(), 6, []impl.Note{note(60, 0, 3), note(62, 5, 1)}, true},
		{example(), 48, []impl.Note{note(60, 0, 24), note(62, 40, 8)}, true},
		{example(), 1, []impl.Note{note(60, 0, 1)}, true},
		{example(), 0, nil, false}, {example(), 49, nil, false}, {example(), -1, nil, false}, {example(), -6, nil, false},
		{halves, 1, []impl.Note{note(60, 0, 1), note(62, 1, 1)}, true},
		{halves, 2, []impl.Note{note(60, 0, 1), note(62, 1, 2), note(64, 3, 1)}, true},
		{halves, 3, []impl.Note{note(60, 0, 2), note(62, 2, 3), note(64, 5, 1)}, true},
		{short, 1, []impl.Note{note(64, 0, 2)}, true},
		{short, 3, []impl.Note{note(64, 0, 6), note(65, 6, 1), note(60, 8, 1)}, true},
		{repeated(3, event(60, 1, 1)), 1, []impl.Note{note(60, 0, 1), note(60, 1, 1), note(60, 2, 1)}, true},
		{[]impl.Event{rest(99, 1), rest(1, 16)}, 48, nil, true},
		{[]impl.Event{event(60, 99, 1)}, 1, []impl.Note{note(60, 0, 99)}, true},
		{[]impl.Event{event(60, 99, 1)}, 2, nil, false},
		{[]impl.Event{event(60, 99, 1)}, 48, nil, false},
		{[]impl.Event{event(60, 99, 16)}, 16, []impl.Note{note(60, 0, 99)}, true},
		{[]impl.Event{event(60, 99, 16)}, 17, nil, false},
		{[]impl.Event{event(60, 33, 16)}, 48, []impl.Note{note(60, 0, 99)}, true},
		{[]impl.Event{event(60, 1, 1), event(60, 67, 16)}, 24, nil, false},
		{longVoice(999, event(60, 99, 1)), 1, []impl.Note{note(60, 999, 99)}, true},
		{longVoice(1000, event(60, 1, 1)), 1, nil, false},
		{longVoice(1000, event(60, 1, 4)), 1, nil, true},
		{longVoice(333, event(60, 1, 3)), 3, []impl.Note{note(60, 999, 1)}, true},
		{longVoice(334, event(60, 1, 3)), 3, nil, false},
		{longVoice(1000, rest(99, 1)), 48, nil, true},
		{append([]impl.Event{event(70, 1, 1)}, longVoice(999, event(60, 1, 1))...), 1, nil, false},
		{repeated(20, event(70, 2, 1)), 48, nil, false},
		{repeated(20, event(70, 1, 1)), 48, fixedNotes(20, 48), true},
	}
	for _, x := range tests {
		if got, ok := impl.QuantiseVoice(x.l, x.grid); ok != x.ok || !slices.Equal(got, x.want) {
			t.Error(x.l, x.grid, got, ok)
		}
		for _, grid := range extremes {
			if got, ok := impl.QuantiseVoice(x.l, grid); ok || got != nil {
				t.Error(x.l, grid, got, ok)
			}
		}
	}
}

// fixedNotes returns n notes of the pitch 70 and one length that just follow each other.
func fixedNotes(n, length int) []impl.Note {
	var l []impl.Note
	for i := range n {
		l = append(l, note(70, i*length, length))
	}
	return l
}

func TestExactGrid(t *testing.T) {
	tests := []struct {
		l    []impl.Event
		want int
		ok   bool
	}{
		{nil, 1, true},
		{[]impl.Event{}, 1, true},
		{example(), 6, true},
		{[]impl.Event{event(60, 99, 1)}, 1, true},
		{[]impl.Event{event(60, 1, 2)}, 2, true},
		{[]impl.Event{rest(1, 2)}, 2, true},
		{[]impl.Event{event(60, 1, 2), event(60, 1, 2)}, 2, true},
		{[]impl.Event{event(60, 3, 4), event(60, 1, 6)}, 12, true},
		{[]impl.Event{event(60, 1, 16), event(62, 1, 3)}, 48, true},
		{[]impl.Event{rest(1, 3), rest(1, 16)}, 48, true},
		{[]impl.Event{event(60, 1, 15), event(62, 1, 3), event(60, 1, 9)}, 45, true},
		{[]impl.Event{event(60, 1, 16), event(62, 1, 5)}, 0, false},
		{[]impl.Event{event(60, 1, 7), event(62, 1, 8)}, 0, false},
		{[]impl.Event{event(60, 1, 4), event(62, 1, 13)}, 0, false},
		{[]impl.Event{event(60, 1, 13), event(62, 1, 3)}, 39, true},
		{[]impl.Event{event(60, 1, 7), event(60, 1, 7), event(62, 1, 6)}, 42, true},
		{repeated(20, event(60, 1, 16)), 16, true},
		{allDenominators(), 0, false},
	}
	for _, x := range tests {
		if got, ok := impl.ExactGrid(x.l); got != x.want || ok != x.ok {
			t.Error(x.l, got, ok)
		}
	}
}

func TestGridError(t *testing.T) {
	halves := []impl.Event{event(60, 1, 2), rest(1, 4)}
	tests := []struct {
		l              []impl.Event
		grid, num, den int
		ok             bool
	}{
		{nil, 1, 0, 1, true}, {nil, 48, 0, 1, true}, {nil, 0, 0, 0, false}, {nil, 49, 0, 0, false},
		{example(), 0, 0, 0, false}, {example(), 49, 0, 0, false}, {example(), -6, 0, 0, false},
		{example(), 1, 1, 2, true}, {example(), 2, 1, 3, true}, {example(), 3, 1, 2, true}, {example(), 4, 1, 3, true},
		{example(), 5, 1, 2, true}, {example(), 6, 0, 1, true}, {example(), 7, 1, 2, true}, {example(), 48, 0, 1, true},
		{[]impl.Event{event(60, 1, 7)}, 1, 0, 1, true},
		{[]impl.Event{rest(99, 16)}, 48, 0, 1, true},
		{halves, 1, 1, 2, true}, {halves, 2, 0, 1, true}, {halves, 3, 1, 2, true}, {halves, 4, 0, 1, true},
		{[]impl.Event{rest(1, 13), event(60, 1, 1)}, 48, 4, 13, true},
		{[]impl.Event{rest(1, 16), event(60, 1, 1)}, 1, 1, 16, true},
		{[]impl.Event{rest(15, 16), event(60, 1, 1)}, 1, 1, 16, true},
		{[]impl.Event{event(60, 1, 16), event(60, 1, 15), rest(1, 1)}, 1, 31, 240, true},
		{repeated(20, event(60, 99, 16)), 1, 1, 2, true},
	}
	for _, x := range tests {
		if num, den, ok := impl.GridError(x.l, x.grid); num != x.num || den != x.den || ok != x.ok {
			t.Error(x.l, x.grid, num, den, ok)
		}
		for _, grid := range extremes {
			if num, den, ok := impl.GridError(x.l, grid); num != 0 || den != 0 || ok {
				t.Error(x.l, grid, num, den, ok)
			}
		}
	}
}

func TestTransposeVoice(t *testing.T) {
	high, low := []impl.Event{event(96, 3, 4), rest(1, 2)}, []impl.Event{rest(1, 3), event(24, 99, 16)}
	tests := []struct {
		l    []impl.Event
		by   int
		want []impl.Event
		ok   bool
	}{
		{example(), 0, example(), true},
		{example(), 1, []impl.Event{event(61, 1, 2), rest(1, 3), event(63, 1, 6)}, true},
		{example(), 34, []impl.Event{event(94, 1, 2), rest(1, 3), event(96, 1, 6)}, true},
		{example(), 35, nil, false},
		{example(), -36, []impl.Event{event(24, 1, 2), rest(1, 3), event(26, 1, 6)}, true},
		{example(), -37, nil, false},
		{high, -72, []impl.Event{event(24, 3, 4), rest(1, 2)}, true},
		{high, -73, nil, false}, {high, 1, nil, false}, {high, 72, nil, false},
		{low, 72, []impl.Event{rest(1, 3), event(96, 99, 16)}, true},
		{low, 73, nil, false}, {low, -1, nil, false}, {low, -72, nil, false}, {low, -24, []impl.Event{rest(1, 3), rest(99, 16)}, true},
		{nil, 72, nil, true}, {nil, -72, nil, true}, {nil, 73, nil, false}, {nil, -73, nil, false},
		{repeated(20, rest(1, 2)), 72, repeated(20, rest(1, 2)), true},
		{repeated(20, rest(1, 2)), -72, repeated(20, rest(1, 2)), true},
		{repeated(20, rest(1, 2)), 73, nil, false},
		{repeated(20, event(60, 1, 2)), 36, repeated(20, event(96, 1, 2)), true},
		// The sum 0 is no pitch, but with it the event is a rest, so that there is a voice.
		{[]impl.Event{event(72, 1, 2)}, -72, []impl.Event{rest(1, 2)}, true},
		{[]impl.Event{event(71, 1, 2)}, -72, nil, false},
		{[]impl.Event{event(97, 1, 2)}, -1, nil, false},
		{[]impl.Event{event(23, 1, 2)}, 1, nil, false},
	}
	for _, x := range tests {
		if got, ok := impl.TransposeVoice(x.l, x.by); ok != x.ok || !slices.Equal(got, x.want) {
			t.Error(x.l, x.by, got, ok)
		}
		for _, by := range extremes {
			if got, ok := impl.TransposeVoice(x.l, by); ok || got != nil {
				t.Error(x.l, by, got, ok)
			}
		}
	}
}

func TestStretchVoice(t *testing.T) {
	one := func(num, den int) []impl.Event { return []impl.Event{event(60, num, den)} }
	tests := []struct {
		l        []impl.Event
		num, den int
		want     []impl.Event
		ok       bool
	}{
		{example(), 1, 1, example(), true},
		{example(), 16, 16, example(), true},
		{example(), 2, 1, []impl.Event{event(60, 1, 1), rest(2, 3), event(62, 1, 3)}, true},
		{example(), 6, 3, []impl.Event{event(60, 1, 1), rest(2, 3), event(62, 1, 3)}, true},
		{example(), 1, 2, []impl.Event{event(60, 1, 4), rest(1, 6), event(62, 1, 12)}, true},
		{example(), 8, 16, []impl.Event{event(60, 1, 4), rest(1, 6), event(62, 1, 12)}, true},
		{example(), 1, 3, nil, false},
		{example(), 2, 3, []impl.Event{event(60, 1, 3), rest(2, 9), event(62, 1, 9)}, true},
		{example(), 16, 1, []impl.Event{event(60, 8, 1), rest(16, 3), event(62, 8, 3)}, true},
		{example(), 1, 16, nil, false},
		{example(), 0, 1, nil, false}, {example(), 1, 0, nil, false}, {example(), 0, 0, nil, false},
		{example(), 17, 1, nil, false}, {example(), 1, 17, nil, false}, {example(), 17, 17, nil, false},
		{example(), -1, 1, nil, false}, {example(), 1, -1, nil, false}, {example(), -1, -1, nil, false},
		{nil, 1, 1, nil, true}, {nil, 16, 16, nil, true}, {nil, 1, 16, nil, true}, {nil, 16, 1, nil, true},
		{nil, 17, 1, nil, false}, {nil, 1, 17, nil, false}, {nil, 0, 1, nil, false}, {nil, 1, 0, nil, false},
		{one(1, 1), 1, 16, one(1, 16), true}, {one(1, 1), 16, 1, one(16, 1), true},
		{one(1, 16), 1, 2, nil, false}, {one(1, 16), 2, 1, one(1, 8), true}, {one(1, 16), 16, 1, one(1, 1), true},
		{one(99, 1), 1, 1, one(99, 1), true}, {one(99, 1), 2, 1, nil, false}, {one(99, 1), 1, 16, one(99, 16), true},
		{one(99, 1), 16, 15, nil, false}, {one(99, 1), 15, 16, nil, false}, {one(99, 1), 11, 12, nil, false},
		{one(33, 1), 3, 1, one(99, 1), true}, {one(50, 1), 2, 1, nil, false}, {one(99, 16), 16, 11, one(9, 1), true},
		{one(99, 16), 16, 9, one(11, 1), true}, {one(7, 15), 15, 14, one(1, 2), true}, {one(1, 9), 1, 2, nil, false},
		{one(1, 8), 1, 2, one(1, 16), true}, {one(7, 16), 15, 14, nil, false},
		{append(repeated(19, event(60, 1, 1)), rest(99, 1)), 2, 1, nil, false},
		{append(repeated(19, event(60, 1, 1)), rest(1, 16)), 1, 2, nil, false},
		{repeated(20, rest(49, 1)), 2, 1, repeated(20, rest(98, 1)), true},
	}
	for _, x := range tests {
		if got, ok := impl.StretchVoice(x.l, x.num, x.den); ok != x.ok || !slices.Equal(got, x.want) {
			t.Error(x.l, x.num, x.den, got, ok)
		}
		for _, n := range extremes {
			for _, pair := range [][2]int{{n, 1}, {1, n}, {n, n}} {
				if got, ok := impl.StretchVoice(x.l, pair[0], pair[1]); ok || got != nil {
					t.Error(x.l, pair, got, ok)
				}
			}
		}
	}
}

func TestMergeRests(t *testing.T) {
	c, d := event(60, 1, 2), event(62, 1, 4)
	tests := []struct {
		l, want []impl.Event
		ok      bool
	}{
		{nil, nil, true},
		{example(), example(), true},
		{[]impl.Event{c, d, c}, []impl.Event{c, d, c}, true},
		{[]impl.Event{c, c, c}, []impl.Event{c, c, c}, true},
		{[]impl.Event{rest(1, 4)}, []impl.Event{rest(1, 4)}, true},
		{[]impl.Event{rest(1, 4), rest(1, 2), rest(1, 4)}, []impl.Event{rest(1, 1)}, true},
		{[]impl.Event{rest(1, 3), rest(1, 6), c}, []impl.Event{rest(1, 2), c}, true},
		{[]impl.Event{c, rest(1, 3), rest(1, 6)}, []impl.Event{c, rest(1, 2)}, true},
		{[]impl.Event{c, rest(1, 3), rest(1, 6), d}, []impl.Event{c, rest(1, 2), d}, true},
		{[]impl.Event{rest(1, 8), c, rest(1, 8), d, rest(1, 8)}, []impl.Event{rest(1, 8), c, rest(1, 8), d, rest(1, 8)}, true},
		{[]impl.Event{rest(1, 8), rest(1, 8), c, rest(3, 8), rest(1, 8), rest(5, 8), d, c, rest(1, 3), rest(1, 4)},
			[]impl.Event{rest(1, 4), c, rest(9, 8), d, c, rest(7, 12)}, true},
		{[]impl.Event{rest(99, 1), c, rest(99, 1)}, []impl.Event{rest(99, 1), c, rest(99, 1)}, true},
		{[]impl.Event{rest(98, 1), rest(1, 2), rest(1, 2)}, []impl.Event{rest(99, 1)}, true},
		{[]impl.Event{rest(99, 1), rest(1, 1)}, nil, false},
		{[]impl.Event{rest(99, 1), rest(1, 16)}, nil, false},
		{[]impl.Event{c, rest(1, 16), rest(1, 15)}, nil, false},
		{[]impl.Event{rest(1, 16), rest(1, 15), c}, nil, false},
		{[]impl.Event{c, rest(1, 9), rest(1, 6), d}, nil, false},
		{[]impl.Event{c, rest(1, 9), rest(1, 6), rest(2, 9), d}, []impl.Event{c, rest(1, 2), d}, true},
		{[]impl.Event{rest(1, 2), rest(1, 2), c, rest(1, 16), rest(1, 3)}, nil, false},
		{[]impl.Event{rest(1, 16), rest(1, 3), c, rest(1, 2), rest(1, 2)}, nil, false},
		{repeated(20, rest(1, 16)), []impl.Event{rest(5, 4)}, true},
		{repeated(20, rest(5, 1)), nil, false},
		{repeated(19, rest(5, 1)), []impl.Event{rest(95, 1)}, true},
		{repeated(20, c), repeated(20, c), true},
		{append(repeated(18, rest(1, 16)), c, d), []impl.Event{rest(9, 8), c, d}, true},
	}
	for _, x := range tests {
		if got, ok := impl.MergeRests(x.l); ok != x.ok || !slices.Equal(got, x.want) {
			t.Error(x.l, got, ok)
		}
	}
}

func TestVoiceText(t *testing.T) {
	tests := []struct {
		l    []impl.Event
		want string
	}{
		{nil, ""},
		{[]impl.Event{}, ""},
		{example(), "c5*1/2 r*1/3 d5*1/6"},
		{[]impl.Event{rest(99, 16)}, "r*99/16"},
		{[]impl.Event{event(24, 1, 1), event(96, 97, 10), event(59, 10, 1)}, "c2*1/1 c8*97/10 b4*10/1"},
		{[]impl.Event{event(61, 1, 16), rest(1, 1), rest(9, 10)}, "c#5*1/16 r*1/1 r*9/10"},
		{repeated(20, rest(3, 4)), strings.Repeat("r*3/4 ", 19) + "r*3/4"},
	}
	for _, x := range tests {
		if got, ok := impl.VoiceText(x.l); !ok || got != x.want {
			t.Errorf("%v: %q %v", x.l, got, ok)
		}
		if got, ok := impl.ParseVoice(x.want); !ok || !slices.Equal(got, x.l) {
			t.Errorf("%q: %v %v", x.want, got, ok)
		}
	}
	for pitch := 24; pitch <= 96; pitch++ {
		name, _ := impl.PitchName(pitch)
		if got, ok := impl.VoiceText([]impl.Event{event(pitch, 3, 7)}); !ok || got != name+"*3/7" {
			t.Error(pitch, got, ok)
		}
	}
}

func TestWhatRequiresAVoiceRefusesOthers(t *testing.T) {
	for name, l := range noVoices() {
		num, den, ok := impl.VoiceLength(l)
		if num != 0 || den != 0 || ok {
			t.Error("VoiceLength", name, num, den, ok)
		}
		for _, n := range []int{-1, 0, 1, 2, 4, 20, 48} {
			if num, den, ok = impl.EventStart(l, n); num != 0 || den != 0 || ok {
				t.Error("EventStart", name, n, num, den, ok)
			}
			if got, ok := impl.QuantiseVoice(l, n); got != nil || ok {
				t.Error("QuantiseVoice", name, n, got, ok)
			}
			if num, den, ok = impl.GridError(l, n); num != 0 || den != 0 || ok {
				t.Error("GridError", name, n, num, den, ok)
			}
			if got, ok := impl.TransposeVoice(l, n); got != nil || ok {
				t.Error("TransposeVoice", name, n, got, ok)
			}
			if got, ok := impl.StretchVoice(l, n, 2); got != nil || ok {
				t.Error("StretchVoice", name, n, got, ok)
			}
			if got, ok := impl.StretchVoice(l, 2, n); got != nil || ok {
				t.Error("StretchVoice", name, n, got, ok)
			}
		}
		if grid, ok := impl.ExactGrid(l); grid != 0 || ok {
			t.Error("ExactGrid", name, grid, ok)
		}
		if got, ok := impl.MergeRests(l); got != nil || ok {
			t.Error("MergeRests", name, got, ok)
		}
		if text, ok := impl.VoiceText(l); text != "" || ok {
			t.Error("VoiceText", name, text, ok)
		}
	}
}

// notVoiceTexts are no text of a voice.
func notVoiceTexts() []string {
	return []string{
		" ", "  ", "\n", "c5*1/2\n", "\nc5*1/2", " c5*1/2", "c5*1/2 ", "c5*1/2  d5*1/2", "c5*1/2\nd5*1/2", "c5*1/2\td5*1/2",
		"c5*1/2d5*1/2", "c5*1/2,d5*1/2", "c5*1/2\u00a0d5*1/2", "c5*1/2 \x00", "c5*1/2\x00", "c5*1/2 r*1/3 d5*1/6 ",
		"c5 *1/2", "c5* 1/2", "c5*1 /2", "c5*1/ 2", "c5", "r", "c5*", "c5*1", "c5*1/", "c5*/2", "*1/2", "/", "*", "*/", "c51/2",
		"c5/1*2", "c5*12", "c5**1/2", "c5*1//2", "c5*1*2", "c5/1/2", "c5*1/2*1", "c5*1/2/1", "1/2", "c5*1.5/2", "c5*0.5",
		"c5*01/2", "c5*1/02", "c05*1/2", "c5*001/2", "c5*+1/2", "c5*1/+2", "c5*-1/2", "c5*1/-2", "c5*-1/-2", "c+5*1/2", "c-5*1/2",
		"c5*0/1", "c5*00/1", "c5*1/0", "c5*0/0", "r*0/1", "r*1/0", "c5*100/1", "c5*1/17", "r*100/1", "r*1/17", "c5*100/17",
		"c5*2/2", "c5*2/4", "r*2/4", "c5*3/9", "c5*16/16", "c5*99/3", "c5*14/7", "c5*4/2", "r*10/5", "c5*1/2 r*2/6",
		"C5*1/2", "R*1/2", "h5*1/2", "e#5*1/2", "b#5*1/2", "db5*1/2", "c##5*1/2", "#5*1/2", "5*1/2", "c*1/2", "c#*1/2", "c5#*1/2",
		"60*1/2", "0*1/2", "r0*1/2", "r5*1/2", "r#*1/2", "rr*1/2", "p*1/2", "rest*1/2", "rc5*1/2", "c5r*1/2", "r2*1/2",
		"c1*1/2", "b1*1/2", "c#8*1/2", "d8*1/2", "c9*1/2", "c10*1/2", "c0*1/2", "c55*1/2",
		"c5*1/2 x", "x c5*1/2", "c5*1/2 d5", "c5 d5*1/2", "c5*1/2 c5*1/17", "c5*1/2 c1*1/2", "r*1/2 r", "r r*1/2",
		"c\xff5*1/2", "\xff5*1/2", "c5*1/2\xff", "c5\xff*1/2", "c\uff15*1/2", "c5*\uff11/2", "c5*1/\u0662", "c5\uff0a1/2", "c5*1\uff0f2",
		"c5*1_0/1", "c5*0x1/2", "c5*1e1/1", "c5*18446744073709551617/2", "c5*1/18446744073709551618", "c5*4294967297/2",
		"c5*9223372036854775807/1", "c5*9223372036854775808/1", "c5*1/9223372036854775807", "c18446744073709551621*1/2",
		strings.Repeat("r*1/1 ", 20) + "r*1/1", strings.Repeat("c5*1/4 ", 20) + "d5*1/4", strings.Repeat("r*1/1 ", 20),
		strings.Repeat("r*1/1 ", 20000) + "r*1/1", strings.Repeat(" ", 20000), strings.Repeat("*", 20000), strings.Repeat("/", 20000),
		"c5*" + strings.Repeat("1", 20000) + "/2", "c" + strings.Repeat("5", 20000) + "*1/2", strings.Repeat("c", 20000),
	}
}

func TestParseVoice(t *testing.T) {
	if got, ok := impl.ParseVoice(""); !ok || len(got) != 0 {
		t.Error("no events", got, ok)
	}
	if got, ok := impl.ParseVoice(strings.Repeat("r*1/1 ", 19) + "r*1/1"); !ok || !slices.Equal(got, repeated(20, rest(1, 1))) {
		t.Error("twenty rests", got, ok)
	}
	for _, s := range notVoiceTexts() {
		if got, ok := impl.ParseVoice(s); ok || got != nil {
			t.Errorf("%.60q: %v %v", s, got, ok)
		}
	}
}

var wordForm = regexp.MustCompile(`^(r|[a-g]#?[0-9])\*([1-9][0-9]{0,3})/([1-9][0-9]{0,3})$`)

// readVoice reads a text by looking its names up in pitches.
func readVoice(s string, pitches map[string]int) ([]impl.Event, bool) {
	if s == "" {
		return nil, true
	}
	var l []impl.Event
	for _, word := range strings.Split(s, " ") {
		parts := wordForm.FindStringSubmatch(word)
		if parts == nil {
			return nil, false
		}
		// The pitch of the name c0 would be that of a rest.
		pitch := pitches[parts[1]]
		if (pitch == 0) != (parts[1] == "r") {
			return nil, false
		}
		num, _ := strconv.Atoi(parts[2])
		den, _ := strconv.Atoi(parts[3])
		l = append(l, event(pitch, num, den))
	}
	return l, isVoice(l)
}

// TestParseVoiceOfChangedTexts changes each byte of texts.
func TestParseVoiceOfChangedTexts(t *testing.T) {
	bases := []string{
		"c5*1/2 r*1/3 d5*1/6", "r*1/1", "c#2*9/16 c8*97/10", "r*1/2 r*1/2 r*99/1",
		strings.Repeat("r*1/1 ", 18) + "a#4*1/1", strings.Repeat("c5*1/1 ", 19) + "r*1/2",
	}
	pitches := pitchesByName()
	read := func(s string) ([]impl.Event, bool) { return readVoice(s, pitches) }
	if n := checkReading(t, bases, impl.ParseVoice, read, impl.VoiceText); n < 300 {
		t.Error("too few texts are read", n)
	}
}
