package tests

import (
	"fmt"
	"math"
	"math/rand"
	"regexp"
	"slices"
	"sort"
	"strconv"
	"strings"
	"testing"

	"loop.example/g00949/impl"
)

func hole(track, from, to int) impl.Hole {
	return impl.Hole{Track: track, From: from, To: to}
}

// holes returns the holes of triples of a track, a From and a To.
func holes(triples ...int) []impl.Hole {
	var l []impl.Hole
	for i := 0; i < len(triples); i += 3 {
		l = append(l, hole(triples[i], triples[i+1], triples[i+2]))
	}
	return l
}

// exampleSheet is the sheet of the document's example.
func exampleSheet() []impl.Hole { return holes(3, 0, 4, 5, 2, 6, 3, 7, 9) }

// manyHoles returns n holes of one track with a web of one step after each.
func manyHoles(n int) []impl.Hole {
	var l []impl.Hole
	for i := range n {
		l = append(l, hole(7, 3*i, 3*i+2))
	}
	return l
}

// blockOfHoles returns n holes, in all tracks at once, then in all tracks again.
func blockOfHoles(n int) []impl.Hole {
	var l []impl.Hole
	for i := range n {
		l = append(l, hole(i%20, i/20*5, i/20*5+4))
	}
	return l
}

// goodSheets returns sheets of all kinds, by a name.
func goodSheets() map[string][]impl.Hole {
	return map[string][]impl.Hole{
		"nil":                   nil,
		"empty":                 {},
		"the example":           exampleSheet(),
		"one hole":              holes(7, 100, 200),
		"one step":              holes(7, 100, 101),
		"the first step":        holes(0, 0, 1),
		"the last step":         holes(19, 1999, 2000),
		"a whole track":         holes(5, 0, 2000),
		"the least web":         holes(4, 0, 3, 4, 4, 9),
		"the least web, apart":  holes(4, 0, 3, 5, 1, 9, 4, 4, 9, 5, 10, 11),
		"the greatest web":      holes(4, 0, 1, 4, 1999, 2000),
		"a hole over others":    holes(2, 0, 50, 1, 5, 9, 3, 5, 10, 1, 20, 30),
		"equal Froms":           holes(0, 6, 8, 1, 6, 7, 18, 6, 2000, 19, 6, 9),
		"equal Tos":             holes(19, 0, 10, 3, 1, 10, 0, 2, 10, 7, 9, 10),
		"equal holes":           holes(2, 6, 9, 3, 6, 9, 17, 6, 9),
		"both ends of a track":  holes(0, 0, 10, 19, 0, 10, 0, 1990, 2000, 19, 1990, 2000),
		"three of one track":    holes(9, 0, 5, 9, 12, 15, 9, 18, 19),
		"sixty holes":           manyHoles(60),
		"sixty holes, all rows": blockOfHoles(60),
		"fifty-nine holes":      manyHoles(59),
	}
}

// badHoles returns holes that are not valid, most of them for one reason.
func badHoles() []impl.Hole {
	l := []impl.Hole{
		{}, hole(-1, 500, 501), hole(20, 500, 501), hole(-19, 500, 501), hole(40, 500, 501),
		hole(5, -1, 501), hole(5, -1, 0), hole(5, -9, -3), hole(5, 500, 2001), hole(5, 1999, 2001), hole(5, 2000, 2001), hole(5, 0, 2001),
		hole(5, 500, 500), hole(5, 501, 500), hole(5, 0, 0), hole(5, 2000, 2000), hole(5, 2000, 0), hole(5, 1, 0), hole(5, 500, -1),
	}
	for _, n := range extremes {
		l = append(l, hole(n, 500, 501), hole(5, n, 501), hole(5, 500, n), hole(5, n, n), hole(n, n, n))
	}
	return append(l, hole(5, math.MinInt, math.MaxInt), hole(5, math.MaxInt, math.MinInt))
}

// validButNoSheet returns lists of valid holes that are no sheets in any order.
func validButNoSheet() map[string][]impl.Hole {
	return map[string][]impl.Hole{
		"a hole twice":              holes(5, 3, 9, 5, 3, 9),
		"one track and From":        holes(5, 3, 9, 5, 3, 10),
		"no web":                    holes(5, 3, 9, 5, 9, 12),
		"no web, apart":             holes(5, 3, 9, 4, 4, 8, 6, 5, 9, 5, 9, 12),
		"no web at the second one":  holes(5, 3, 9, 5, 10, 12, 5, 12, 14),
		"no web at the end":         holes(19, 0, 1999, 19, 1999, 2000),
		"overlapping":               holes(5, 3, 9, 5, 8, 12),
		"overlapping, apart":        holes(5, 3, 9, 6, 4, 20, 5, 8, 12),
		"one within another":        holes(5, 3, 90, 5, 8, 12),
		"one within another, apart": holes(5, 3, 90, 4, 5, 6, 5, 8, 12, 4, 9, 10),
		"one within, one behind":    holes(5, 3, 90, 5, 8, 12, 5, 100, 101),
		"one over the next ones":    holes(5, 3, 9, 5, 10, 90, 5, 20, 30, 5, 92, 93),
		"in the first track":        holes(0, 0, 5, 0, 5, 6),
		"one hole too many":         manyHoles(61),
		"one too many, all rows":    blockOfHoles(61),
	}
}

// holesOutOfOrder returns lists of holes that are sheets in another order.
func holesOutOfOrder() map[string][]impl.Hole {
	return map[string][]impl.Hole{
		"Froms fall":               holes(3, 5, 6, 4, 4, 6),
		"Froms fall in one track":  holes(3, 5, 6, 3, 0, 4),
		"tracks fall":              holes(4, 5, 6, 3, 5, 6),
		"the last one first":       holes(3, 8, 9, 3, 0, 2, 3, 4, 5),
		"the last two":             holes(3, 0, 1, 9, 4, 5, 8, 4, 5),
		"in order by Track and To": holes(3, 9, 10, 4, 8, 11, 5, 7, 12),
		"in order by Track":        holes(3, 0, 2, 3, 4, 6, 4, 1, 3),
	}
}

// noSheets returns all that a function that requires a sheet must refuse.
func noSheets() map[string][]impl.Hole {
	all := validButNoSheet()
	for name, l := range holesOutOfOrder() {
		all[name] = l
	}
	for _, x := range badHoles() {
		text := strings.TrimSpace(holeLine(x))
		all["bad: "+text] = []impl.Hole{x}
		all["bad last: "+text] = []impl.Hole{hole(0, 0, 1), x}
		all["bad between: "+text] = []impl.Hole{hole(0, 0, 1), x, hole(19, 1999, 2000)}
		all["bad first: "+text] = []impl.Hole{x, hole(19, 1999, 2000)}
		all["bad sixtieth: "+text] = append(manyHoles(59), x)
	}
	many := make([]impl.Hole, 100000)
	for i := range many {
		many[i] = hole(i%20, i/50, i/50+1)
	}
	all["very many"] = many
	return all
}

func holeLine(x impl.Hole) string { return fmt.Sprintln(x.Track, x.From, x.To) }

// isSheet is the definition of a sheet in the document, for each pair of holes.
func isSheet(l []impl.Hole) bool {
	if len(l) > 60 {
		return false
	}
	for i, x := range l {
		if x.Track < 0 || x.Track > 19 || x.From < 0 || x.From >= x.To || x.To > 2000 {
			return false
		}
		for _, y := range l[:i] {
			if !holeBefore(y, x) || x.Track == y.Track && x.From-y.To < 1 {
				return false
			}
		}
	}
	return true
}

func holeBefore(a, b impl.Hole) bool {
	if a.From != b.From {
		return a.From < b.From
	}
	return a.Track < b.Track
}

func holesInOrder(l []impl.Hole) []impl.Hole {
	sorted := append([]impl.Hole{}, l...)
	sort.Slice(sorted, func(i, j int) bool { return holeBefore(sorted[i], sorted[j]) })
	return sorted
}

// someHoles returns valid holes in a narrow space, so that many of them meet.
func someHoles(r *rand.Rand, most int) []impl.Hole {
	l := make([]impl.Hole, r.Intn(most+1))
	for i := range l {
		from := r.Intn(12)
		l[i] = hole(r.Intn(3), from, from+1+r.Intn(4))
	}
	return l
}

// someSheet returns a sheet of up to 60 holes in a part of the roll of any length, at any place, often with long holes.
func someSheet(r *rand.Rand) []impl.Hole {
	length := []int{5, 30, 200, 2000}[r.Intn(4)]
	first := r.Intn(2000 - length + 1)
	longest := 1 + r.Intn(length)
	tracks := 1 + r.Intn(20)
	var l []impl.Hole
	for range r.Intn(120) {
		from := r.Intn(length)
		to := min(from+1+r.Intn(longest), length)
		longer := holesInOrder(append(l, hole(20-tracks+r.Intn(tracks), first+from, first+to)))
		if isSheet(longer) {
			l = longer
		}
	}
	return l
}

func TestSheetLimits(t *testing.T) {
	if got := [3]int{impl.MaxTracks, impl.MaxEnd, impl.MaxHoles}; got != [3]int{20, 2000, 60} {
		t.Error("limits", got)
	}
}

func TestIsHole(t *testing.T) {
	good := holes(0, 0, 1, 19, 1999, 2000, 0, 0, 2000, 19, 0, 2000, 5, 1998, 2000, 5, 0, 2, 7, 100, 200)
	for _, x := range good {
		if !impl.IsHole(x) {
			t.Error("a hole", x)
		}
	}
	for _, x := range badHoles() {
		if impl.IsHole(x) {
			t.Error("no hole", x)
		}
	}
}

func TestIsSheet(t *testing.T) {
	for name, l := range goodSheets() {
		if !impl.IsSheet(l) {
			t.Error("a sheet:", name)
		}
	}
	for name, l := range noSheets() {
		if impl.IsSheet(l) {
			t.Error("no sheet:", name)
		}
	}
}

func TestIsSheetByItsDefinition(t *testing.T) {
	r := rand.New(rand.NewSource(17))
	sheets := 0
	for range 30000 {
		l := someHoles(r, 5)
		for _, l := range [][]impl.Hole{l, holesInOrder(l)} {
			want := isSheet(l)
			if got := impl.IsSheet(l); got != want {
				t.Fatal(l, got, want)
			}
			if want {
				sheets++
			}
		}
	}
	if sheets < 1000 {
		t.Error("too few sheets", sheets)
	}
}

func TestAddHole(t *testing.T) {
	l, full := exampleSheet(), manyHoles(60)
	tests := []struct {
		l    []impl.Hole
		x    impl.Hole
		want []impl.Hole
		ok   bool
	}{
		{nil, hole(3, 4, 5), holes(3, 4, 5), true},
		{nil, hole(0, 0, 2000), holes(0, 0, 2000), true},
		{l, hole(2, 0, 1), holes(2, 0, 1, 3, 0, 4, 5, 2, 6, 3, 7, 9), true},
		{l, hole(4, 0, 1), holes(3, 0, 4, 4, 0, 1, 5, 2, 6, 3, 7, 9), true},
		{l, hole(4, 1, 3), holes(3, 0, 4, 4, 1, 3, 5, 2, 6, 3, 7, 9), true},
		{l, hole(4, 2, 3), holes(3, 0, 4, 4, 2, 3, 5, 2, 6, 3, 7, 9), true},
		{l, hole(6, 2, 3), holes(3, 0, 4, 5, 2, 6, 6, 2, 3, 3, 7, 9), true},
		{l, hole(3, 5, 6), holes(3, 0, 4, 5, 2, 6, 3, 5, 6, 3, 7, 9), true},
		{l, hole(5, 7, 8), holes(3, 0, 4, 5, 2, 6, 3, 7, 9, 5, 7, 8), true},
		{l, hole(3, 10, 2000), holes(3, 0, 4, 5, 2, 6, 3, 7, 9, 3, 10, 2000), true},
		{l, hole(19, 1999, 2000), holes(3, 0, 4, 5, 2, 6, 3, 7, 9, 19, 1999, 2000), true},
		{l, hole(5, 0, 1), holes(3, 0, 4, 5, 0, 1, 5, 2, 6, 3, 7, 9), true},
		{holes(3, 4, 5), hole(2, 3, 9), holes(2, 3, 9, 3, 4, 5), true},
		{holes(3, 4, 5), hole(3, 0, 3), holes(3, 0, 3, 3, 4, 5), true},
		{holes(3, 4, 5), hole(3, 6, 7), holes(3, 4, 5, 3, 6, 7), true},
		{holes(3, 4, 5), hole(3, 0, 4), nil, false}, {holes(3, 4, 5), hole(3, 5, 6), nil, false}, {holes(3, 4, 5), hole(3, 4, 5), nil, false},
		{l, hole(3, 0, 4), nil, false}, {l, hole(3, 7, 9), nil, false}, {l, hole(5, 2, 6), nil, false},
		{l, hole(3, 4, 5), nil, false}, {l, hole(3, 6, 7), nil, false}, {l, hole(3, 5, 7), nil, false}, {l, hole(3, 4, 7), nil, false}, {l, hole(3, 9, 10), nil, false},
		{l, hole(3, 1, 2), nil, false}, {l, hole(3, 3, 5), nil, false}, {l, hole(3, 5, 8), nil, false}, {l, hole(3, 8, 20), nil, false},
		{l, hole(3, 0, 20), nil, false}, {l, hole(3, 0, 1), nil, false}, {l, hole(5, 1, 7), nil, false}, {l, hole(5, 2, 3), nil, false},
		{full[:59], hole(7, 177, 179), full, true}, {full[1:], hole(7, 0, 2), full, true},
		{full[:59], hole(0, 0, 1), append(holes(0, 0, 1), full[:59]...), true},
		{full, hole(7, 180, 182), nil, false}, {full, hole(8, 0, 1), nil, false}, {full, hole(19, 1999, 2000), nil, false}, {full, hole(0, 0, 1), nil, false},
		{holes(3, 5, 6, 4, 4, 6), hole(5, 9, 10), nil, false}, {holes(3, 5, 6, 3, 6, 8), hole(5, 9, 10), nil, false},
	}
	for _, x := range tests {
		if got, ok := impl.AddHole(x.l, x.x); ok != x.ok || !slices.Equal(got, x.want) {
			t.Error(x.l, x.x, got, ok)
		}
	}
	for _, x := range badHoles() {
		for name, l := range goodSheets() {
			if got, ok := impl.AddHole(l, x); ok || got != nil {
				t.Error(name, x, got, ok)
			}
		}
	}
}

func TestDropHole(t *testing.T) {
	l, full := exampleSheet(), manyHoles(60)
	tests := []struct {
		l    []impl.Hole
		i    int
		want []impl.Hole
		ok   bool
	}{
		{l, -1, nil, false}, {l, 0, l[1:], true}, {l, 1, holes(3, 0, 4, 3, 7, 9), true}, {l, 2, l[:2], true}, {l, 3, nil, false}, {l, 7, nil, false},
		{l[:1], 0, nil, true}, {l[:1], 1, nil, false}, {l[:1], -1, nil, false},
		{nil, 0, nil, false}, {nil, -1, nil, false}, {nil, 1, nil, false}, {[]impl.Hole{}, 0, nil, false},
		{full, 0, full[1:], true}, {full, 59, full[:59], true}, {full, 60, nil, false}, {manyHoles(61), 60, nil, false}, {manyHoles(61), 0, nil, false},
		{holes(3, 0, 2, 3, 2, 4), 1, nil, false}, {holes(3, 4, 5, 2, 4, 5), 0, nil, false}, {holes(20, 4, 5), 0, nil, false},
	}
	for _, x := range tests {
		if got, ok := impl.DropHole(x.l, x.i); ok != x.ok || !slices.Equal(got, x.want) {
			t.Error(x.l, x.i, got, ok)
		}
		for _, i := range extremes {
			if got, ok := impl.DropHole(x.l, i); ok || got != nil {
				t.Error(x.l, i, got, ok)
			}
		}
	}
}

func TestOpenTracks(t *testing.T) {
	all := goodSheets()
	l, ends := holes(9, 4, 8, 2, 5, 9, 9, 9, 10), all["both ends of a track"]
	tests := []struct {
		l    []impl.Hole
		step int
		want []int
		ok   bool
	}{
		{l, 3, nil, true}, {l, 4, []int{9}, true}, {l, 5, []int{2, 9}, true}, {l, 7, []int{2, 9}, true}, {l, 8, []int{2}, true}, {l, 9, []int{9}, true}, {l, 10, nil, true},
		{l, -1, nil, false}, {l, 0, nil, true}, {l, 1999, nil, true}, {l, 2000, nil, false}, {l, 2001, nil, false}, {l, -2000, nil, false},
		{ends, -1, nil, false}, {ends, 0, []int{0, 19}, true}, {ends, 9, []int{0, 19}, true}, {ends, 10, nil, true}, {ends, 1989, nil, true},
		{ends, 1990, []int{0, 19}, true}, {ends, 1999, []int{0, 19}, true}, {ends, 2000, nil, false},
		{nil, -1, nil, false}, {nil, 0, nil, true}, {nil, 1999, nil, true}, {nil, 2000, nil, false},
		{all["a whole track"], 0, []int{5}, true}, {all["a whole track"], 1999, []int{5}, true},
		{all["equal Tos"], 9, []int{0, 3, 7, 19}, true}, {all["equal Tos"], 10, nil, true}, {all["equal Tos"], 1, []int{3, 19}, true},
		{blockOfHoles(60), 3, []int{0, 1, 2, 3, 4, 5, 6, 7, 8, 9, 10, 11, 12, 13, 14, 15, 16, 17, 18, 19}, true}, {blockOfHoles(60), 4, nil, true},
	}
	for _, x := range tests {
		if got, ok := impl.OpenTracks(x.l, x.step); ok != x.ok || !slices.Equal(got, x.want) {
			t.Error(x.l, x.step, got, ok)
		}
		for _, step := range extremes {
			if got, ok := impl.OpenTracks(x.l, step); ok || got != nil {
				t.Error(x.l, step, got, ok)
			}
		}
	}
}

func TestLengthOfSheet(t *testing.T) {
	tests := []struct {
		l    []impl.Hole
		want int
	}{
		{nil, 0}, {[]impl.Hole{}, 0}, {exampleSheet(), 9}, {holes(0, 0, 1), 1}, {holes(5, 0, 2000), 2000}, {holes(19, 1999, 2000), 2000},
		{holes(2, 0, 50, 1, 5, 9), 50}, {holes(2, 0, 50, 1, 5, 90, 3, 5, 60), 90}, {holes(1, 4, 7, 2, 4, 6), 7}, {manyHoles(60), 179},
	}
	for _, x := range tests {
		if got, ok := impl.LengthOfSheet(x.l); got != x.want || !ok {
			t.Error(x.l, got, ok)
		}
	}
}

func TestLeastWeb(t *testing.T) {
	tests := []struct {
		l    []impl.Hole
		want int
		ok   bool
	}{
		{exampleSheet(), 3, true}, {nil, 0, false}, {[]impl.Hole{}, 0, false}, {holes(5, 0, 2000), 0, false}, {holes(3, 0, 4, 5, 2, 6, 7, 7, 9), 0, false},
		{holes(9, 0, 5, 9, 12, 15, 9, 18, 19), 3, true}, {holes(9, 0, 5, 9, 8, 15, 9, 22, 23), 3, true}, {holes(9, 0, 5, 9, 8, 9, 9, 12, 13), 3, true},
		{holes(9, 5, 6, 9, 8, 9, 9, 10, 11), 1, true}, {holes(4, 0, 3, 4, 4, 9), 1, true}, {holes(4, 0, 1, 4, 1999, 2000), 1998, true},
		{holes(4, 0, 3, 5, 0, 4, 4, 9, 10, 5, 9, 10), 5, true}, {holes(4, 0, 4, 5, 0, 3, 4, 9, 10, 5, 9, 10), 5, true},
		{holes(0, 3, 4, 1, 5, 6, 0, 7, 9), 3, true}, {holes(19, 7, 9, 0, 10, 12, 19, 11, 13), 2, true},
		{manyHoles(60), 1, true}, {blockOfHoles(20), 0, false}, {blockOfHoles(21), 1, true}, {holes(3, 0, 4, 3, 4, 5), 0, false},
	}
	for _, x := range tests {
		if got, ok := impl.LeastWeb(x.l); got != x.want || ok != x.ok {
			t.Error(x.l, got, ok)
		}
	}
}

// sheetTest is a sheet that is moved or reversed.
type sheetTest struct {
	l    []impl.Hole
	n    int
	want []impl.Hole
	ok   bool
}

func checkSheetTests(t *testing.T, change func([]impl.Hole, int) ([]impl.Hole, bool), tests []sheetTest) {
	t.Helper()
	for _, x := range tests {
		if got, ok := change(x.l, x.n); ok != x.ok || !slices.Equal(got, x.want) {
			t.Error(x.l, x.n, got, ok)
		}
		for _, n := range extremes {
			if got, ok := change(x.l, n); ok || got != nil {
				t.Error(x.l, n, got, ok)
			}
		}
	}
}

func TestMoveSheet(t *testing.T) {
	l, first, last := exampleSheet(), holes(0, 0, 1), holes(19, 1999, 2000)
	checkSheetTests(t, impl.MoveSheet, []sheetTest{
		{l, 0, l, true}, {l, 1, holes(3, 1, 5, 5, 3, 7, 3, 8, 10), true}, {l, -1, nil, false}, {l, 1991, holes(3, 1991, 1995, 5, 1993, 1997, 3, 1998, 2000), true},
		{l, 1992, nil, false}, {l, 2000, nil, false}, {l, -2000, nil, false}, {l, 2001, nil, false}, {l, -2001, nil, false},
		{first, 1999, holes(0, 1999, 2000), true}, {first, 2000, nil, false}, {first, 2001, nil, false}, {first, -1, nil, false}, {first, -2000, nil, false},
		{last, -1999, holes(19, 0, 1), true}, {last, -2000, nil, false}, {last, -2001, nil, false}, {last, 1, nil, false}, {last, 2000, nil, false},
		{nil, 0, nil, true}, {nil, 2000, nil, true}, {nil, -2000, nil, true}, {nil, 2001, nil, false}, {nil, -2001, nil, false},
		{holes(5, 3, 9, 1, 4, 5), -3, holes(5, 0, 6, 1, 1, 2), true}, {holes(5, 3, 9, 1, 4, 5), -4, nil, false},
		{holes(2, 0, 1990, 1, 5, 9), 10, holes(2, 10, 2000, 1, 15, 19), true}, {holes(2, 0, 1990, 1, 5, 9), 11, nil, false},
		{holes(5, 0, 2000), 0, holes(5, 0, 2000), true}, {holes(5, 0, 2000), 1, nil, false}, {holes(5, 0, 2000), -1, nil, false},
		{holes(5, 0, 2001), -1, nil, false}, {holes(5, -1, 6), 1, nil, false}, {holes(5, 2000, 2001), -1, nil, false}, {holes(5, 1, 4, 5, 4, 6), 1, nil, false},
	})
}

func TestReverseSheet(t *testing.T) {
	l := exampleSheet()
	checkSheetTests(t, impl.ReverseSheet, []sheetTest{
		{l, 9, holes(3, 0, 2, 5, 3, 7, 3, 5, 9), true}, {l, 8, nil, false}, {l, 10, holes(3, 1, 3, 5, 4, 8, 3, 6, 10), true},
		{l, 2000, holes(3, 1991, 1993, 5, 1994, 1998, 3, 1996, 2000), true}, {l, 2001, nil, false}, {l, 0, nil, false}, {l, -9, nil, false},
		{nil, 0, nil, true}, {nil, 9, nil, true}, {nil, 2000, nil, true}, {nil, 2001, nil, false}, {nil, -1, nil, false},
		{holes(5, 0, 2000), 2000, holes(5, 0, 2000), true}, {holes(5, 0, 2000), 1999, nil, false}, {holes(5, 0, 2000), 2001, nil, false},
		{holes(0, 0, 1), 1, holes(0, 0, 1), true}, {holes(0, 0, 1), 0, nil, false}, {holes(0, 0, 1), 2000, holes(0, 1999, 2000), true},
		{holes(1, 0, 9, 2, 1, 3), 9, holes(1, 0, 9, 2, 6, 8), true}, {holes(1, 0, 3, 2, 1, 9), 9, holes(2, 0, 8, 1, 6, 9), true},
		{holes(1, 0, 3, 2, 1, 9), 8, nil, false}, {holes(2, 0, 9, 1, 1, 3), 8, nil, false},
		{holes(19, 0, 10, 3, 1, 10, 0, 2, 10, 7, 9, 10), 10, holes(0, 0, 8, 3, 0, 9, 7, 0, 1, 19, 0, 10), true},
		{holes(2, 0, 4, 1, 3, 4), 5, holes(1, 1, 2, 2, 1, 5), true}, {holes(1, 0, 4, 2, 3, 4), 5, holes(1, 1, 5, 2, 1, 2), true},
		{holes(1, 0, 4, 2, 0, 3), 4, holes(1, 0, 4, 2, 1, 4), true}, {holes(1, 0, 3, 2, 0, 4), 4, holes(2, 0, 4, 1, 1, 4), true},
		{holes(5, 3, 9, 5, 9, 12), 12, nil, false}, {holes(1, 3, 9, 0, 3, 8), 9, nil, false}, {holes(1, -1, 9), 9, nil, false},
	})
}

func TestMirrorTracks(t *testing.T) {
	tests := []struct {
		l, want []impl.Hole
		ok      bool
	}{
		{exampleSheet(), holes(16, 0, 4, 14, 2, 6, 16, 7, 9), true}, {nil, nil, true}, {[]impl.Hole{}, nil, true},
		{holes(0, 0, 1), holes(19, 0, 1), true}, {holes(19, 0, 1), holes(0, 0, 1), true}, {holes(9, 0, 1), holes(10, 0, 1), true}, {holes(10, 0, 1), holes(9, 0, 1), true},
		{holes(0, 6, 8, 1, 6, 7, 18, 6, 2000, 19, 6, 9), holes(0, 6, 9, 1, 6, 2000, 18, 6, 7, 19, 6, 8), true},
		{holes(3, 0, 1, 4, 0, 2, 5, 1, 9), holes(15, 0, 2, 16, 0, 1, 14, 1, 9), true},
		{holes(9, 5, 6, 10, 5, 7), holes(9, 5, 7, 10, 5, 6), true},
		{holes(4, 5, 6, 3, 5, 6), nil, false}, {holes(20, 5, 6), nil, false}, {holes(-1, 5, 6), nil, false}, {manyHoles(61), nil, false},
	}
	for _, x := range tests {
		if got, ok := impl.MirrorTracks(x.l); ok != x.ok || !slices.Equal(got, x.want) {
			t.Error(x.l, got, ok)
		}
	}
}

func TestCutSheet(t *testing.T) {
	l, ends := exampleSheet(), holes(0, 0, 10, 19, 0, 10, 0, 1990, 2000, 19, 1990, 2000)
	tests := []struct {
		l        []impl.Hole
		from, to int
		want     []impl.Hole
		ok       bool
	}{
		{l, 3, 8, holes(3, 0, 1, 5, 0, 3, 3, 4, 5), true},
		{l, 0, 2000, l, true}, {l, 0, 9, l, true}, {l, 0, 8, holes(3, 0, 4, 5, 2, 6, 3, 7, 8), true}, {l, 1, 9, holes(3, 0, 3, 5, 1, 5, 3, 6, 8), true},
		{l, 0, 7, holes(3, 0, 4, 5, 2, 6), true}, {l, 4, 7, holes(5, 0, 2), true}, {l, 3, 4, holes(3, 0, 1, 5, 0, 1), true}, {l, 4, 2000, holes(5, 0, 2, 3, 3, 5), true},
		{l, 0, 1, holes(3, 0, 1), true}, {l, 6, 7, nil, true}, {l, 8, 9, holes(3, 0, 1), true}, {l, 9, 10, nil, true}, {l, 9, 2000, nil, true}, {l, 1999, 2000, nil, true},
		{l, 3, 3, nil, false}, {l, 0, 0, nil, false}, {l, 8, 3, nil, false}, {l, 9, 8, nil, false}, {l, 2000, 2000, nil, false}, {l, 2000, 2001, nil, false},
		{l, 0, 2001, nil, false}, {l, 3, 2001, nil, false}, {l, 1999, 2001, nil, false}, {l, -1, 8, nil, false}, {l, -1, 0, nil, false}, {l, -1, 2000, nil, false}, {l, -5, -3, nil, false}, {l, 3, -1, nil, false},
		{holes(5, 0, 2000), 0, 2000, holes(5, 0, 2000), true}, {holes(5, 0, 2000), 700, 1000, holes(5, 0, 300), true}, {holes(5, 0, 2000), 1999, 2000, holes(5, 0, 1), true},
		{holes(5, 0, 2000), 0, 1, holes(5, 0, 1), true}, {holes(5, 0, 2000), 1, 2000, holes(5, 0, 1999), true},
		{ends, 5, 1995, holes(0, 0, 5, 19, 0, 5, 0, 1985, 1990, 19, 1985, 1990), true}, {ends, 10, 1990, nil, true}, {ends, 9, 1991, holes(0, 0, 1, 19, 0, 1, 0, 1981, 1982, 19, 1981, 1982), true},
		{ends, 1999, 2000, holes(0, 0, 1, 19, 0, 1), true},
		{holes(9, 0, 9, 2, 4, 9, 5, 6, 7), 5, 9, holes(2, 0, 4, 9, 0, 4, 5, 1, 2), true}, {holes(9, 0, 9, 2, 4, 9, 5, 6, 7), 4, 9, holes(2, 0, 5, 9, 0, 5, 5, 2, 3), true},
		{holes(9, 0, 9, 2, 4, 9, 5, 6, 7), 6, 7, holes(2, 0, 1, 5, 0, 1, 9, 0, 1), true}, {holes(9, 0, 9, 2, 4, 9, 5, 6, 7), 3, 9, holes(9, 0, 6, 2, 1, 6, 5, 3, 4), true},
		{nil, 0, 2000, nil, true}, {nil, 5, 6, nil, true}, {nil, 5, 5, nil, false}, {nil, 0, 2001, nil, false}, {nil, -1, 5, nil, false},
		{holes(5, 0, 4, 5, 4, 6), 0, 3, nil, false}, {holes(20, 0, 4), 6, 9, nil, false}, {holes(5, 0, 2001), 0, 9, nil, false}, {manyHoles(61), 0, 9, nil, false},
	}
	for _, x := range tests {
		if got, ok := impl.CutSheet(x.l, x.from, x.to); ok != x.ok || !slices.Equal(got, x.want) {
			t.Error(x.l, x.from, x.to, got, ok)
		}
	}
	for _, n := range extremes {
		for _, pair := range [][2]int{{n, 5}, {5, n}, {n, n}, {n, math.MaxInt}, {math.MinInt, n}, {n, 2000}, {0, n}} {
			if got, ok := impl.CutSheet(l, pair[0], pair[1]); got != nil || ok {
				t.Error(pair, got, ok)
			}
		}
	}
}

func TestSheetText(t *testing.T) {
	tests := []struct {
		l    []impl.Hole
		want string
	}{
		{nil, ""}, {[]impl.Hole{}, ""}, {exampleSheet(), "3 0 4\n5 2 6\n3 7 9\n"}, {holes(0, 0, 1), "0 0 1\n"},
		{holes(10, 10, 2000, 19, 1999, 2000), "10 10 2000\n19 1999 2000\n"}, {manyHoles(60), linesOfHoles(60)},
	}
	for _, x := range tests {
		if got, ok := impl.SheetText(x.l); got != x.want || !ok {
			t.Errorf("%v: %q %v", x.l, got, ok)
		}
		if got, ok := impl.ParseSheet(x.want); !ok || !slices.Equal(got, x.l) {
			t.Errorf("%q: %v %v", x.want, got, ok)
		}
	}
}

// linesOfHoles returns the text of manyHoles(n).
func linesOfHoles(n int) string {
	var s strings.Builder
	for _, x := range manyHoles(n) {
		s.WriteString(holeLine(x))
	}
	return s.String()
}

func checkNoSheet(t *testing.T, name string, got []impl.Hole, ok bool) {
	t.Helper()
	if got != nil || ok {
		t.Error(name, got, ok)
	}
}

func TestWhatRequiresASheetRefusesOthers(t *testing.T) {
	for name, l := range noSheets() {
		for _, n := range []int{0, 1, 2, 9, 2000} {
			changed, ok := impl.AddHole(l, hole(11, n, 2000))
			checkNoSheet(t, "AddHole, "+name, changed, ok)
			changed, ok = impl.DropHole(l, n)
			checkNoSheet(t, "DropHole, "+name, changed, ok)
			changed, ok = impl.MoveSheet(l, n)
			checkNoSheet(t, "MoveSheet, "+name, changed, ok)
			changed, ok = impl.ReverseSheet(l, n)
			checkNoSheet(t, "ReverseSheet, "+name, changed, ok)
			changed, ok = impl.CutSheet(l, 0, n)
			checkNoSheet(t, "CutSheet, "+name, changed, ok)
			changed, ok = impl.CutSheet(l, n, 2000)
			checkNoSheet(t, "CutSheet, "+name, changed, ok)
			if open, ok := impl.OpenTracks(l, n); open != nil || ok {
				t.Error("OpenTracks", name, open, ok)
			}
		}
		changed, ok := impl.MirrorTracks(l)
		checkNoSheet(t, "MirrorTracks, "+name, changed, ok)
		length, ok := impl.LengthOfSheet(l)
		checkNone(t, "LengthOfSheet, "+name, length, ok)
		web, ok := impl.LeastWeb(l)
		checkNone(t, "LeastWeb, "+name, web, ok)
		if text, ok := impl.SheetText(l); text != "" || ok {
			t.Error("SheetText", name, text, ok)
		}
	}
}

// notSheetTexts are no text of a sheet.
func notSheetTexts() []string {
	all := []string{
		"3 0 4", "\n", " ", "\n\n", "3 0 4\n\n", "\n3 0 4\n", " 3 0 4\n", "3 0 4 \n", "3 0 4\n ", "3  0 4\n", "3 0  4\n", "  \n", " \n",
		"3 0 4\r\n", "3 0 4\r", "3\t0 4\n", "3,0,4\n", "3 0 4;", "3 0 4\x00\n", "3 0 4\n\x00", "3\u00a00 4\n", "3 0 4\n3 7 9", "3 0 4\n\n3 7 9\n", "3 0 4 3 7 9\n",
		"3 0\n", "3\n", "3 0 4 5\n", "0 4\n", "304\n", "3 04\n", "30 4\n", " 0 4\n", "3  4\n", "3 0 \n", "3 0 4\n3 7\n", "3 0 4\n7\n",
		"03 0 4\n", "3 00 4\n", "3 0 04\n", "3 01 4\n", "000 0 4\n", "3 000 4\n", "00 0 4\n",
		"+3 0 4\n", "3 +0 4\n", "3 0 +4\n", "-3 0 4\n", "-0 0 4\n", "3 -0 4\n", "3 -1 4\n", "3 0 -4\n", "-1 0 4\n", "3 - 4\n", "+ 0 4\n",
		"20 0 4\n", "40 0 4\n", "3 4 4\n", "3 5 4\n", "3 0 0\n", "3 0 2001\n", "3 2000 2001\n", "3 2000 2000\n", "3 1999 20000\n", "200 0 4\n",
		"3 0x0 4\n", "3 1_0 40\n", "3 1e1 40\n", "3 0.0 4\n", "c5 0 4\n", "a 0 4\n", "3 b 4\n", "3 0 c\n", "0b1 0 4\n", "3 ٠ 4\n", "３ 0 4\n", "3 0 ４\n",
		"\xff 0 4\n", "3 \xff 4\n", "3 0 4\xff\n", "3\xff 0 4\n", "3 0 \xff4\n", "\u0133 0 4\n", "\xb3 0 4\n", "3\xa00 4\n", "3 0\xa04\n", "3 0 4\x8a",
		"18446744073709551619 0 4\n", "3 18446744073709551616 4\n", "3 0 18446744073709551620\n", "4294967299 0 4\n", "3 4294967296 4\n", "3 0 4294967300\n",
		"9223372036854775807 0 4\n", "9223372036854775808 0 4\n", "3 0 9223372036854775807\n", "3 -9223372036854775808 4\n", "3 0 9223372036854775808\n",
		linesOfHoles(61), linesOfHoles(60) + "\n", strings.Repeat("3 0 4\n", 20000), strings.Repeat("\n", 20000), strings.Repeat(" ", 20000) + "\n",
		strings.Repeat("3", 20000) + " 0 4\n", "3 " + strings.Repeat("0", 20000) + " 4\n", strings.Repeat("3 ", 20000) + "\n", strings.Repeat("3", 20000),
	}
	for _, lists := range []map[string][]impl.Hole{validButNoSheet(), holesOutOfOrder()} {
		for _, l := range lists {
			var s strings.Builder
			for _, x := range l {
				s.WriteString(holeLine(x))
			}
			all = append(all, s.String())
		}
	}
	return all
}

func TestParseSheet(t *testing.T) {
	if got, ok := impl.ParseSheet(""); !ok || len(got) != 0 {
		t.Error("no holes", got, ok)
	}
	if got, ok := impl.ParseSheet(linesOfHoles(60)); !ok || !slices.Equal(got, manyHoles(60)) {
		t.Error("sixty holes", got, ok)
	}
	for _, s := range notSheetTexts() {
		if got, ok := impl.ParseSheet(s); ok || got != nil {
			t.Errorf("%.60q: %v %v", s, got, ok)
		}
	}
}

var holeForm = regexp.MustCompile(`^(0|[1-9][0-9]{0,5}) (0|[1-9][0-9]{0,5}) (0|[1-9][0-9]{0,5})\n$`)

func readSheet(s string) ([]impl.Hole, bool) {
	var l []impl.Hole
	for _, line := range strings.SplitAfter(s, "\n") {
		if line == "" {
			continue
		}
		words := holeForm.FindStringSubmatch(line)
		if words == nil {
			return nil, false
		}
		track, _ := strconv.Atoi(words[1])
		from, _ := strconv.Atoi(words[2])
		to, _ := strconv.Atoi(words[3])
		l = append(l, hole(track, from, to))
	}
	return l, isSheet(l)
}

// TestParseSheetOfChangedTexts changes each byte of texts.
func TestParseSheetOfChangedTexts(t *testing.T) {
	bases := []string{"3 0 4\n5 2 6\n3 7 9\n", "0 0 1\n", "10 10 2000\n19 1999 2000\n", "4 0 3\n4 4 9\n5 4 5\n", linesOfHoles(12)}
	if n := checkReading(t, bases, impl.ParseSheet, readSheet, impl.SheetText); n < 300 {
		t.Error("too few texts are read", n)
	}
}
