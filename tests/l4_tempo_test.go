package tests

import (
	"math"
	"math/rand"
	"slices"
	"strconv"
	"testing"

	"loop.example/g00949/impl"
)

func tempo(step, lasts int) impl.Change {
	return impl.Change{Step: step, Lasts: lasts}
}

// tempos returns the changes of pairs of a step and how long it lasts.
func tempos(pairs ...int) []impl.Change {
	var l []impl.Change
	for i := 0; i < len(pairs); i += 2 {
		l = append(l, tempo(pairs[i], pairs[i+1]))
	}
	return l
}

// twoTempos is the piece whose first ten steps last twice as long as all others.
func twoTempos() []impl.Change { return tempos(0, 100000, 10, 50000) }

// manyTempos returns n different changes, one at step 0 and one each so many steps from another step on.
func manyTempos(n, from, every int) []impl.Change {
	l := tempos(0, 1000)
	for i := range n - 1 {
		l = append(l, tempo(from+i*every, 2000+i))
	}
	return l
}

// evenTempos returns tempos that all last the same.
func evenTempos(lasts int, steps ...int) []impl.Change {
	var l []impl.Change
	for _, step := range steps {
		l = append(l, tempo(step, lasts))
	}
	return l
}

// goodTempos returns tempos of all kinds, by a name.
func goodTempos() map[string][]impl.Change {
	return map[string][]impl.Change{
		"two tempos":               twoTempos(),
		"one tempo":                tempos(0, 100000),
		"the shortest steps":       tempos(0, 1000),
		"the longest steps":        tempos(0, 1000000),
		"a change at the end":      tempos(0, 5000, 2000, 7000),
		"changes at the end":       tempos(0, 5000, 1999, 7000, 2000, 9001),
		"changes at once":          tempos(0, 5000, 1, 7000, 2, 5000, 3, 1000),
		"the shortest and longest": tempos(0, 1000, 1, 1000000, 1000, 1000, 1999, 1000000, 2000, 1000),
		"odd ones":                 tempos(0, 333333, 3, 1001, 10, 999983, 1700, 3000),
		"equal ones at first":      tempos(0, 5000, 3, 5000, 9, 5000, 20, 6000),
		"equal ones at last":       tempos(0, 6000, 3, 5000, 9, 5000, 2000, 5000),
		"equal ones between":       tempos(0, 6000, 3, 5000, 9, 5000, 10, 5000, 30, 6000),
		"equal ones apart":         tempos(0, 6000, 3, 5000, 9, 6000, 10, 5000, 30, 6000),
		"equal pairs":              tempos(0, 6000, 3, 6000, 9, 5000, 10, 5000, 30, 6000, 31, 6000),
		"all equal":                evenTempos(5000, 0, 1, 5, 100, 1999, 2000),
		"twenty equal":             evenTempos(1000000, 0, 1, 2, 3, 4, 5, 6, 7, 8, 9, 10, 11, 12, 13, 14, 15, 16, 17, 18, 2000),
		"nineteen changes":         manyTempos(19, 50, 100),
		"twenty changes":           manyTempos(20, 50, 100),
		"twenty first steps":       manyTempos(20, 1, 1),
		"twenty last steps":        manyTempos(20, 1982, 1),
	}
}

// badChanges returns changes that are not valid, most of them for one reason.
func badChanges() []impl.Change {
	l := []impl.Change{
		{}, tempo(500, 0), tempo(500, 999), tempo(500, 1000001), tempo(500, -1), tempo(500, -5000),
		tempo(0, 999), tempo(0, 1000001), tempo(2000, 999), tempo(2000, 1000001),
		tempo(2001, 5000), tempo(2001, 999), tempo(-1, 5000), tempo(-2000, 5000),
	}
	for _, n := range extremes {
		l = append(l, tempo(0, n), tempo(500, n), tempo(n, 5000), tempo(n, n))
	}
	return l
}

// noTempos returns all that a function that requires tempos must refuse.
func noTempos() map[string][]impl.Change {
	all := map[string][]impl.Change{
		"nil":                       nil,
		"empty":                     {},
		"one change too many":       manyTempos(21, 50, 95),
		"one equal change too many": evenTempos(5000, 0, 1, 2, 3, 4, 5, 6, 7, 8, 9, 10, 11, 12, 13, 14, 15, 16, 17, 18, 19, 20),
		"no step 0":                 tempos(1, 5000),
		"no step 0, more":           tempos(1, 5000, 2, 6000),
		"the last step alone":       tempos(2000, 5000),
		"step 0 twice":              tempos(0, 5000, 0, 6000),
		"equal steps":               tempos(0, 5000, 7, 6000, 7, 7000),
		"an equal change":           tempos(0, 5000, 7, 6000, 7, 6000),
		"equal last steps":          tempos(0, 5000, 2000, 6000, 2000, 7000),
		"falling steps":             tempos(0, 5000, 8, 6000, 7, 7000),
		"falling to step 0":         tempos(0, 5000, 8, 6000, 0, 7000),
		"step 0 last":               tempos(8, 5000, 0, 6000),
		"falling, then rising":      tempos(0, 5000, 8, 6000, 7, 7000, 9, 8000),
		"one behind the last step":  tempos(0, 5000, 2000, 6000, 2001, 7000),
		"very many":                 evenTempos(5000, make([]int, 5000)...),
		"very many, rising":         manyTempos(100000, 1, 1),
	}
	for _, x := range badChanges() {
		text := strconv.Itoa(x.Step) + " " + strconv.Itoa(x.Lasts)
		all["bad: "+text] = []impl.Change{x}
		all["bad last: "+text] = []impl.Change{tempo(0, 5000), x}
		all["bad between: "+text] = []impl.Change{tempo(0, 5000), x, tempo(1000, 5000)}
		all["bad first: "+text] = []impl.Change{x, tempo(1000, 5000)}
		all["bad twentieth: "+text] = append(manyTempos(19, 1, 1), x)
	}
	return all
}

// areTempos is the definition of tempos in the document.
func areTempos(l []impl.Change) bool {
	next := 0
	for i, x := range l {
		if x.Step < next || x.Step > 2000 || i == 0 && x.Step > 0 || x.Lasts < 1000 || x.Lasts > 1000000 {
			return false
		}
		next = x.Step + 1
	}
	return len(l) > 0 && len(l) <= 20
}

// lastsOfSteps returns how long each step from 0 to 2000 lasts, by the definition.
func lastsOfSteps(l []impl.Change) []int {
	lasts := make([]int, 2001)
	for _, x := range l {
		for step := x.Step; step <= 2000; step++ {
			lasts[step] = x.Lasts
		}
	}
	return lasts
}

// beginsOfSteps returns when each step from 0 to 2000 begins, as the sum of all steps before.
func beginsOfSteps(l []impl.Change) []int {
	begins := make([]int, 2001)
	lasts := lastsOfSteps(l)
	for step := 1; step <= 2000; step++ {
		begins[step] = begins[step-1] + lasts[step-1]
	}
	return begins
}

// someTempos returns tempos in all steps or in a few of them, whose Lasts are often equal.
func someTempos(r *rand.Rand) []impl.Change {
	steps := []int{5, 25, 200, 2000}[r.Intn(4)]
	kinds := []int{1000 + r.Intn(999001), 1000, 1000000, 5000, 5001}
	some := 1 + r.Intn(len(kinds))
	l := tempos(0, kinds[r.Intn(some)])
	for step := 1; step <= steps && len(l) < 20; step += 1 + r.Intn(1+steps/10) {
		if r.Intn(3) > 0 {
			l = append(l, tempo(step, kinds[r.Intn(some)]))
		}
	}
	return l
}

func TestTempoLimits(t *testing.T) {
	if impl.MaxChanges != 20 || impl.LastStep != 2000 {
		t.Error("limits", impl.MaxChanges, impl.LastStep)
	}
}

func TestAreTempos(t *testing.T) {
	for name, l := range goodTempos() {
		if !impl.AreTempos(l) || !areTempos(l) {
			t.Error("tempos:", name)
		}
	}
	for name, l := range noTempos() {
		if impl.AreTempos(l) || areTempos(l) {
			t.Error("no tempos:", name)
		}
	}
	for n := range 50 {
		if got := impl.AreTempos(manyTempos(max(n, 1), 1, 1)[:n]); got != (n >= 1 && n <= 20) {
			t.Error("changes", n, got)
		}
	}
	for a := -2; a <= 2002; a++ {
		if got := impl.AreTempos(tempos(a, 5000)); got != (a == 0) {
			t.Error("first step", a, got)
		}
		if got := impl.AreTempos(tempos(0, 5000, a, 6000)); got != (a >= 1 && a <= 2000) {
			t.Error("second step", a, got)
		}
		if got := impl.AreTempos(tempos(0, 5000, 1000, 6000, a, 7000)); got != (a > 1000 && a <= 2000) {
			t.Error("third step", a, got)
		}
	}
	for _, lasts := range []int{-1000, -1, 0, 1, 998, 999, 1000, 1001, 50000, 999999, 1000000, 1000001, 1000002, 2000000} {
		want := lasts >= 1000 && lasts <= 1000000
		for _, l := range [][]impl.Change{tempos(0, lasts), tempos(0, lasts, 1, 5000), tempos(0, 5000, 1, lasts), tempos(0, 5000, 1, lasts, 2, 5000)} {
			if got := impl.AreTempos(l); got != want {
				t.Error(l, got)
			}
		}
	}
}

// tempoTest is a call with a number and its result.
type tempoTest struct {
	l    []impl.Change
	n    int
	want int
	ok   bool
}

func checkTempoTests(t *testing.T, call func([]impl.Change, int) (int, bool), tests []tempoTest) {
	t.Helper()
	for _, x := range tests {
		if got, ok := call(x.l, x.n); got != x.want || ok != x.ok {
			t.Error(x.l, x.n, got, ok)
		}
	}
}

func TestTempoAt(t *testing.T) {
	two, end := twoTempos(), tempos(0, 5000, 1999, 7000, 2000, 9001)
	checkTempoTests(t, impl.TempoAt, []tempoTest{
		{two, -1, 0, false}, {two, 0, 100000, true}, {two, 1, 100000, true}, {two, 9, 100000, true},
		{two, 10, 50000, true}, {two, 11, 50000, true}, {two, 1999, 50000, true}, {two, 2000, 50000, true},
		{two, 2001, 0, false}, {two, 2002, 0, false}, {two, -10, 0, false}, {two, -2000, 0, false},
		{end, 0, 5000, true}, {end, 1998, 5000, true}, {end, 1999, 7000, true}, {end, 2000, 9001, true}, {end, 2001, 0, false},
		{tempos(0, 1000000), 0, 1000000, true}, {tempos(0, 1000), 2000, 1000, true}, {nil, 0, 0, false},
		{manyTempos(20, 50, 100), 1850, 2018, true}, {manyTempos(20, 50, 100), 1849, 2017, true}, {manyTempos(20, 50, 100), 49, 1000, true},
	})
	for _, n := range extremes {
		checkTempoTests(t, impl.TempoAt, []tempoTest{{two, n, 0, false}})
	}
}

func TestTimeOf(t *testing.T) {
	two, end := twoTempos(), tempos(0, 5000, 1999, 7000, 2000, 9001)
	checkTempoTests(t, impl.TimeOf, []tempoTest{
		{two, -1, 0, false}, {two, 0, 0, true}, {two, 1, 100000, true}, {two, 9, 900000, true}, {two, 10, 1000000, true},
		{two, 11, 1050000, true}, {two, 12, 1100000, true}, {two, 2000, 100500000, true}, {two, 2001, 0, false}, {two, -2000, 0, false},
		{end, 1998, 9990000, true}, {end, 1999, 9995000, true}, {end, 2000, 10002000, true}, {end, 2001, 0, false},
		{tempos(0, 1000000), 2000, 2000000000, true}, {tempos(0, 1000), 2000, 2000000, true}, {tempos(0, 1000), 0, 0, true},
		{tempos(0, 1000, 1, 1000000), 1, 1000, true}, {tempos(0, 1000, 1, 1000000), 2, 1001000, true}, {nil, 0, 0, false},
	})
	for _, n := range extremes {
		checkTempoTests(t, impl.TimeOf, []tempoTest{{two, n, 0, false}})
	}
}

func TestStepAtTime(t *testing.T) {
	two, end := twoTempos(), tempos(0, 5000, 1999, 7000, 2000, 9001)
	long, short := tempos(0, 1000000), tempos(0, 1000)
	checkTempoTests(t, impl.StepAtTime, []tempoTest{
		{two, -1, 0, false}, {two, -100000, 0, false}, {two, math.MinInt, 0, false}, {two, math.MinInt + 1, 0, false},
		{two, 0, 0, true}, {two, 1, 0, true}, {two, 99999, 0, true}, {two, 100000, 1, true}, {two, 100001, 1, true},
		{two, 999999, 9, true}, {two, 1000000, 10, true}, {two, 1049999, 10, true}, {two, 1050000, 11, true},
		{two, 100499999, 1999, true}, {two, 100500000, 2000, true}, {two, 100500001, 2000, true}, {two, 100549999, 2000, true},
		{two, 100550000, 2000, true}, {two, 1 << 40, 2000, true}, {two, math.MaxInt - 1, 2000, true}, {two, math.MaxInt, 2000, true},
		{end, 9994999, 1998, true}, {end, 9995000, 1999, true}, {end, 10001999, 1999, true}, {end, 10002000, 2000, true}, {end, 10011001, 2000, true},
		{long, 0, 0, true}, {long, 999999, 0, true}, {long, 1999999999, 1999, true}, {long, 2000000000, 2000, true}, {long, math.MaxInt, 2000, true},
		{short, 999, 0, true}, {short, 1000, 1, true}, {short, 1999999, 1999, true}, {short, 2000000, 2000, true}, {short, 2001000, 2000, true},
		{nil, 0, 0, false}, {nil, math.MaxInt, 0, false},
	})
}

func TestTimeBetween(t *testing.T) {
	two := twoTempos()
	tests := []struct {
		l              []impl.Change
		from, to, want int
		ok             bool
	}{
		{two, 9, 11, 150000, true}, {two, 0, 0, 0, true}, {two, 10, 10, 0, true}, {two, 2000, 2000, 0, true}, {two, 0, 1, 100000, true},
		{two, 0, 10, 1000000, true}, {two, 10, 11, 50000, true}, {two, 0, 2000, 100500000, true}, {two, 1999, 2000, 50000, true},
		{two, 11, 9, 0, false}, {two, 1, 0, 0, false}, {two, 2000, 1999, 0, false}, {two, 2000, 0, 0, false},
		{two, -1, 5, 0, false}, {two, -1, -1, 0, false}, {two, 5, -1, 0, false}, {two, 0, -1, 0, false}, {two, -2, -1, 0, false},
		{two, 5, 2001, 0, false}, {two, 2000, 2001, 0, false}, {two, 2001, 2001, 0, false}, {two, 2001, 5, 0, false}, {two, -1, 2001, 0, false},
		{tempos(0, 1000000), 0, 2000, 2000000000, true}, {nil, 0, 0, 0, false}, {nil, 0, 1, 0, false},
	}
	for _, x := range tests {
		if got, ok := impl.TimeBetween(x.l, x.from, x.to); got != x.want || ok != x.ok {
			t.Error(x.l, x.from, x.to, got, ok)
		}
	}
	for _, n := range extremes {
		for _, pair := range [][2]int{{n, 5}, {5, n}, {n, n}, {n, math.MaxInt}, {math.MinInt, n}} {
			if got, ok := impl.TimeBetween(two, pair[0], pair[1]); got != 0 || ok {
				t.Error(pair, got, ok)
			}
		}
	}
}

func TestAddTempo(t *testing.T) {
	two, full, last := twoTempos(), manyTempos(20, 50, 100), tempos(0, 5000, 2000, 6000)
	tests := []struct {
		l    []impl.Change
		x    impl.Change
		want []impl.Change
		ok   bool
	}{
		{two, tempo(5, 1000), tempos(0, 100000, 5, 1000, 10, 50000), true},
		{two, tempo(1, 1000000), tempos(0, 100000, 1, 1000000, 10, 50000), true},
		{two, tempo(9, 2000), tempos(0, 100000, 9, 2000, 10, 50000), true},
		{two, tempo(11, 2000), tempos(0, 100000, 10, 50000, 11, 2000), true},
		{two, tempo(2000, 2000), tempos(0, 100000, 10, 50000, 2000, 2000), true},
		{two, tempo(0, 2000), tempos(0, 2000, 10, 50000), true},
		{two, tempo(10, 2000), tempos(0, 100000, 10, 2000), true},
		{two, tempo(10, 50000), two, true},
		{two, tempo(5, 100000), tempos(0, 100000, 5, 100000, 10, 50000), true},
		{two, tempo(5, 50000), tempos(0, 100000, 5, 50000, 10, 50000), true},
		{two, tempo(10, 100000), tempos(0, 100000, 10, 100000), true},
		{last, tempo(1999, 7000), tempos(0, 5000, 1999, 7000, 2000, 6000), true},
		{last, tempo(2000, 7000), tempos(0, 5000, 2000, 7000), true},
		{tempos(0, 5000), tempo(0, 7000), tempos(0, 7000), true},
		{tempos(0, 5000), tempo(1, 7000), tempos(0, 5000, 1, 7000), true},
		{full, tempo(49, 7000), nil, false}, {full, tempo(51, 7000), nil, false},
		{full, tempo(1851, 7000), nil, false}, {full, tempo(2000, 7000), nil, false},
		{full, tempo(0, 7000), append(tempos(0, 7000), full[1:]...), true},
		{full, tempo(50, 7000), append(tempos(0, 1000, 50, 7000), full[2:]...), true},
		{full, tempo(1850, 7000), append(slices.Clone(full[:19]), tempo(1850, 7000)), true},
		{full[:19], tempo(1850, 2018), full, true},
		{full[:19], tempo(1751, 2018), append(slices.Clone(full[:19]), tempo(1751, 2018)), true},
		{nil, tempo(0, 5000), nil, false}, {[]impl.Change{}, tempo(0, 5000), nil, false},
		{tempos(1, 5000), tempo(0, 5000), nil, false}, {tempos(0, 999), tempo(0, 5000), nil, false},
	}
	for _, x := range tests {
		if got, ok := impl.AddTempo(x.l, x.x); ok != x.ok || !slices.Equal(got, x.want) {
			t.Error(x.l, x.x, got, ok)
		}
	}
	for _, x := range append(badChanges(), tempo(10, 1000001), tempo(10, 999)) {
		for name, l := range goodTempos() {
			if got, ok := impl.AddTempo(l, x); ok || got != nil {
				t.Error(name, x, got, ok)
			}
		}
	}
}

func TestDropTempo(t *testing.T) {
	two, full := twoTempos(), manyTempos(20, 50, 100)
	tests := []struct {
		l    []impl.Change
		i    int
		want []impl.Change
		ok   bool
	}{
		{two, -2, nil, false}, {two, -1, nil, false}, {two, 0, nil, false}, {two, 1, two[:1], true}, {two, 2, nil, false}, {two, 10, nil, false},
		{two[:1], 0, nil, false}, {two[:1], 1, nil, false}, {nil, 0, nil, false}, {nil, 1, nil, false},
		{tempos(0, 1000, 5, 2000, 9, 3000), 1, tempos(0, 1000, 9, 3000), true},
		{tempos(0, 1000, 5, 2000, 9, 3000), 2, tempos(0, 1000, 5, 2000), true},
		{full, 19, full[:19], true}, {full, 20, nil, false}, {full, 0, nil, false}, {full, 1, append(full[:1:1], full[2:]...), true},
		{manyTempos(21, 50, 95), 1, nil, false}, {tempos(0, 5000, 0, 6000), 1, nil, false}, {tempos(0, 5000, 9, 999), 1, nil, false},
	}
	for _, x := range tests {
		if got, ok := impl.DropTempo(x.l, x.i); ok != x.ok || !slices.Equal(got, x.want) {
			t.Error(x.l, x.i, got, ok)
		}
		for _, i := range extremes {
			if got, ok := impl.DropTempo(x.l, i); ok || got != nil {
				t.Error(x.l, i, got, ok)
			}
		}
	}
}

func TestScaleTempos(t *testing.T) {
	two := twoTempos()
	tests := []struct {
		l       []impl.Change
		percent int
		want    []impl.Change
		ok      bool
	}{
		{two, 150, tempos(0, 150000, 10, 75000), true}, {two, 100, two, true}, {two, 400, tempos(0, 400000, 10, 200000), true},
		{two, 1, nil, false}, {two, 2, tempos(0, 2000, 10, 1000), true}, {two, 99, tempos(0, 99000, 10, 49500), true},
		{two, 0, nil, false}, {two, -1, nil, false}, {two, -100, nil, false}, {two, 401, nil, false}, {two, 1000, nil, false},
		{tempos(0, 100000), 1, tempos(0, 1000), true}, {tempos(0, 1000000), 1, tempos(0, 10000), true},
		{tempos(0, 99999), 1, tempos(0, 1000), true}, {tempos(0, 99950), 1, tempos(0, 1000), true}, {tempos(0, 99949), 1, nil, false},
		{tempos(0, 250000), 400, tempos(0, 1000000), true}, {tempos(0, 250001), 400, nil, false},
		{tempos(0, 1000), 100, tempos(0, 1000), true}, {tempos(0, 1000), 99, nil, false}, {tempos(0, 1000), 400, tempos(0, 4000), true},
		{tempos(0, 1000000), 100, tempos(0, 1000000), true}, {tempos(0, 1000000), 101, nil, false}, {tempos(0, 1000000), 400, nil, false},
		{tempos(0, 2001), 50, tempos(0, 1001), true}, {tempos(0, 2003), 50, tempos(0, 1002), true}, {tempos(0, 2002), 50, tempos(0, 1001), true},
		{tempos(0, 1999), 50, tempos(0, 1000), true}, {tempos(0, 1998), 50, nil, false},
		{tempos(0, 5050), 25, tempos(0, 1263), true}, {tempos(0, 5049), 25, tempos(0, 1262), true}, {tempos(0, 5051), 25, tempos(0, 1263), true},
		{tempos(0, 1050), 101, tempos(0, 1061), true}, {tempos(0, 1049), 101, tempos(0, 1059), true}, {tempos(0, 1051), 101, tempos(0, 1062), true},
		{tempos(0, 666667), 150, nil, false}, {tempos(0, 666666), 150, tempos(0, 999999), true}, {tempos(0, 970874), 103, tempos(0, 1000000), true},
		{tempos(0, 5000, 7, 1000), 50, nil, false}, {tempos(0, 5000, 7, 1000000), 101, nil, false}, {tempos(0, 1000, 7, 5000), 50, nil, false},
		{tempos(0, 2001, 9, 2002), 50, tempos(0, 1001, 9, 1001), true}, {nil, 100, nil, false}, {tempos(0, 999), 200, nil, false}, {tempos(0, 2000000), 50, nil, false},
	}
	for _, x := range tests {
		if got, ok := impl.ScaleTempos(x.l, x.percent); ok != x.ok || !slices.Equal(got, x.want) {
			t.Error(x.l, x.percent, got, ok)
		}
		for _, percent := range extremes {
			if got, ok := impl.ScaleTempos(x.l, percent); ok || got != nil {
				t.Error(x.l, percent, got, ok)
			}
		}
	}
}

func TestSimpleTempos(t *testing.T) {
	all := goodTempos()
	tests := []struct {
		l, want []impl.Change
	}{
		{tempos(0, 5000, 3, 5000), tempos(0, 5000)},
		{twoTempos(), twoTempos()},
		{tempos(0, 1000), tempos(0, 1000)},
		{all["equal ones at first"], tempos(0, 5000, 20, 6000)},
		{all["equal ones at last"], tempos(0, 6000, 3, 5000)},
		{all["equal ones between"], tempos(0, 6000, 3, 5000, 30, 6000)},
		{all["equal ones apart"], all["equal ones apart"]},
		{all["equal pairs"], tempos(0, 6000, 9, 5000, 30, 6000)},
		{all["all equal"], tempos(0, 5000)},
		{all["twenty equal"], tempos(0, 1000000)},
		{all["twenty changes"], all["twenty changes"]},
		{tempos(0, 5000, 1, 5001, 2, 5000), tempos(0, 5000, 1, 5001, 2, 5000)},
	}
	for _, x := range tests {
		if got, ok := impl.SimpleTempos(x.l); !ok || !slices.Equal(got, x.want) {
			t.Error(x.l, got, ok)
		}
	}
}

func TestEvenTempo(t *testing.T) {
	two, odd := twoTempos(), tempos(0, 1000, 1, 1001, 3, 2000)
	tests := []struct {
		l              []impl.Change
		from, to, want int
		ok             bool
	}{
		{two, 9, 11, 75000, true}, {two, 0, 10, 100000, true}, {two, 10, 2000, 50000, true}, {two, 0, 2000, 50250, true},
		{two, 8, 11, 83333, true}, {two, 9, 12, 66666, true}, {two, 0, 1, 100000, true}, {two, 1999, 2000, 50000, true},
		{odd, 0, 2, 1000, true}, {odd, 0, 3, 1000, true}, {odd, 1, 3, 1001, true}, {odd, 2, 4, 1500, true}, {odd, 0, 4, 1250, true},
		{two, 0, 0, 0, false}, {two, 10, 10, 0, false}, {two, 2000, 2000, 0, false}, {two, 11, 9, 0, false}, {two, 2000, 0, 0, false},
		{two, -1, 5, 0, false}, {two, -1, -1, 0, false}, {two, 5, -1, 0, false}, {two, 5, 2001, 0, false}, {two, 2001, 2001, 0, false}, {two, 2001, 5, 0, false},
		{tempos(0, 1000000), 0, 2000, 1000000, true}, {tempos(0, 1000), 0, 2000, 1000, true}, {nil, 0, 1, 0, false}, {nil, 0, 0, 0, false},
	}
	for _, x := range tests {
		if got, ok := impl.EvenTempo(x.l, x.from, x.to); got != x.want || ok != x.ok {
			t.Error(x.l, x.from, x.to, got, ok)
		}
	}
	for _, n := range extremes {
		for _, pair := range [][2]int{{n, 5}, {5, n}, {n, n}, {n, math.MaxInt}, {math.MinInt, n}} {
			if got, ok := impl.EvenTempo(two, pair[0], pair[1]); got != 0 || ok {
				t.Error(pair, got, ok)
			}
		}
	}
}

func TestPaperSpeed(t *testing.T) {
	two, odd := twoTempos(), tempos(0, 333333, 3, 1001, 10, 999983, 1700, 3000, 2000, 600000)
	tests := []struct {
		l                     []impl.Change
		step, width, num, den int
		ok                    bool
	}{
		{two, 0, 25, 250, 1, true}, {two, 9, 25, 250, 1, true}, {two, 10, 25, 500, 1, true}, {two, 2000, 25, 500, 1, true},
		{two, 0, 1, 10, 1, true}, {two, 0, 100, 1000, 1, true}, {two, 0, 0, 0, 0, false}, {two, 0, 101, 0, 0, false}, {two, 0, -1, 0, 0, false},
		{two, 0, -25, 0, 0, false}, {two, -1, 25, 0, 0, false}, {two, 2001, 25, 0, 0, false}, {two, -1, 0, 0, 0, false},
		{tempos(0, 1000000), 5, 1, 1, 1, true}, {tempos(0, 1000000), 5, 100, 100, 1, true}, {tempos(0, 1000000), 2000, 7, 7, 1, true},
		{tempos(0, 1000), 5, 1, 1000, 1, true}, {tempos(0, 1000), 5, 100, 100000, 1, true},
		{odd, 0, 1, 1000000, 333333, true}, {odd, 0, 3, 1000000, 111111, true}, {odd, 3, 7, 1000000, 143, true}, {odd, 3, 77, 1000000, 13, true},
		{odd, 10, 100, 100000000, 999983, true}, {odd, 1700, 1, 1000, 3, true}, {odd, 1999, 60, 20000, 1, true},
		{odd, 2000, 1, 5, 3, true}, {odd, 2000, 4, 20, 3, true}, {odd, 2000, 6, 10, 1, true}, {tempos(0, 999999), 1, 99, 1000000, 10101, true},
		{nil, 0, 25, 0, 0, false}, {tempos(0, 999), 0, 25, 0, 0, false},
	}
	for _, x := range tests {
		if num, den, ok := impl.PaperSpeed(x.l, x.step, x.width); num != x.num || den != x.den || ok != x.ok {
			t.Error(x.l, x.step, x.width, num, den, ok)
		}
	}
	for _, n := range extremes {
		for _, pair := range [][2]int{{n, 25}, {0, n}, {n, n}} {
			if num, den, ok := impl.PaperSpeed(two, pair[0], pair[1]); num != 0 || den != 0 || ok {
				t.Error(pair, num, den, ok)
			}
		}
	}
}

// checkNone checks that a call fails with zero values.
func checkNone(t *testing.T, name string, got int, ok bool) {
	t.Helper()
	if got != 0 || ok {
		t.Error(name, got, ok)
	}
}

func checkNoTempos(t *testing.T, name string, got []impl.Change, ok bool) {
	t.Helper()
	if got != nil || ok {
		t.Error(name, got, ok)
	}
}

func TestWhatRequiresTemposRefusesOthers(t *testing.T) {
	for name, l := range noTempos() {
		for _, n := range []int{0, 1, 7, 100, 2000} {
			got, ok := impl.TempoAt(l, n)
			checkNone(t, "TempoAt, "+name, got, ok)
			got, ok = impl.TimeOf(l, n)
			checkNone(t, "TimeOf, "+name, got, ok)
			got, ok = impl.StepAtTime(l, n)
			checkNone(t, "StepAtTime, "+name, got, ok)
			got, ok = impl.TimeBetween(l, 0, n)
			checkNone(t, "TimeBetween, "+name, got, ok)
			got, ok = impl.EvenTempo(l, 0, n)
			checkNone(t, "EvenTempo, "+name, got, ok)
			num, den, ok := impl.PaperSpeed(l, n, 25)
			checkNone(t, "PaperSpeed, "+name, num, ok)
			checkNone(t, "PaperSpeed, "+name, den, ok)
			more, ok := impl.AddTempo(l, tempo(n, 5000))
			checkNoTempos(t, "AddTempo, "+name, more, ok)
			less, ok := impl.DropTempo(l, n)
			checkNoTempos(t, "DropTempo, "+name, less, ok)
			scaled, ok := impl.ScaleTempos(l, n)
			checkNoTempos(t, "ScaleTempos, "+name, scaled, ok)
		}
		simple, ok := impl.SimpleTempos(l)
		checkNoTempos(t, "SimpleTempos, "+name, simple, ok)
	}
}
