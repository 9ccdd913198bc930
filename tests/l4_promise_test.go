package tests

import (
	"math"
	"math/rand"
	"slices"
	"testing"

	"loop.example/g00949/impl"
)

// checkSteps checks the first half of the fourth promise, and the times themselves against the sums of all steps before.
func checkSteps(t *testing.T, l []impl.Change) {
	t.Helper()
	lasts, begins := lastsOfSteps(l), beginsOfSteps(l)
	for step := range 2001 {
		if got, ok := impl.TempoAt(l, step); got != lasts[step] || !ok {
			t.Fatal("the tempo", l, step, got, ok)
		}
		time, ok := impl.TimeOf(l, step)
		if time != begins[step] || !ok {
			t.Fatal("the time", l, step, time, ok)
		}
		checkStepAt(t, l, time, step)
		checkStepAt(t, l, time+lasts[step]-1, step)
		checkStepAt(t, l, time+1, step)
		if step > 0 {
			checkStepAt(t, l, time-1, step-1)
		}
	}
	for _, later := range []int{begins[2000] + lasts[2000], begins[2000] + 1000000000, math.MaxInt} {
		checkStepAt(t, l, later, 2000)
	}
}

func checkStepAt(t *testing.T, l []impl.Change, time, want int) {
	t.Helper()
	if got, ok := impl.StepAtTime(l, time); got != want || !ok {
		t.Fatal("the step at", l, time, got, want, ok)
	}
}

// checkSimple checks the second half of the fourth promise, and that nothing simpler has the same times. It reports whether a change is left out.
func checkSimple(t *testing.T, l []impl.Change) bool {
	t.Helper()
	simple, ok := impl.SimpleTempos(l)
	if !ok || !areTempos(simple) {
		t.Fatal("simple", l, simple, ok)
	}
	for step := range 2001 {
		before, _ := impl.TimeOf(l, step)
		if after, ok := impl.TimeOf(simple, step); after != before || !ok {
			t.Fatal("another time", l, simple, step, before, after)
		}
	}
	var want []impl.Change
	for i, x := range l {
		if i == 0 || x.Lasts != l[i-1].Lasts {
			want = append(want, x)
		}
	}
	if !slices.Equal(simple, want) {
		t.Fatal("simple", l, simple, want)
	}
	if again, ok := impl.SimpleTempos(simple); !ok || !slices.Equal(again, simple) {
		t.Fatal("simple again", simple, again, ok)
	}
	return len(simple) < len(l)
}

// checkBetween holds what is asked of two steps against the sums of steps.
func checkBetween(t *testing.T, l []impl.Change, begins []int, from, to int) {
	t.Helper()
	fits := 0 <= from && from <= to && to <= 2000
	time := 0
	if fits {
		time = begins[to] - begins[from]
	}
	if got, ok := impl.TimeBetween(l, from, to); got != time || ok != fits {
		t.Fatal("between", l, from, to, got, time, ok)
	}
	even, ok := impl.EvenTempo(l, from, to)
	if ok != (fits && from < to) || !ok && even != 0 {
		t.Fatal("even", l, from, to, even, ok)
	}
	// Rounded down, it is at most the quotient, and one more would be greater.
	if steps := to - from; ok && (even*steps > time || (even+1)*steps <= time) {
		t.Fatal("even", l, from, to, even, time)
	}
}

// checkScaled holds scaled tempos against their definition. It reports whether there are any.
func checkScaled(t *testing.T, l []impl.Change, percent int) bool {
	t.Helper()
	var want []impl.Change
	for _, x := range l {
		n := x.Lasts * percent / 100
		// The nearest integer is the one above if the quotient is at least half behind n.
		if 2*x.Lasts*percent >= 200*n+100 {
			n++
		}
		want = append(want, tempo(x.Step, n))
	}
	got, ok := impl.ScaleTempos(l, percent)
	if ok != areTempos(want) || ok && !slices.Equal(got, want) || !ok && got != nil {
		t.Fatal("scaled", l, percent, got, ok)
	}
	return ok
}

// checkAdded holds tempos with a further change against the steps that they must have then.
func checkAdded(t *testing.T, l []impl.Change, x impl.Change) {
	t.Helper()
	byStep := map[int]int{x.Step: x.Lasts}
	for _, y := range l {
		if y.Step != x.Step {
			byStep[y.Step] = y.Lasts
		}
	}
	var want []impl.Change
	for step := range 2001 {
		if lasts, changes := byStep[step]; changes {
			want = append(want, tempo(step, lasts))
		}
	}
	got, ok := impl.AddTempo(l, x)
	if ok != (len(want) <= 20) || ok && !slices.Equal(got, want) || !ok && got != nil {
		t.Fatal("added", l, x, got, ok)
	}
	if !ok || len(got) == len(l) {
		return
	}
	i := slices.Index(got, x)
	if back, ok := impl.DropTempo(got, i); !ok || !slices.Equal(back, l) {
		t.Fatal("dropped again", l, x, back, ok)
	}
}

// checkDropped holds tempos without a change against its definition.
func checkDropped(t *testing.T, l []impl.Change, i int) {
	t.Helper()
	var want []impl.Change
	for k, x := range l {
		if i > 0 && i < len(l) && k != i {
			want = append(want, x)
		}
	}
	if got, ok := impl.DropTempo(l, i); !slices.Equal(got, want) || ok != (want != nil) {
		t.Fatal("dropped", l, i, got, ok)
	}
}

// checkSpeed checks that a speed is the width divided by how long the step lasts, and in lowest terms.
func checkSpeed(t *testing.T, l []impl.Change, step, width int) {
	t.Helper()
	want := ratio(width*1000000, lastsOfSteps(l)[step])
	if num, den, ok := impl.PaperSpeed(l, step, width); !ok || !isRatio(num, den, want) {
		t.Fatal("the speed", l, step, width, num, den, ok)
	}
}

func TestPromise4GoodTempos(t *testing.T) {
	for name, l := range goodTempos() {
		t.Run(name, func(t *testing.T) {
			checkSteps(t, l)
			checkSimple(t, l)
			begins := beginsOfSteps(l)
			for _, from := range []int{-1, 0, 1, 2, 9, 10, 1000, 1999, 2000, 2001} {
				for _, to := range []int{-1, 0, 1, 2, 9, 10, 1000, 1999, 2000, 2001} {
					checkBetween(t, l, begins, from, to)
				}
			}
			for percent := 1; percent <= 400; percent++ {
				checkScaled(t, l, percent)
			}
			for step := range 2001 {
				checkAdded(t, l, tempo(step, 1000+step))
			}
			for i := -1; i <= 21; i++ {
				checkDropped(t, l, i)
			}
			for width := 1; width <= 100; width++ {
				checkSpeed(t, l, 20*width, width)
				checkSpeed(t, l, width-1, width)
			}
		})
	}
}

func TestPromise4SomeTempos(t *testing.T) {
	r := rand.New(rand.NewSource(15))
	simpler, scaled := 0, 0
	for range 300 {
		l := someTempos(r)
		if !areTempos(l) {
			t.Fatal("no tempos", l)
		}
		checkSteps(t, l)
		if checkSimple(t, l) {
			simpler++
		}
		begins := beginsOfSteps(l)
		for range 20 {
			checkBetween(t, l, begins, r.Intn(2003)-1, r.Intn(2003)-1)
			checkAdded(t, l, tempo(r.Intn(2001), 1000+r.Intn(999001)))
			checkDropped(t, l, r.Intn(len(l)+2))
			checkSpeed(t, l, r.Intn(2001), 1+r.Intn(100))
			if checkScaled(t, l, 1+r.Intn(400)) {
				scaled++
			}
		}
	}
	if simpler < 100 || scaled < 500 {
		t.Error("too few simpler or scaled tempos", simpler, scaled)
	}
}

// TestPromise4AllShortTempos takes all tempos with changes at these steps and these Lasts.
func TestPromise4AllShortTempos(t *testing.T) {
	steps, kinds := []int{1, 2, 2000}, []int{0, 1000, 1001, 1000000}
	for set := range 256 {
		l := tempos(0, kinds[1+set%3])
		for i, step := range steps {
			// The first one of the kinds stands for no change.
			if lasts := kinds[set>>(2*i)%4]; lasts > 0 {
				l = append(l, tempo(step, lasts))
			}
		}
		checkSimple(t, l)
		checkSteps(t, l)
	}
}

// TestScaleTemposByItsDefinition takes each percent with Lasts around all halves and limits.
func TestScaleTemposByItsDefinition(t *testing.T) {
	r := rand.New(rand.NewSource(16))
	halves := 0
	for percent := 1; percent <= 400; percent++ {
		for _, bound := range []int{1000, 1000000} {
			near := bound * 100 / percent
			for lasts := max(1000, near-60); lasts <= min(1000000, near+60); lasts++ {
				checkScaled(t, tempos(0, lasts), percent)
				if lasts*percent%100 == 50 {
					halves++
				}
			}
		}
		for range 50 {
			checkScaled(t, tempos(0, 1000+r.Intn(999001), 9, 1000+r.Intn(99001)), percent)
		}
	}
	if halves < 100 {
		t.Error("too few halves", halves)
	}
}

func TestPromise33Tempos(t *testing.T) {
	numbers := append([]int{-1, 0, 1, 2, 9, 10, 19, 20, 99, 100, 101, 400, 401, 1999, 2000, 2001, 1000000}, extremes...)
	done := map[string]int{}
	check := func(about string, l []impl.Change, numbers []int) {
		checkTotal(t, "AreTempos, "+about, impl.AreTempos, l)
		checkBoth(t, done, "SimpleTempos", about, impl.SimpleTempos, l)
		for _, n := range numbers {
			checkBoth(t, done, "TempoAt", about, impl.TempoAt, l, n)
			checkBoth(t, done, "TimeOf", about, impl.TimeOf, l, n)
			checkBoth(t, done, "StepAtTime", about, impl.StepAtTime, l, n)
			checkBoth(t, done, "DropTempo", about, impl.DropTempo, l, n)
			checkBoth(t, done, "ScaleTempos", about, impl.ScaleTempos, l, n)
			for _, m := range []int{0, 7, 2000, n} {
				checkBoth(t, done, "TimeBetween", about, impl.TimeBetween, l, m, n)
				checkBoth(t, done, "EvenTempo", about, impl.EvenTempo, l, m, n)
				checkBoth(t, done, "PaperSpeed", about, impl.PaperSpeed, l, m, n)
				checkBoth(t, done, "PaperSpeed", about, impl.PaperSpeed, l, n, m)
			}
			for _, x := range []impl.Change{tempo(n, 5000), tempo(7, n), tempo(0, n), tempo(n, n)} {
				checkBoth(t, done, "AddTempo", about, impl.AddTempo, l, x)
			}
		}
	}
	for name, l := range goodTempos() {
		check(name, l, numbers)
	}
	for name, l := range noTempos() {
		if len(l) < 1000 {
			check(name, l, []int{0, 1, 100})
		} else {
			check(name, l, []int{1})
		}
	}
	checkDone(t, done, "SimpleTempos", "TempoAt", "TimeOf", "StepAtTime", "DropTempo", "ScaleTempos", "TimeBetween", "EvenTempo", "PaperSpeed", "AddTempo")
}

// TestPromise33TemposAreNew checks that results without a change share no memory with the tempos either.
func TestPromise33TemposAreNew(t *testing.T) {
	for name, l := range goodTempos() {
		saved := slices.Clone(l)
		scaled, _ := impl.ScaleTempos(l, 100)
		overwriteAll(scaled, tempo(-5, -5))
		simple, _ := impl.SimpleTempos(l)
		overwriteAll(simple, tempo(-5, -5))
		replaced, _ := impl.AddTempo(l, l[len(l)-1])
		overwriteAll(replaced, tempo(-5, -5))
		shorter, _ := impl.DropTempo(l, len(l)-1)
		overwriteAll(shorter, tempo(-5, -5))
		if !slices.Equal(l, saved) {
			t.Error(name, "is changed", l)
		}
	}
}
