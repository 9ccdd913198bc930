package tests

import (
	"reflect"
	"testing"
)

// around is how many elements stand in front of and behind each slice of an argument.
const around = 3

// memory holds the arrays in the middle of which the slices of arguments lie.
type memory struct {
	filler int
	arrays []reflect.Value
	saved  []reflect.Value
}

// place copies an argument into arrays of its own.
func (m *memory) place(v reflect.Value) reflect.Value {
	placed := reflect.New(v.Type()).Elem()
	placed.Set(v)
	switch v.Kind() {
	case reflect.Struct:
		for i := range v.NumField() {
			placed.Field(i).Set(m.place(v.Field(i)))
		}
	case reflect.Slice:
		if v.IsNil() {
			break
		}
		array := reflect.MakeSlice(v.Type(), v.Len()+2*around, v.Len()+2*around)
		for i := range array.Len() {
			fill(array.Index(i), m.filler)
		}
		for i := range v.Len() {
			array.Index(around + i).Set(m.place(v.Index(i)))
		}
		m.arrays = append(m.arrays, array)
		placed.Set(array.Slice(around, around+v.Len()))
	}
	return placed
}

// save remembers what the arrays hold now.
func (m *memory) save() {
	m.saved = nil
	for _, array := range m.arrays {
		m.saved = append(m.saved, deepCopy(array))
	}
}

func (m *memory) check(t *testing.T, name string) {
	t.Helper()
	for i, array := range m.arrays {
		if !same(array, m.saved[i]) {
			t.Errorf("%s: an argument is changed: %v, before %v", name, array, m.saved[i])
		}
	}
}

func (m *memory) overwrite(n int) {
	for _, array := range m.arrays {
		for i := range array.Len() {
			fill(array.Index(i), n)
		}
	}
	m.save()
}

// fill sets all numbers of a value.
func fill(v reflect.Value, n int) {
	switch v.Kind() {
	case reflect.Int:
		v.SetInt(int64(n))
	case reflect.Struct:
		for i := range v.NumField() {
			fill(v.Field(i), n)
		}
	default:
		v.SetZero()
	}
}

func deepCopy(v reflect.Value) reflect.Value {
	copied := reflect.New(v.Type()).Elem()
	copied.Set(v)
	switch v.Kind() {
	case reflect.Struct:
		for i := range v.NumField() {
			copied.Field(i).Set(deepCopy(v.Field(i)))
		}
	case reflect.Slice:
		copied.Set(reflect.MakeSlice(v.Type(), v.Len(), v.Len()))
		for i := range v.Len() {
			copied.Index(i).Set(deepCopy(v.Index(i)))
		}
	}
	return copied
}

// same compares values, for which a nil slice is an empty one.
func same(a, b reflect.Value) bool {
	switch a.Kind() {
	case reflect.Struct:
		for i := range a.NumField() {
			if !same(a.Field(i), b.Field(i)) {
				return false
			}
		}
		return true
	case reflect.Slice:
		if a.Len() != b.Len() {
			return false
		}
		for i := range a.Len() {
			if !same(a.Index(i), b.Index(i)) {
				return false
			}
		}
		return true
	}
	return a.Equal(b)
}

func isZero(v reflect.Value) bool {
	return same(v, reflect.Zero(v.Type()))
}

// slicesOf returns all slices of a value with elements that are no slices, with their spare capacity.
func slicesOf(v reflect.Value) []reflect.Value {
	var l []reflect.Value
	switch v.Kind() {
	case reflect.Struct:
		for i := range v.NumField() {
			l = append(l, slicesOf(v.Field(i))...)
		}
	case reflect.Slice:
		if v.Type().Elem().Kind() != reflect.Slice {
			return []reflect.Value{v.Slice(0, v.Cap())}
		}
		for i := range v.Len() {
			l = append(l, slicesOf(v.Index(i))...)
		}
	}
	return l
}

// checkTotal calls a function and checks that it does not panic, that it returns zero values if it fails, that it depends on nothing but the arguments and changes none of them, and that no memory is shared. It reports whether the last result is true.
func checkTotal(t *testing.T, name string, function any, args ...any) bool {
	t.Helper()
	ok := false
	// The fillers fit into most arguments and into none.
	for _, filler := range []int{80, -1} {
		noPanic(t, name, func() { ok = checkGuarded(t, name, function, filler, args) })
	}
	return ok
}

func checkGuarded(t *testing.T, name string, function any, filler int, args []any) bool {
	t.Helper()
	m := &memory{filler: filler}
	var placed, plain []reflect.Value
	for _, x := range args {
		placed = append(placed, m.place(reflect.ValueOf(x)))
		plain = append(plain, deepCopy(reflect.ValueOf(x)))
	}
	m.save()
	f := reflect.ValueOf(function)
	got := f.Call(placed)
	m.check(t, name)
	saved := copyAll(got)
	ok := saved[len(saved)-1].Bool()
	for _, x := range saved {
		if !ok && !isZero(x) {
			t.Errorf("%s: fails with a result: %v", name, x)
		}
	}
	checkAll(t, name+": depends on what is around the arguments", f.Call(plain), saved)
	m.overwrite(33)
	checkAll(t, name+": the result changes with the arguments", got, saved)
	checkApart(t, name, got)
	m.check(t, name+", by its result")
	checkAll(t, name+": depends on the last result", f.Call(plain), saved)
	return ok
}

func copyAll(l []reflect.Value) []reflect.Value {
	var copied []reflect.Value
	for _, x := range l {
		copied = append(copied, deepCopy(x))
	}
	return copied
}

func checkAll(t *testing.T, name string, got, want []reflect.Value) {
	t.Helper()
	for i := range want {
		if !same(got[i], want[i]) {
			t.Errorf("%s: %v, not %v", name, got[i], want[i])
		}
	}
}

// checkApart writes other numbers to each slice of a result.
func checkApart(t *testing.T, name string, got []reflect.Value) {
	t.Helper()
	var all, saved []reflect.Value
	for _, x := range got {
		all = append(all, slicesOf(x)...)
	}
	for i, l := range all {
		for j := range l.Len() {
			fill(l.Index(j), -1000-i)
		}
		saved = append(saved, deepCopy(l))
	}
	checkAll(t, name+": slices of a result share memory", all, saved)
}

// checkReading holds what a parser reads in some texts, and in all changes of one byte of them, against their definition: read finds there what is to be found, and write has what is read as its text. It returns how many of the texts are read.
func checkReading[T any](t *testing.T, bases []string, parse, read func(string) (T, bool), write func(T) (string, bool)) int {
	t.Helper()
	done := 0
	for _, base := range bases {
		for _, s := range append(changedTexts(base), base) {
			want, fine := read(s)
			if !fine {
				want = *new(T)
			}
			got, ok := parse(s)
			if ok != fine || !same(reflect.ValueOf(got), reflect.ValueOf(want)) {
				t.Fatalf("%q: %v %v, want %v", s, got, ok, fine)
			}
			if !ok {
				continue
			}
			done++
			if back, ok := write(got); !ok || back != s {
				t.Fatalf("%q: %q", s, back)
			}
		}
	}
	return done
}
