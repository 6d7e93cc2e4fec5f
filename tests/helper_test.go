package tests

import (
	"cmp"
	"fmt"
	"reflect"
	"runtime"
	"slices"
	"strings"
	"testing"
)

// spareRoom is how many elements of unused capacity the copies of a slice get; noSlice is that nil stands for empty ones.
const (
	spareRoom = 3
	noSlice   = -1
)

func in(args ...any) []any { return args }

// expect calls f under the checks of promise 1 and compares its results, where nil and empty slices are equal.
// A nil stands for the zero value of any type.
func expect(t *testing.T, f any, args []any, want ...any) {
	t.Helper()
	got := call(t, f, args...)
	if len(got) != len(want) {
		t.Fatalf("%s has %d results, want %d", nameOf(f), len(got), len(want))
	}
	for i := range want {
		w := want[i]
		if n, ok := w.(int); ok {
			w = int64(n)
		}
		if w == nil && !isZero(got[i]) || w != nil && !same(got[i], w) {
			t.Errorf("%s%s, result %d: got %#v, want %#v", nameOf(f), argumentText(args), i, got[i], w)
		}
	}
}

// call calls f with copies of the arguments and checks promise 1: it returns, changes no argument, not even in unused
// capacity, shares no memory, and returns the same for equal arguments that lie elsewhere and have other capacities.
func call(t *testing.T, f any, args ...any) []any {
	t.Helper()
	first := callOnce(t, f, args, spareRoom)
	for _, spare := range []int{0, noSlice} {
		again := callOnce(t, f, args, spare)
		for i := range first {
			if !same(first[i], again[i]) {
				t.Errorf("%s%s, result %d: %#v at first and then %#v", nameOf(f), argumentText(args), i, first[i], again[i])
			}
		}
	}
	return first
}

func callOnce(t *testing.T, f any, args []any, spare int) (results []any) {
	t.Helper()
	defer func() {
		if r := recover(); r != nil {
			t.Fatalf("%s%s panics: %v", nameOf(f), argumentText(args), r)
		}
	}()
	fun := reflect.ValueOf(f)
	given := make([]reflect.Value, len(args))
	before := make([]any, len(args))
	for i, a := range args {
		given[i] = copyOf(argumentOf(a, fun.Type().In(i)), spare)
		before[i] = withCapacity(given[i]).Interface()
	}
	outs := fun.Call(given)
	for i := range given {
		if !reflect.DeepEqual(before[i], withCapacity(given[i]).Interface()) {
			t.Errorf("%s%s changes argument %d", nameOf(f), argumentText(args), i)
		}
	}
	if sharesMemory(given, outs) {
		t.Errorf("%s%s: a result shares memory with an argument or with another result", nameOf(f), argumentText(args))
	}
	for _, out := range outs {
		results = append(results, out.Interface())
	}
	return results
}

// argumentOf lets tests write nil for a slice and constants for numbers.
func argumentOf(a any, typ reflect.Type) reflect.Value {
	if a == nil {
		return reflect.Zero(typ)
	}
	return reflect.ValueOf(a).Convert(typ)
}

// copyOf returns a deep copy in which each slice has this unused capacity, filled with values that are not zero. Empty
// slices are nil in it for noSlice, and otherwise not, so that both are tried.
func copyOf(v reflect.Value, spare int) reflect.Value {
	if isFlat(v.Type()) {
		return v
	}
	if v.Kind() == reflect.Struct {
		return withFields(v, func(field reflect.Value) reflect.Value { return copyOf(field, spare) })
	}
	if spare == noSlice && v.Len() == 0 {
		return reflect.Zero(v.Type())
	}
	size := v.Len() + max(spare, 0)
	out := reflect.MakeSlice(v.Type(), size, size)
	copyEach(out, v, func(element reflect.Value) reflect.Value { return copyOf(element, spare) })
	for i := v.Len(); i < size; i++ {
		fill(out.Index(i))
	}
	return out.Slice(0, v.Len())
}

// isFlat reports whether values of a type hold no slices. Most slices that are copied hold numbers or terms.
func isFlat(typ reflect.Type) bool {
	if typ.Kind() != reflect.Struct {
		return typ.Kind() != reflect.Slice
	}
	for i := range typ.NumField() {
		if !isFlat(typ.Field(i).Type) {
			return false
		}
	}
	return true
}

// copyEach puts copies of the elements of one slice into another one.
func copyEach(out, v reflect.Value, element func(reflect.Value) reflect.Value) {
	if isFlat(v.Type().Elem()) {
		reflect.Copy(out, v)
		return
	}
	for i := range v.Len() {
		out.Index(i).Set(element(v.Index(i)))
	}
}

// withFields returns a struct whose fields are made from those of v.
func withFields(v reflect.Value, field func(reflect.Value) reflect.Value) reflect.Value {
	out := reflect.New(v.Type()).Elem()
	for i := range v.NumField() {
		out.Field(i).Set(field(v.Field(i)))
	}
	return out
}

func fill(v reflect.Value) {
	switch v.Kind() {
	case reflect.Struct:
		for i := range v.NumField() {
			fill(v.Field(i))
		}
	case reflect.Int64:
		v.SetInt(-77)
	case reflect.String:
		v.SetString("unused")
	case reflect.Slice:
		v.Set(reflect.MakeSlice(v.Type(), 2, 2))
		fill(v.Index(0))
		fill(v.Index(1))
	}
}

// withCapacity returns a deep copy in which the unused capacity of each slice is part of it, and no slice is nil.
func withCapacity(v reflect.Value) reflect.Value {
	if isFlat(v.Type()) {
		return v
	}
	if v.Kind() == reflect.Struct {
		return withFields(v, withCapacity)
	}
	out := reflect.MakeSlice(v.Type(), v.Cap(), v.Cap())
	copyEach(out, v.Slice(0, v.Cap()), withCapacity)
	return out
}

type region struct {
	from, to uintptr
	result   bool
}

func regionsOf(v reflect.Value, result bool) []region {
	if v.Kind() == reflect.Struct {
		var list []region
		for i := range v.NumField() {
			list = append(list, regionsOf(v.Field(i), result)...)
		}
		return list
	}
	if v.Kind() != reflect.Slice || v.Cap() == 0 {
		return nil
	}
	whole := v.Slice(0, v.Cap())
	size := uintptr(v.Cap()) * v.Type().Elem().Size()
	list := []region{{v.Pointer(), v.Pointer() + size, result}}
	// The inner slices of unused capacity count for arguments, whose unused capacity is the caller's.
	inner := v.Len()
	if !result {
		inner = v.Cap()
	}
	if isFlat(v.Type().Elem()) {
		inner = 0
	}
	for i := range inner {
		list = append(list, regionsOf(whole.Index(i), result)...)
	}
	return list
}

func sharesMemory(args, results []reflect.Value) bool {
	var all []region
	for _, v := range results {
		all = append(all, regionsOf(v, true)...)
	}
	if len(all) == 0 {
		return false
	}
	for _, v := range args {
		all = append(all, regionsOf(v, false)...)
	}
	slices.SortFunc(all, func(a, b region) int { return cmp.Compare(a.from, b.from) })
	// The greatest ends so far, of all regions and of those of results.
	var end, resultEnd uintptr
	for _, a := range all {
		if a.from < resultEnd || a.result && a.from < end {
			return true
		}
		end = max(end, a.to)
		if a.result {
			resultEnd = max(resultEnd, a.to)
		}
	}
	return false
}

// same compares deeply, where nil and empty slices are equal.
func same(a, b any) bool {
	return reflect.DeepEqual(emptyForNil(a), emptyForNil(b))
}

func emptyForNil(a any) any {
	return copyOf(reflect.ValueOf(a), 0).Interface()
}

// isZero reports whether a result is the zero value; an empty slice is.
func isZero(a any) bool {
	v := reflect.ValueOf(a)
	return v.Kind() == reflect.Slice && v.Len() == 0 || v.IsZero()
}

func nameOf(f any) string {
	name := runtime.FuncForPC(reflect.ValueOf(f).Pointer()).Name()
	return name[strings.LastIndex(name, ".")+1:]
}

func argumentText(args []any) string {
	text := fmt.Sprintf("%#v", args)
	if len(text) > 300 {
		text = text[:300] + ".."
	}
	return "(" + strings.TrimPrefix(text, "[]interface {}") + ")"
}

// repeated returns a list of n numbers.
func repeated(n int, value int64) []int64 {
	list := make([]int64, n)
	for i := range list {
		list[i] = value
	}
	return list
}

// counted returns the numbers from 0 to n - 1.
func counted(n int) []int64 {
	list := make([]int64, n)
	for i := range list {
		list[i] = int64(i)
	}
	return list
}
