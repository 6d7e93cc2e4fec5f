package tests

import (
	"reflect"
	"testing"

	"loop.example/g01075/impl"
)

// The checks of promise 1 are only worth something if they see what they look for.

func TestHelperSeesSharedMemory(t *testing.T) {
	list := []int64{1, 2, 3, 4}
	nested := [][]int64{list}
	terms := []impl.Term{{Kind: 1}, {Kind: 1}}
	holder := struct{ Lists [][]int64 }{nested}
	cases := []struct {
		what          string
		args, results []any
		want          bool
	}{
		{"the same slice", []any{list}, []any{list}, true},
		{"unused capacity of an argument", []any{list[:1]}, []any{list[3:]}, true},
		{"unused capacity of a result", []any{list[2:]}, []any{list[:1]}, true},
		{"an inner slice of an argument", []any{nested}, []any{list}, true},
		{"an inner slice of a result", []any{list}, []any{nested}, true},
		{"inner slices of one result", nil, []any{[][]int64{list[:2:2], list[1:]}}, true},
		{"two results", nil, []any{list, list}, true},
		{"terms", []any{terms}, []any{terms[1:]}, true},
		{"unused capacity of terms", []any{terms[:1]}, []any{terms[1:]}, true},
		{"operands in one memory", nil, []any{[][]impl.Term{terms[:1], terms[1:]}}, true},
		{"a field of a struct", []any{list}, []any{holder}, true},
		{"two arguments", []any{list, list}, []any{[]int64{1}}, false},
		{"neighbours", nil, []any{[][]int64{list[:2:2], list[2:]}}, false},
		{"strings and numbers", []any{"a", int64(1)}, []any{"a", int64(1)}, false},
	}
	for _, c := range cases {
		if got := sharesMemory(valuesOf(c.args), valuesOf(c.results)); got != c.want {
			t.Errorf("%s: got %v, want %v", c.what, got, c.want)
		}
	}
}

func valuesOf(list []any) []reflect.Value {
	var values []reflect.Value
	for _, a := range list {
		values = append(values, reflect.ValueOf(a))
	}
	return values
}

func TestHelperSeesChanges(t *testing.T) {
	for _, change := range []func([][]int64){
		func(r [][]int64) { r[0][0]++ },
		func(r [][]int64) { r[0] = append(r[0], 5) },
		func(r [][]int64) { _ = append(r, []int64{5}) },
		func(r [][]int64) { r[0], r[1] = r[1], r[0] },
	} {
		given := copyOf(reflect.ValueOf([][]int64{{1, 2}, {3}}), spareRoom)
		before := withCapacity(given).Interface()
		change(given.Interface().([][]int64))
		if reflect.DeepEqual(before, withCapacity(given).Interface()) {
			t.Error("a change of an argument is not seen")
		}
	}
}

func TestHelperSeesChangesOfTerms(t *testing.T) {
	for _, change := range []func([]impl.Term){
		func(e []impl.Term) { e[0].Kind++ },
		func(e []impl.Term) { e[1].Value++ },
		func(e []impl.Term) { _ = append(e, impl.Term{}) },
	} {
		given := copyOf(reflect.ValueOf(op(impl.OpAdd, num(1), num(2))), spareRoom)
		before := withCapacity(given).Interface()
		change(given.Interface().([]impl.Term))
		if reflect.DeepEqual(before, withCapacity(given).Interface()) {
			t.Error("a change of terms is not seen")
		}
	}
}

func TestHelperComparesEmptyLists(t *testing.T) {
	if !same([]int64(nil), []int64{}) || !same([][]int64{nil}, [][]int64{{}}) || same([]int64{0}, []int64{}) || same(int64(0), false) {
		t.Error("same")
	}
	if !isZero([]int64{}) || !isZero("") || !isZero(false) || isZero([]int64{0}) || isZero(int64(1)) {
		t.Error("isZero")
	}
}
