package tests

import (
	"reflect"
	"runtime"
	"slices"
	"testing"
)

const spareMark = 0xa5

// checkCall watches the memory of a call whose arguments and answers are structs with lists in them, however deep:
// what is lent must stay as it is, with the spare room behind each list; the answer must not hang on that room, nor
// share memory with an argument, with another answer, or between two of its own lists.
func checkCall[A, R any](t *testing.T, name string, args A, call func(A) R) {
	t.Helper()
	want := call(roomyCopy(args, 0))
	lent, was := roomyCopy(args, spareItems), roomyCopy(args, spareItems)
	first, second := call(lent), call(lent)
	if !sameDeep(reflect.ValueOf(lent), reflect.ValueOf(was), true) {
		t.Errorf("%s: an argument became %+v, was %+v", name, lent, was)
	}
	for _, got := range []R{first, second} {
		if !sameAnswer(got, want) {
			t.Errorf("%s: %+v, but %+v without spare room", name, got, want)
		}
	}
	spans := slices.Concat(spansOf(reflect.ValueOf(lent)), spansOf(reflect.ValueOf(first)), spansOf(reflect.ValueOf(second)))
	if anyShared(spans) {
		t.Errorf("%s: lists of arguments and answers share memory", name)
	}
	runtime.KeepAlive(lent)
	runtime.KeepAlive(first)
	runtime.KeepAlive(second)
}

// sameAnswer takes an empty list and nil for the same.
func sameAnswer[R any](a, b R) bool {
	return sameDeep(reflect.ValueOf(a), reflect.ValueOf(b), false)
}

func isZero[R any](a R) bool {
	var zero R
	return sameAnswer(a, zero)
}

func roomyCopy[A any](a A, spare int) A {
	return copyDeep(reflect.ValueOf(a), spare).Interface().(A)
}

func copyDeep(v reflect.Value, spare int) reflect.Value {
	out := reflect.New(v.Type()).Elem()
	switch v.Kind() {
	case reflect.Struct:
		for i := range v.NumField() {
			out.Field(i).Set(copyDeep(v.Field(i), spare))
		}
	case reflect.Slice:
		if v.IsNil() && spare == 0 {
			return out
		}
		whole := reflect.MakeSlice(v.Type(), v.Len()+spare, v.Len()+spare)
		for i := range v.Len() {
			whole.Index(i).Set(copyDeep(v.Index(i), spare))
		}
		for i := range spare {
			markDeep(whole.Index(v.Len() + i))
		}
		out.Set(whole.Slice(0, v.Len()))
	default:
		out.Set(v)
	}
	return out
}

func markDeep(v reflect.Value) {
	switch v.Kind() {
	case reflect.Struct:
		for i := range v.NumField() {
			markDeep(v.Field(i))
		}
	case reflect.Int:
		v.SetInt(spareMark)
	case reflect.Uint8:
		v.SetUint(spareMark)
	case reflect.Bool:
		v.SetBool(true)
	}
}

func sameDeep(a, b reflect.Value, withRoom bool) bool {
	switch a.Kind() {
	case reflect.Struct:
		for i := range a.NumField() {
			if !sameDeep(a.Field(i), b.Field(i), withRoom) {
				return false
			}
		}
		return true
	case reflect.Slice:
		return sameLists(a, b, withRoom)
	default:
		return a.Equal(b)
	}
}

func sameLists(a, b reflect.Value, withRoom bool) bool {
	if a.Len() != b.Len() {
		return false
	}
	if withRoom {
		a, b = a.Slice(0, a.Cap()), b.Slice(0, b.Cap())
	}
	if a.Len() != b.Len() {
		return false
	}
	for i := range a.Len() {
		if !sameDeep(a.Index(i), b.Index(i), withRoom) {
			return false
		}
	}
	return true
}

// span is where a list lies, with the room behind it.
type span struct{ from, to uintptr }

func spansOf(v reflect.Value) []span {
	var out []span
	switch v.Kind() {
	case reflect.Struct:
		for i := range v.NumField() {
			out = append(out, spansOf(v.Field(i))...)
		}
	case reflect.Slice:
		if v.Cap() > 0 {
			out = append(out, span{v.Pointer(), v.Pointer() + uintptr(v.Cap())*v.Type().Elem().Size()})
		}
		for i := range v.Len() {
			out = append(out, spansOf(v.Index(i))...)
		}
	}
	return out
}

func anyShared(spans []span) bool {
	for i, a := range spans {
		for _, b := range spans[:i] {
			if a.from < b.to && b.from < a.to {
				return true
			}
		}
	}
	return false
}
