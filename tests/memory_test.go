package tests

import (
	"fmt"
	"reflect"
	"strings"
	"testing"
)

// allOf tells a value in all parts, with what lies behind the ends of its lists, so that a write there is seen.
func allOf(v any) string {
	var b strings.Builder
	tellAll(&b, reflect.ValueOf(v))
	return b.String()
}

func tellAll(b *strings.Builder, v reflect.Value) {
	switch v.Kind() {
	case reflect.Struct:
		for i := range v.NumField() {
			b.WriteString(" .")
			tellAll(b, v.Field(i))
		}
	case reflect.Slice:
		fmt.Fprintf(b, "[%d/%d:", v.Len(), v.Cap())
		whole := v.Slice(0, v.Cap())
		for i := range whole.Len() {
			b.WriteString(" ")
			tellAll(b, whole.Index(i))
		}
		b.WriteString("]")
	default:
		fmt.Fprintf(b, "%#v", v.Interface())
	}
}

// room is where a list lies in memory, its spare room included.
type room struct{ from, to uintptr }

func roomsOf(v reflect.Value) []room {
	var rooms []room
	switch v.Kind() {
	case reflect.Struct:
		for i := range v.NumField() {
			rooms = append(rooms, roomsOf(v.Field(i))...)
		}
	case reflect.Slice:
		if size := uintptr(v.Cap()) * v.Type().Elem().Size(); size > 0 {
			rooms = append(rooms, room{v.Pointer(), v.Pointer() + size})
		}
		for i := range v.Len() {
			rooms = append(rooms, roomsOf(v.Index(i))...)
		}
	}
	return rooms
}

// checkNew holds that no two lists of an answer share memory, and that none shares any with what was handed in.
func checkNew(t *testing.T, what string, answer any, given ...any) {
	t.Helper()
	rooms := roomsOf(reflect.ValueOf(answer))
	for i, a := range rooms {
		for _, b := range rooms[:i] {
			if a.from < b.to && b.from < a.to {
				t.Errorf("%s: two lists of the answer share memory", what)
				return
			}
		}
	}
	for _, g := range given {
		for _, b := range roomsOf(reflect.ValueOf(g)) {
			for _, a := range rooms {
				if a.from < b.to && b.from < a.to {
					t.Errorf("%s: the answer shares memory with what was handed in", what)
					return
				}
			}
		}
	}
}

// checkKept calls a function and holds that what was handed in is as it was.
func checkKept(t *testing.T, what string, call func(), given ...any) {
	t.Helper()
	ahead := make([]string, len(given))
	for i, g := range given {
		ahead[i] = allOf(g)
	}
	call()
	for i, g := range given {
		if allOf(g) != ahead[i] {
			t.Errorf("%s: what was handed in has changed: %d", what, i)
		}
	}
}
