package crew_test

import (
	"fmt"
	"reflect"
)

// room: where the elements of a list lie, spare room too.
type room struct{ from, to uintptr }

// rooms of all lists within a value.
func rooms(v reflect.Value) []room {
	var l []room
	switch v.Kind() {
	case reflect.Struct:
		for i := range v.NumField() {
			l = append(l, rooms(v.Field(i))...)
		}
	case reflect.Slice:
		whole := v.Slice(0, v.Cap())
		size := uintptr(v.Cap()) * v.Type().Elem().Size()
		if size > 0 {
			l = append(l, room{whole.Pointer(), whole.Pointer() + size})
		}
		for i := range whole.Len() {
			l = append(l, rooms(whole.Index(i))...)
		}
	}
	return l
}

// shares: do the answers share memory with what was handed in, or with one another?
func shares(in any, out ...any) bool {
	given := rooms(reflect.ValueOf(in))
	var got []room
	for _, o := range out {
		got = append(got, rooms(reflect.ValueOf(o))...)
	}
	for i, a := range got {
		for _, b := range append(given[:len(given):len(given)], got[:i]...) {
			if a.from < b.to && b.from < a.to {
				return true
			}
		}
	}
	return false
}

// whole: all that lies in the lists of a value, spare room too.
func whole(x any) string {
	var tell func(v reflect.Value) string
	tell = func(v reflect.Value) string {
		s := ""
		switch v.Kind() {
		case reflect.Struct:
			for i := range v.NumField() {
				s += tell(v.Field(i)) + ";"
			}
			return "{" + s + "}"
		case reflect.Slice:
			for i := range v.Cap() {
				s += tell(v.Slice(0, v.Cap()).Index(i)) + ","
			}
			return fmt.Sprint(v.Len()) + "[" + s + "]"
		}
		return fmt.Sprintf("%#v", v)
	}
	return tell(reflect.ValueOf(x))
}
