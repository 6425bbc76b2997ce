package tests

import (
	"fmt"
	"reflect"
)

// What memory_test.go asks of single lists, asked of values of any type, by reflection: those that the program's functions take and answer.

// junkOf is something to fill spare room with, and to write over what was there.
func junkOf(kind reflect.Type) reflect.Value {
	v := reflect.New(kind).Elem()
	switch kind.Kind() {
	case reflect.String:
		v.SetString("spare")
	case reflect.Bool:
		v.SetBool(true)
	case reflect.Int64:
		v.SetInt(-97)
	case reflect.Uint32, reflect.Uint64:
		v.SetUint(97)
	case reflect.Struct:
		for i := range kind.NumField() {
			v.Field(i).Set(junkOf(kind.Field(i).Type))
		}
	}
	return v
}

// roomyValue is a value with the same lists in memory of their own, each with spare room behind it, filled so that a write into it shows.
func roomyValue(v reflect.Value) reflect.Value {
	return rebuilt(v, func(v reflect.Value) (reflect.Value, int) {
		all := v.Slice3(0, v.Len(), v.Len())
		for range 3 {
			all = reflect.Append(all, junkOf(v.Type().Elem()))
		}
		return all, v.Len()
	})
}

// wholeValue is a copy of a value together with the spare room behind its lists.
func wholeValue(v reflect.Value) reflect.Value {
	return rebuilt(v, func(v reflect.Value) (reflect.Value, int) { return v.Slice(0, v.Cap()), v.Len() })
}

// copyValue is a copy of a value without spare room.
func copyValue(v reflect.Value) reflect.Value {
	return rebuilt(v, func(v reflect.Value) (reflect.Value, int) { return v, v.Len() })
}

// rebuilt makes each list anew from what taken tells of it: its elements, with those that belong into the spare room, and how many stand ahead of that.
func rebuilt(v reflect.Value, taken func(reflect.Value) (reflect.Value, int)) reflect.Value {
	next := reflect.New(v.Type()).Elem()
	switch v.Kind() {
	case reflect.Struct:
		for i := range v.NumField() {
			next.Field(i).Set(rebuilt(v.Field(i), taken))
		}
	case reflect.Slice:
		all, count := taken(v)
		list := reflect.MakeSlice(v.Type(), all.Len(), all.Len())
		for i := range all.Len() {
			list.Index(i).Set(rebuilt(all.Index(i), taken))
		}
		next.Set(list.Slice(0, count))
	default:
		next.Set(v)
	}
	return next
}

// sameValue takes an empty list and nil for the same, and asks for the spare room only where it is told to.
func sameValue(a, b reflect.Value, room bool) bool {
	switch a.Kind() {
	case reflect.Struct:
		for i := range a.NumField() {
			if !sameValue(a.Field(i), b.Field(i), room) {
				return false
			}
		}
		return true
	case reflect.Slice:
		if a.Len() != b.Len() || room && a.Cap() != b.Cap() {
			return false
		}
		count := a.Len()
		if room {
			count = a.Cap()
		}
		for i := range count {
			if !sameValue(a.Slice(0, count).Index(i), b.Slice(0, count).Index(i), room) {
				return false
			}
		}
		return true
	}
	return a.Interface() == b.Interface()
}

func sameValues(a, b []reflect.Value, room bool) bool {
	for i := range a {
		if !sameValue(a[i], b[i], room) {
			return false
		}
	}
	return len(a) == len(b)
}

// A span is the memory of one list, with its spare room.
type span struct {
	what     string
	from, to uintptr
}

func (s span) meets(other span) bool {
	return s.from < other.to && other.from < s.to
}

// spansOf are those of all lists of a value.
func spansOf(what string, v reflect.Value) []span {
	var spans []span
	switch v.Kind() {
	case reflect.Struct:
		for i := range v.NumField() {
			spans = append(spans, spansOf(what+"."+v.Type().Field(i).Name, v.Field(i))...)
		}
	case reflect.Slice:
		if v.Cap() > 0 {
			from := v.Pointer()
			spans = append(spans, span{what, from, from + uintptr(v.Cap())*v.Type().Elem().Size()})
		}
		for i := range v.Len() {
			spans = append(spans, spansOf(fmt.Sprintf("%s[%d]", what, i), v.Index(i))...)
		}
	}
	return spans
}

// scribbleOver writes over all lists of a value, and the spare room behind them.
func scribbleOver(v reflect.Value) {
	switch v.Kind() {
	case reflect.Struct:
		for i := range v.NumField() {
			scribbleOver(v.Field(i))
		}
	case reflect.Slice:
		for i := range v.Len() {
			scribbleOver(v.Index(i))
		}
		for i := range v.Cap() {
			v.Slice(0, v.Cap()).Index(i).Set(junkOf(v.Type().Elem()))
		}
	}
}
