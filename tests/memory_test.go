package tests

import (
	"slices"
	"testing"
)

// roomy is a copy of a list with spare room behind it, filled so that a write into it shows.
func roomy[T any](list []T, fill T) []T {
	room := append(slices.Clone(list), fill, fill, fill)
	return room[:len(list):len(room)]
}

// withRoom is a list together with the spare room behind it.
func withRoom[T any](list []T) []T {
	return list[:cap(list)]
}

// A watch tells whether a list, with its spare room, is still what it was.
type watch struct {
	what string
	same func() bool
}

func watchOver[T comparable](what string, list []T) watch {
	before := slices.Clone(withRoom(list))
	return watch{what, func() bool { return slices.Equal(withRoom(list), before) }}
}

func checkWatches(t *testing.T, when string, watches []watch) {
	t.Helper()
	for _, w := range watches {
		if !w.same() {
			t.Errorf("%s: %s is changed", when, w.what)
		}
	}
}

// scribble writes over a list and the spare room behind it.
func scribble[T any](list []T, fill T) {
	for i := range withRoom(list) {
		withRoom(list)[i] = fill
	}
}
