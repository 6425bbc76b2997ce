package tests

import (
	"slices"
	"testing"
)

// roomy is a copy of a list with spare room behind it, filled so that a write into it shows.
func roomy[T any](list []T, fill T) []T {
	room := append(slices.Clone(list), fill, fill, fill)
	return room[:len(list):len(room)]
}

// withRoom is a list together with the spare room behind it.
func withRoom[T any](list []T) []T {
	return list[:cap(list)]
}

// A watch tells whether a list, with its spare room, is still what it was.
type watch struct {
	what string
	same func() bool
}

func watchOver[T comparable](what string, list []T) watch {
	before := slices.Clone(withRoom(list))
	return watch{what, func() bool { return slices.Equal(withRoom(list), before) }}
}

func checkWatches(t *testing.T, when string, watches []watch) {
	t.Helper()
	for _, w := range watches {
		if !w.same() {
			t.Errorf("%s: %s is changed", when, w.what)
		}
	}
}

// scribble writes over a list and the spare room behind it.
func scribble[T any](list []T, fill T) {
	for i := range withRoom(list) {
		withRoom(list)[i] = fill
	}
}

// A part is one list of an answer or an argument.
type part struct {
	watch
	spoil func()
}

func partOf[T comparable](what string, list []T, fill T) part {
	return part{watchOver(what, list), func() { scribble(list, fill) }}
}

// An answer is what a call answered, in its parts.
type answer[A any] interface {
	parts() []part
	clone() A
	same(A) bool
}

// checkOwn: a call changes no argument, and what it answers shares nothing with an argument, nor one list of it with another.
func checkOwn[A answer[A]](t *testing.T, when string, argument []part, call func() A) {
	t.Helper()
	var watches []watch
	for _, p := range argument {
		watches = append(watches, p.watch)
	}
	given := call()
	checkWatches(t, when, watches)
	before := given.clone()
	for i, p := range given.parts() {
		others := given.parts()
		p.spoil()
		for j, other := range others {
			if i != j && !other.same() {
				t.Errorf("%s: %s shares memory with %s", when, p.what, other.what)
			}
		}
	}
	checkWatches(t, when+", scribbled on", watches)
	if again := call(); !again.same(before) {
		t.Errorf("%s: the same argument, another answer", when)
	}
}
