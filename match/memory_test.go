package match

import (
	"math/rand"
	"slices"
	"testing"

	"tocsin/api"
)

// spill overwrites a list and the spare room behind it.
func spill[T any](l []T, with T) {
	l = l[:cap(l)]
	for i := range l {
		l[i] = with
	}
}

// within stands a list into room that is guarded at both ends, and tells whether the room is still as it was.
func within[T comparable](l, guard []T) (piece []T, same func() bool) {
	room := slices.Concat(guard, l, guard, guard)
	before := slices.Clone(room)
	return room[len(guard) : len(guard)+len(l)], func() bool { return slices.Equal(room, before) }
}

// TestHandedIn: P0.4: matchers and labels that are handed in stay as they were, the spare room behind them too, and it isn't read.
func TestHandedIn(t *testing.T) {
	r := rand.New(rand.NewSource(10))
	for range 2000 {
		some, l := someRow(r, r.Intn(2) == 0), someLabels(r)
		a, sameA := within(some, row("A", "!=", "\x00"))
		check(t, "May", May(a) == wantMay(some) && sameA())
		check(t, "Print", Print(a) == wantPrint(some) && sameA())
		one := meant(r, l)
		b, sameB := within(one, []api.Matcher{{Name: "a", Op: 9}})
		c, sameC := within(l, called("a", "w"))
		check(t, "Does", Does(b, c) == wantDoes(one, l) && sameB() && sameC())
	}
	m, l := row("a", "=", "x", "A", "=", "y"), called("b", "y", "a", "x")
	check(t, "the spare room", May(m[:1]) && Print(m[:1]) == `{a="x"}` && Does(m[:1], l) && !Does(m[:1], l[:1]))
}

// TestToldIsNew: P0.4: matchers that are told, and their spare room, are the caller's own: to change them changes nothing that is told otherwise.
func TestToldIsNew(t *testing.T) {
	r := rand.New(rand.NewSource(11))
	for range 500 {
		want := someRow(r, true)
		text := wantPrint(want)
		first, _, _ := Parse(text)
		second, _, _ := Parse(text)
		spill(first, api.Matcher{Name: "spilt", Op: 9, Value: "spilt"})
		check(t, "another answer", slices.Equal(second, want))
		wantRead(t, text, want, "")
		first = append(second[:0], row("more", "!=", "1")...)
		wantRead(t, text, want, "")
		check(t, "written", Print(first) == `{more!="1"}`)
	}
}

// TestNotKept: P0.4: what was told of matchers and labels stays, whatever becomes of them.
func TestNotKept(t *testing.T) {
	m, l := row("a", "=", "x", "b", "^=", "y"), called("a", "x", "b", "yy")
	text, may, does := Print(m), May(m), Does(m, l)
	spill(m, api.Matcher{Name: "spilt", Op: 9, Value: "spilt"})
	check(t, "as it was", text == `{a="x",b^="y"}` && may && does)
	check(t, "now", Print(m) == `{spilt="spilt",spilt="spilt"}` && !May(m) && !Does(m, l))
	m = row("a", "=", "x")
	spill(l, api.Label{Name: "a", Value: "z"})
	check(t, "the labels", !Does(m, l))
}

// TestAgain: P0.1: nothing is kept from call to call, an error either.
func TestAgain(t *testing.T) {
	for range 3 {
		wantRefused(t, `{a~"x"}`)
		wantRead(t, `{a="x"}[5]`, row("a", "=", "x"), "[5]")
		wantRefused(t, `{a="x`)
		wantRead(t, `{}`, nil, "")
		check(t, "Does", Does(row("a", "=", "x"), called("a", "x")) && !Does(row("a", "!=", ""), nil) && Does(nil, nil))
		check(t, "May and Print", May(nil) && !May(row("A", "=", "")) && Print(nil) == "{}")
	}
}

// TestParallel: P0.1: calls at one time tell what each one would alone.
func TestParallel(t *testing.T) {
	done := make(chan bool)
	for i := range 8 {
		go func() {
			r := rand.New(rand.NewSource(int64(i)))
			ok := true
			for range 500 {
				m, l := someRow(r, true), someLabels(r)
				got, rest, e := Parse(Print(m) + "[5]")
				ok = ok && e == api.OK && rest == "[5]" && slices.Equal(got, m) && May(got) && Does(got, l) == wantDoes(m, l)
			}
			done <- ok
		}()
	}
	for range 8 {
		check(t, "at one time", <-done)
	}
}
