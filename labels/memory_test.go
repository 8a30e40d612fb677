package labels

import (
	"math/rand"
	"slices"
	"testing"

	"tocsin/api"
)

// spill overwrites labels and the spare room behind them.
func spill(l []api.Label) {
	l = l[:cap(l)]
	for i := range l {
		l[i] = api.Label{Name: "spilt", Value: "spilt"}
	}
}

// within stands labels into room that is guarded at both ends, and tells whether the room is still as it was.
func within(l []api.Label) (piece []api.Label, same func() bool) {
	room := slices.Concat(row("ahead", "1"), l, row("behind", "2", "far_behind", "3"))
	before := slices.Clone(room)
	return room[1 : 1+len(l)], func() bool { return slices.Equal(room, before) }
}

// TestHandedIn: P0.4: labels that are handed in stay as they were, the spare room behind them too, and it isn't read.
func TestHandedIn(t *testing.T) {
	r := rand.New(rand.NewSource(10))
	for range 2000 {
		l, other := someRow(r, r.Intn(2) == 0), someRow(r, false)
		a, sameA := within(l)
		b, sameB := within(other)
		check(t, "May", May(a) == wantMay(l) && sameA())
		check(t, "Print", Print(a) == wantPrint(l) && sameA())
		check(t, "Value", Value(a, "behind") == "" && Value(a, "a") == wantValue(l, "a") && sameA())
		check(t, "Less", Less(a, b) == (wantCompare(l, other) < 0) && sameA() && sameB())
		check(t, "Less of one twice", !Less(a, a) && sameA())
	}
	a, _ := within(row("a", "x"))
	check(t, "the spare room", !Less(a, a[:1]) && Less(a[:0], a) && May(a[:0]) && Print(a[:0]) == "{}")
}

// TestToldIsNew: P0.4: labels that are told, and their spare room, are the caller's own: to change them changes nothing that is told otherwise.
func TestToldIsNew(t *testing.T) {
	r := rand.New(rand.NewSource(11))
	for range 500 {
		want := someRow(r, true)
		text := wantPrint(want)
		first, _, _ := Parse(text)
		second, _, _ := Parse(text)
		spill(first)
		check(t, "another answer", slices.Equal(second, want))
		wantRead(t, text, want, "")
		first = append(second[:0], row("more", "1")...)
		wantRead(t, text, want, "")
		check(t, "written", Print(first) == `{more="1"}`)
	}
}

// TestNotKept: P0.4: what was told of labels stays, whatever becomes of them.
func TestNotKept(t *testing.T) {
	l := row("a", "x", "b", "y")
	text, value := Print(l), Value(l, "b")
	spill(l)
	check(t, "Print", text == `{a="x",b="y"}`)
	check(t, "Value", value == "y")
	check(t, "now", Print(l) == `{spilt="spilt",spilt="spilt"}` && Value(l, "spilt") == "spilt" && !May(l))
}

// TestAgain: P0.1: nothing is kept from call to call, an error either.
func TestAgain(t *testing.T) {
	for range 3 {
		wantRefused(t, `{a="x",a="y"}`)
		wantRead(t, `{a="x"} 5`, row("a", "x"), " 5")
		wantRefused(t, `{a="x`)
		wantRead(t, `{}`, nil, "")
		check(t, "Value", Value(row("a", "x"), "a") == "x" && Value(nil, "a") == "")
	}
}

// TestParallel: P0.1: calls at one time tell what each one would alone.
func TestParallel(t *testing.T) {
	done := make(chan bool)
	for i := range 8 {
		go func() {
			r := rand.New(rand.NewSource(int64(i)))
			ok := true
			for range 500 {
				l := someRow(r, true)
				got, rest, e := Parse(Print(l) + " 5")
				ok = ok && e == api.OK && rest == " 5" && slices.Equal(got, l) && !Less(got, l)
			}
			done <- ok
		}()
	}
	for range 8 {
		check(t, "at one time", <-done)
	}
}
