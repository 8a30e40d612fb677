package lex

import (
	"math/rand"
	"slices"
	"strings"
	"testing"
	"unsafe"

	"tocsin/api"
)

// shares says whether a piece's bytes stand in the memory of the whole.
func shares(piece, whole string) bool {
	a, b := uintptr(unsafe.Pointer(unsafe.StringData(piece))), uintptr(unsafe.Pointer(unsafe.StringData(whole)))
	return piece != "" && whole != "" && a < b+uintptr(len(whole)) && b < a+uintptr(len(piece))
}

// TestToldIsNew: P0.4: tokens that are told, and their spare room, are the caller's own: to change them changes nothing that is told otherwise.
func TestToldIsNew(t *testing.T) {
	for _, s := range rightTexts() {
		want, _, _ := wantAll(s)
		first, _, _ := All(s)
		second, _, _ := All(s)
		first = first[:cap(first)]
		for i := range first {
			first[i] = Token{9, "spilt", -1}
		}
		check(t, s, slices.Equal(second, want))
		wantTokens(t, s, want)
		second = append(second[:0], Token{9, "more", -1})
		wantTokens(t, s, want)
		check(t, s, second[0].Text == "more")
	}
}

// TestTextsAreNew: P0.4: the texts that are told are no pieces of what was handed in, and it isn't kept: they stay, whatever becomes of its memory.
func TestTextsAreNew(t *testing.T) {
	for _, s := range rightTexts() {
		memory := []byte(s + " ")
		text := unsafe.String(&memory[0], len(s))
		want, _, _ := wantAll(s)
		all, _, _ := All(text)
		tokens := Tell(text)
		begun, _, _, _ := told(text)
		for _, one := range slices.Concat(all, begun) {
			check(t, s, !shares(one.Text, text))
		}
		clear(memory)
		check(t, s, slices.Equal(all, want) && slices.Equal(begun, want))
		var later []Token
		for one := range tokens {
			later = append(later, one)
		}
		check(t, s, slices.Equal(later, want))
	}
}

// TestAgain: P0.1: nothing is kept from call to call, an error either.
func TestAgain(t *testing.T) {
	for range 3 {
		wantLex(t, "a !", []Token{{TWord, "a", 0}}, 2)
		wantTokens(t, "a", []Token{{TWord, "a", 0}})
		wantLong(t, strings.Repeat("a", longest+1))
		wantTokens(t, "", nil)
		wantLex(t, `"`, nil, 0)
		wantTokens(t, `""`, []Token{{TText, "", 0}})
	}
}

// TestParallel: P0.1: calls at one time tell what each one would alone; one Tell may be gone over by several.
func TestParallel(t *testing.T) {
	done := make(chan bool)
	shared := rightTexts()[7]
	tokens, all := Tell(shared), wantPairs(shared)
	for i := range 8 {
		go func() {
			r := rand.New(rand.NewSource(int64(i)))
			ok := true
			for range 500 {
				s := someText(r, 10)
				want, place, e := wantAll(s)
				got, at, err := All(s)
				ok = ok && slices.Equal(got, want) && at == place && err == e
				ok = ok && slices.Equal(pairs(Tell(s), -1), wantPairs(s)) && slices.Equal(pairs(tokens, -1), all)
			}
			done <- ok
		}()
	}
	for range 8 {
		check(t, "at one time", <-done)
	}
}

// TestNoSpare: P0.2: beside an error all else is the zero value but the place of ErrLex; beside none the place is.
func TestNoSpare(t *testing.T) {
	for _, s := range tellTexts() {
		l, at, e := All(s)
		check(t, s, e == api.OK && at == 0 || e == api.ErrLex && l == nil || e == api.ErrLong && l == nil && at == 0)
		for one, e := range Tell(s) {
			check(t, s, e == api.OK && one.Kind != 0 || e != api.OK && one.Kind == 0 && one.Text == "" && (e == api.ErrLex || one.At == 0))
		}
	}
}
