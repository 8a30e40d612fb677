package lex

import (
	"math/rand"
	"slices"
	"strings"
	"testing"

	"tocsin/api"
)

// gaps: what may stand between tokens: at least one blank, or a remark that ends.
func gaps() []string {
	return []string{" ", "\t", "\n", "\r", "\r\n", "  ", " \t\r\n ", "#\n", "# a \"\n", " # ! A\n\t", "\n#\x00\xff\n#\n\n", "#é\\\n "}
}

// laid is tokens one behind the other, with such gaps ahead, between, and behind, and where each one stands then.
func laid(l []Token, gap func() string) (string, []Token) {
	s := gap()
	out := slices.Clone(l)
	for i, one := range l {
		out[i].At = len(s)
		s += written(one) + gap()
	}
	return s, out
}

// TestPlaces: P9.3: whatever stands between tokens changes nothing of them but their places.
func TestPlaces(t *testing.T) {
	r := rand.New(rand.NewSource(4))
	l := gaps()
	for range 5000 {
		some := someTokens(r, 12)
		s, want := laid(some, func() string { return l[r.Intn(len(l))] })
		wantTokens(t, s, want)
		s, want = laid(some, func() string { return " " })
		wantTokens(t, s, want)
	}
	for _, g := range l {
		some := []Token{{Kind: TWord, Text: "a"}, {Kind: TNumber, Text: "1.5"}, {Kind: TText, Text: `"\ # `}, {Kind: TSign, Text: "<"}, {Kind: TSign, Text: "="}, {Kind: TText}}
		s, want := laid(some, func() string { return g })
		wantTokens(t, s, want)
	}
}

// TestStand: P9.3: tokens stand one behind the other, each where its text says, of a TText in quotes; nothing but blanks and remarks stands between.
func TestStand(t *testing.T) {
	r := rand.New(rand.NewSource(5))
	right := rightTexts()
	for range 20000 {
		right = append(right, someText(r, 10))
	}
	n := 0
	for _, s := range right {
		l, _, e := All(s)
		if e != api.OK {
			continue
		}
		n++
		end := 0
		for _, one := range l {
			text := written(one)
			check(t, s, one.At >= end && strings.HasPrefix(s[one.At:], text) && gap.FindString(s[end:one.At]) == s[end:one.At])
			end = one.At + len(text)
		}
		check(t, s, gap.FindString(s[end:]) == s[end:])
	}
	check(t, "enough of them", n > 5000)
}

// TestTogether: P9.4: tokens of any text, written one behind the other with a blank between, are read as the same tokens.
func TestTogether(t *testing.T) {
	r := rand.New(rand.NewSource(6))
	right := rightTexts()
	for range 10000 {
		right = append(right, someText(r, 10))
	}
	for _, s := range right {
		l, _, _ := All(s)
		var parts []string
		for _, one := range l {
			parts = append(parts, written(one))
		}
		again, at, e := All(strings.Join(parts, " "))
		check(t, s, slices.Equal(placeless(again), placeless(l)) && at == 0 && e == api.OK)
	}
}

// TestBlankWithin: P9.4: a blank, or a remark, within a token makes others of it; none but a TText has one.
func TestBlankWithin(t *testing.T) {
	r := rand.New(rand.NewSource(7))
	some := []Token{{Kind: TSign, Text: "<="}, {Kind: TSign, Text: ">="}, {Kind: TSign, Text: "=="}, {Kind: TSign, Text: "!="}, {Kind: TSign, Text: "^="}, {Kind: TText}, {Kind: TText, Text: `\`}, {Kind: TNumber, Text: "1.5"}, {Kind: TWord, Text: "a_1"}}
	for range 3000 {
		some = append(some, someTokens(r, 5)...)
	}
	for _, one := range some {
		text := written(one)
		wantTokens(t, text, []Token{one})
		check(t, text, one.Kind == TText || !strings.ContainsAny(one.Text, " \t\r\n#"))
		for i := 1; i < len(text); i++ {
			for _, g := range gaps() {
				s := text[:i] + g + text[i:]
				l, _, _ := All(s)
				check(t, s, !slices.Equal(l, []Token{one}))
				wantWords(t, s)
			}
		}
	}
}
