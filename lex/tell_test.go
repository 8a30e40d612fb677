package lex

import (
	"iter"
	"math/rand"
	"slices"
	"strings"
	"testing"

	"tocsin/api"
)

// pair is what Tell tells at once.
type pair struct {
	token Token
	e     api.Errno
}

// wantPairs is all that Tell is to tell of a text: the tokens, each with OK, and what goes wrong at last.
func wantPairs(s string) []pair {
	l, place, e := wantAll(s)
	if e == api.ErrLex {
		l = ahead(s[:place])
	}
	var out []pair
	for _, one := range l {
		out = append(out, pair{one, api.OK})
	}
	if e != api.OK {
		out = append(out, pair{Token{At: place}, e})
	}
	return out
}

// pairs is what is told, up to n of them.
func pairs(tokens iter.Seq2[Token, api.Errno], n int) []pair {
	var out []pair
	if n == 0 {
		return out
	}
	for one, e := range tokens {
		out = append(out, pair{one, e})
		if len(out) == n {
			break
		}
	}
	return out
}

// tellTexts: right texts, wrong ones, and ones that are too long.
func tellTexts() []string {
	return append(rightTexts(), "!", "a b ! c", `a 1 "b" <= "`, "1.2.3", "a#b\n\xff", " \n_", strings.Repeat("(", longest), strings.Repeat(" ", longest+1), strings.Repeat("!", longest+1), "a"+strings.Repeat(" ", longest))
}

// TestTell: P9.2: gone over to the end: what All tells; where it tells an error, that at last.
func TestTell(t *testing.T) {
	for _, s := range tellTexts() {
		want := wantPairs(s)
		check(t, s, slices.Equal(pairs(Tell(s), -1), want))
		l, place, e := All(s)
		if e != api.OK {
			check(t, s, len(l) == 0 && want[len(want)-1] == pair{Token{At: place}, e})
			want = nil
		}
		check(t, s, slices.EqualFunc(want, l, func(p pair, one Token) bool { return p == pair{one, api.OK} }))
	}
}

// TestTellExamples: P9.2: the last one is of no kind, and has the place; of a text that is too long it is the only one, at 0.
func TestTellExamples(t *testing.T) {
	for s, want := range map[string][]pair{
		"":                             nil,
		" # a":                         nil,
		"a 1":                          {{Token{TWord, "a", 0}, api.OK}, {Token{TNumber, "1", 2}, api.OK}},
		"a b ! c":                      {{Token{TWord, "a", 0}, api.OK}, {Token{TWord, "b", 2}, api.OK}, {Token{At: 4}, api.ErrLex}},
		"!":                            {{Token{}, api.ErrLex}},
		" !=!":                         {{Token{TSign, "!=", 1}, api.OK}, {Token{At: 3}, api.ErrLex}},
		`"" "a`:                        {{Token{TText, "", 0}, api.OK}, {Token{At: 3}, api.ErrLex}},
		"1.":                           {{Token{TNumber, "1", 0}, api.OK}, {Token{At: 1}, api.ErrLex}},
		strings.Repeat("a", longest+1): {{Token{}, api.ErrLong}},
		strings.Repeat("!", longest+1): {{Token{}, api.ErrLong}},
	} {
		if got := pairs(Tell(s), -1); !slices.Equal(got, want) {
			t.Errorf("Tell of %q: %v, want %v", short(s), got, want)
		}
	}
}

// TestLeft: P9.2: it may be left at each token, the last one too; behind that nothing more is told, and it may be gone over again.
func TestLeft(t *testing.T) {
	for _, s := range tellTexts() {
		want := wantPairs(s)
		for n := range min(len(want), 300) + 1 {
			tokens := Tell(s)
			check(t, s, slices.Equal(pairs(tokens, n), want[:n]))
			check(t, s, slices.Equal(pairs(tokens, -1), want))
			told := 0
			tokens(func(Token, api.Errno) bool {
				told++
				return told < n
			})
			check(t, s, told == min(max(n, 1), len(want)))
		}
	}
}

// TestTwice: P9.2: it may be gone over as often as one likes, and tells the same each time.
func TestTwice(t *testing.T) {
	for _, s := range tellTexts() {
		tokens := Tell(s)
		for range 3 {
			check(t, s, slices.Equal(pairs(tokens, -1), wantPairs(s)))
		}
	}
}

// TestWithin: P9.2: two at once, one gone over within the other: neither minds.
func TestWithin(t *testing.T) {
	for _, s := range []string{"a 1 \"x\" <=", "a b ! c", "", "!", `"\"" "\\"`} {
		tokens, want := Tell(s), wantPairs(s)
		outer := 0
		for one, e := range tokens {
			check(t, s, want[outer] == pair{one, e})
			outer++
			check(t, s, slices.Equal(pairs(tokens, -1), want))
			check(t, s, slices.Equal(pairs(tokens, outer), want[:outer]))
			check(t, s, slices.Equal(pairs(Tell("x "+s), 1), []pair{{Token{TWord, "x", 0}, api.OK}}))
		}
		check(t, s, outer == len(want))
	}
}

// TestInTurn: P9.2: two at once, drawn from in turn, of one text and of different ones, each left at some token.
func TestInTurn(t *testing.T) {
	r := rand.New(rand.NewSource(3))
	for range 500 {
		a, b := someText(r, 8), someText(r, 8)
		one := Tell(a)
		texts := []string{a, a, b}
		tokens := []iter.Seq2[Token, api.Errno]{one, one, Tell(b)}
		var got [3][]pair
		var next [3]func() (Token, api.Errno, bool)
		for i := range tokens {
			n, stop := iter.Pull2(tokens[i])
			defer stop()
			next[i] = n
		}
		for range 60 {
			i := r.Intn(3)
			if x, e, ok := next[i](); ok {
				got[i] = append(got[i], pair{x, e})
			}
		}
		for i, s := range texts {
			check(t, s, slices.Equal(got[i], wantPairs(s)[:len(got[i])]))
		}
	}
}

// TestPanicWithin: P9.2: what the one who goes over it does is his own: a panic there comes to him, and the tokens are told as before.
func TestPanicWithin(t *testing.T) {
	tokens := Tell("a b c")
	func() {
		defer func() { check(t, "his own panic", recover() == "mine") }()
		for range tokens {
			panic("mine")
		}
	}()
	check(t, "as before", slices.Equal(pairs(tokens, -1), wantPairs("a b c")))
}
