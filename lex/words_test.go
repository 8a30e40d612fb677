package lex

import (
	"fmt"
	"math/rand"
	"regexp"
	"slices"
	"strings"
	"testing"

	"tocsin/api"
)

// The words of the chapter once more, by regular expressions and replacers.
var (
	forms = map[uint8]*regexp.Regexp{
		1: regexp.MustCompile(`\A[a-z][a-z0-9_]*`),
		2: regexp.MustCompile(`\A[0-9]+(?:\.[0-9]+)?`),
		3: regexp.MustCompile(`\A"(?:[ !#-\[\]-~]|\\["\\])*"`),
		4: regexp.MustCompile(`\A(?:<=|>=|==|!=|\^=|[{}()\[\],:;=<>-])`),
	}
	gap = regexp.MustCompile(`\A(?:[ \t\n\r]|#[^\n]*(?:\n|\z))*`)

	escape   = strings.NewReplacer(`"`, `\"`, `\`, `\\`)
	unescape = strings.NewReplacer(`\"`, `"`, `\\`, `\`)
)

// The longest text, in bytes, as the document has it; and all signs.
const longest = 4096

func signs() []string {
	return []string{"<=", ">=", "==", "!=", "^=", "{", "}", "(", ")", "[", "]", ",", ":", ";", "=", "<", ">", "-"}
}

// wantFirst is the longest token that s begins with, and its bytes; of no kind, if there is none.
func wantFirst(s string) (kind uint8, text string) {
	for k, form := range forms {
		if found := form.FindString(s); len(found) > len(text) {
			kind, text = k, found
		}
	}
	return kind, text
}

// wantAll is the tokens of a text.
func wantAll(s string) ([]Token, int, api.Errno) {
	if len(s) > longest {
		return nil, 0, api.ErrLong
	}
	var l []Token
	for at := 0; ; {
		at += len(gap.FindString(s[at:]))
		if at == len(s) {
			return l, 0, api.OK
		}
		kind, text := wantFirst(s[at:])
		if kind == 0 {
			return nil, at, api.ErrLex
		}
		one := Token{Kind: kind, Text: text, At: at}
		if kind == 3 {
			one.Text = unescape.Replace(text[1 : len(text)-1])
		}
		l = append(l, one)
		at += len(text)
	}
}

// ahead is the tokens ahead of the place at which something stands that is none; all, if there is no such place.
func ahead(s string) []Token {
	for end := len(s); ; end-- {
		if l, _, e := wantAll(s[:end]); e == api.OK {
			return l
		}
	}
}

// written is a token's text as it stands in a configuration.
func written(one Token) string {
	if one.Kind == 3 {
		return `"` + escape.Replace(one.Text) + `"`
	}
	return one.Text
}

// placeless is tokens without their places.
func placeless(l []Token) []Token {
	out := slices.Clone(l)
	for i := range out {
		out[i].At = 0
	}
	return out
}

// brief is tokens in short: kind and text of each, with a blank between; of many of them the beginning.
func brief(l []Token) string {
	var parts []string
	for _, one := range l {
		parts = append(parts, fmt.Sprint(one.Kind)+one.Text)
	}
	return short(strings.Join(parts, " "))
}

func short(s string) string {
	return s[:min(len(s), 100)]
}

func check(t *testing.T, what string, ok bool) {
	t.Helper()
	if !ok {
		t.Errorf("%q", short(what))
	}
}

// told is what Tell tells: the tokens with OK; the one without, if there is one, and its error; and how many it told in all.
func told(s string) (l []Token, last Token, e api.Errno, n int) {
	for one, err := range Tell(s) {
		n++
		if err == api.OK {
			l = append(l, one)
			continue
		}
		last, e = one, err
	}
	return l, last, e, n
}

// wantTokens fails, unless All and Tell tell these tokens of the text.
func wantTokens(t *testing.T, s string, want []Token) {
	t.Helper()
	if l, at, e := All(s); !slices.Equal(l, want) || at != 0 || e != api.OK {
		t.Errorf("All of %q: %q %d, error %d, want %q", short(s), brief(l), at, e, brief(want))
	}
	if l, last, e, n := told(s); !slices.Equal(l, want) || last != (Token{}) || e != api.OK || n != len(want) {
		t.Errorf("Tell of %q: %q, at last %v, error %d, want %q", short(s), brief(l), last, e, brief(want))
	}
}

// wantLex fails, unless All tells ErrLex at that place and nothing else, and Tell these tokens and then that.
func wantLex(t *testing.T, s string, want []Token, place int) {
	t.Helper()
	if l, at, e := All(s); len(l) != 0 || at != place || e != api.ErrLex {
		t.Errorf("All of %q: %q %d, error %d, want ErrLex at %d", short(s), brief(l), at, e, place)
	}
	if l, last, e, n := told(s); !slices.Equal(l, want) || last != (Token{At: place}) || e != api.ErrLex || n != len(want)+1 {
		t.Errorf("Tell of %q: %q, at last %v, error %d, want %q and ErrLex at %d", short(s), brief(l), last, e, brief(want), place)
	}
}

// wantLong fails, unless the text is told to be too long, and nothing else.
func wantLong(t *testing.T, s string) {
	t.Helper()
	if l, at, e := All(s); len(l) != 0 || at != 0 || e != api.ErrLong {
		t.Errorf("All of %d bytes %q: %d tokens, %d, error %d, want ErrLong", len(s), short(s), len(l), at, e)
	}
	if l, last, e, n := told(s); len(l) != 0 || last != (Token{}) || e != api.ErrLong || n != 1 {
		t.Errorf("Tell of %d bytes %q: %d told, at last %v, error %d, want ErrLong", len(s), short(s), n, last, e)
	}
}

// wantWords holds All and Tell of the text against the words.
func wantWords(t *testing.T, s string) {
	t.Helper()
	want, place, e := wantAll(s)
	switch e {
	case api.OK:
		wantTokens(t, s, want)
	case api.ErrLong:
		wantLong(t, s)
	default:
		wantLex(t, s, ahead(s[:place]), place)
	}
}

// wantBrief fails, unless the text is right, with these tokens in short.
func wantBrief(t *testing.T, s, want string) {
	t.Helper()
	l, at, e := All(s)
	if got := brief(l); got != want || at != 0 || e != api.OK {
		t.Errorf("All of %q: %q %d, error %d, want %q", short(s), got, at, e, want)
	}
	wantWords(t, s)
}

// wantAt fails, unless ErrLex is told at that place.
func wantAt(t *testing.T, s string, place int) {
	t.Helper()
	if l, at, e := All(s); len(l) != 0 || at != place || e != api.ErrLex {
		t.Errorf("All of %q: %q %d, error %d, want ErrLex at %d", short(s), brief(l), at, e, place)
	}
	wantWords(t, s)
}

// rightTexts: texts that are tokens alone, and what may stand between.
func rightTexts() []string {
	return []string{
		"", " ", "#", "a", "0", `""`, "-",
		`count({a="x"}[60]) >= -1.5; # so`,
		"rule hot by a: max({m=\"t\"}[10]) > 5 for 0 every 5 repeat 60 to ops; late 2; limit 1;",
		"mute q: days 0-4,6 from 540 to 1020;\nrule n by a: count({}[5]) > 3 for 5 every 10 mute q to ops;\n",
		"not (sum({a!=\"\\\"\",b^=\"\\\\\"}[1000]) <= 0.001 or last({}[1]) == 007.10) and mean({}[5]) != -3",
		"# first \"\\\n\tlate\r\n2 # second ! # A\n;#\n#", `"#"#"` + "\n" + `"\"#"`, "a1_ 1a 1.5a",
		"a#b\nc", "0-4", "<==>=!=^=<>", "({[]}),:;", `a"b"1"c"d`, `"a\"\\" ""`, "x=y<z>1-2",
	}
}

// pieces: those of which texts are drawn: tokens, what may stand between, and what may not be.
func pieces() []string {
	l := append(signs(), "a", "z9", "a_", "count", "by", "0", "9", "007", "1.5", "10.250", `""`, `"a"`, `"\""`, `"\\"`, `" # "`, `"a b"`, " ", "\t", "\n", "\r", "  ", "#", "# x\n", "#\"\n", "\n#\n")
	return append(l, ".", "!", "^", "_", "A", "\\", "\"", "\"\n", "'", "+", "*", "/", "%", "&", "|", "~", "?", "@", "$", "`", "\x00", "\x1f", "\x7f", "\x80", "\xff", "é", "1.", ".5", `"\n"`)
}

// someText draws a text of up to n pieces; of some, only right ones.
func someText(r *rand.Rand, n int) string {
	l := pieces()
	if r.Intn(2) == 0 {
		l = l[:slices.Index(l, ".")]
	}
	var s strings.Builder
	for range r.Intn(n + 1) {
		s.WriteString(l[r.Intn(len(l))])
	}
	return s.String()
}

// someTokens draws up to n tokens, without places.
func someTokens(r *rand.Rand, n int) []Token {
	const ofWords, ofTexts = "abcxyz0189_", ` !#"\az09~,{}`
	draw := func(bytes string, n int) string {
		b := make([]byte, r.Intn(n))
		for i := range b {
			b[i] = bytes[r.Intn(len(bytes))]
		}
		return string(b)
	}
	var l []Token
	for range r.Intn(n + 1) {
		switch kind := uint8(r.Intn(4) + 1); kind {
		case TWord:
			l = append(l, Token{Kind: kind, Text: string(ofWords[r.Intn(6)]) + draw(ofWords, 5)})
		case TNumber:
			text := string(ofWords[6+r.Intn(4)]) + draw("0189", 4)
			if r.Intn(2) == 0 {
				text += "." + string(ofWords[6+r.Intn(4)]) + draw("0189", 4)
			}
			l = append(l, Token{Kind: kind, Text: text})
		case TText:
			l = append(l, Token{Kind: kind, Text: draw(ofTexts, 7)})
		case TSign:
			l = append(l, Token{Kind: kind, Text: signs()[r.Intn(len(signs()))]})
		}
	}
	return l
}

// TestDrawn: texts are drawn as it is said, enough of each kind, so that the tests stand on something; and kinds have the chapter's numbers.
func TestDrawn(t *testing.T) {
	r := rand.New(rand.NewSource(1))
	ok, bad := 0, 0
	for range 2000 {
		switch _, _, e := wantAll(someText(r, 12)); e {
		case api.OK:
			ok++
		case api.ErrLex:
			bad++
		}
	}
	check(t, "some are right, some are not", ok > 500 && bad > 500)
	for _, s := range rightTexts() {
		_, _, e := wantAll(s)
		check(t, s, e == api.OK)
	}
	check(t, "kinds", TWord == 1 && TNumber == 2 && TText == 3 && TSign == 4)
}
