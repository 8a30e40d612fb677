package labels

import (
	"math/rand"
	"slices"
	"strings"
	"testing"

	"tocsin/api"
)

// TestQuote: P7.3: a \ ahead of each quote and each \, wherever it stands, and of no other byte; bytes that are no text's stay.
func TestQuote(t *testing.T) {
	for s, want := range map[string]string{
		"": `""`, "x": `"x"`, " ": `" "`, `"`: `"\""`, `\`: `"\\"`, `"\`: `"\"\\"`, `\"`: `"\\\""`, `""`: `"\"\""`, `\\`: `"\\\\"`,
		`"x`: `"\"x"`, `x"`: `"x\""`, `\x`: `"\\x"`, `x\`: `"x\\"`, `x"y\z`: `"x\"y\\z"`, `\n`: `"\\n"`, "\n": "\"\n\"", "\x00": "\"\x00\"", "\x7f": "\"\x7f\"",
		"\xff": "\"\xff\"", "\xe9": "\"\xe9\"", "é": `"é"`, "日": `"日"`, "a\xc3": "\"a\xc3\"", "'": `"'"`, "{},=": `"{},="`,
		strings.Repeat(`"`, 32): `"` + strings.Repeat(`\"`, 32) + `"`, strings.Repeat(`\`, 32): `"` + strings.Repeat(`\\`, 32) + `"`,
		strings.Repeat("v", 5000): `"` + strings.Repeat("v", 5000) + `"`,
	} {
		if got := Quote(s); got != want {
			t.Errorf("Quote %q: %q, want %q", s, got, want)
		}
	}
}

// TestQuoteBytes: P7.3: each byte, and each two.
func TestQuoteBytes(t *testing.T) {
	for c := range 256 {
		for d := range 256 {
			for _, s := range []string{string([]byte{byte(c)}), string([]byte{byte(c), byte(d)})} {
				if got := Quote(s); got != `"`+escape.Replace(s)+`"` {
					t.Errorf("Quote %q: %q", s, got)
				}
			}
		}
	}
}

// TestPrint: P7.3: in the order in which they stand, as many as there are, whatever they are: a name's bytes just so.
func TestPrint(t *testing.T) {
	for _, c := range []struct {
		l    []api.Label
		want string
	}{
		{nil, "{}"}, {row(), "{}"}, {row("a", "x"), `{a="x"}`}, {row("a", "x", "b", "y z"), `{a="x",b="y z"}`},
		{row("", ""), `{=""}`}, {row("", "", "", ""), `{="",=""}`}, {row("b", "x", "a", "y"), `{b="x",a="y"}`}, {row("a", "x", "a", "x"), `{a="x",a="x"}`},
		{row("A", "x"), `{A="x"}`}, {row(`"`, "x"), `{"="x"}`}, {row(`\`, "x"), `{\="x"}`}, {row(`a\"b`, `\"`), `{a\"b="\\\""}`}, {row(`a="x",b`, "y"), `{a="x",b="y"}`},
		{row("\xff", "\xff"), "{\xff=\"\xff\"}"}, {row("\x00", "\x1f\x7f"), "{\x00=\"\x1f\x7f\"}"}, {row("é", "日"), `{é="日"}`}, {row("{},=", "{},="), `{{},=="{},="}`},
		{row("a", "1", "b", "2", "c", "3", "d", "4", "e", "5", "f", "6"), `{a="1",b="2",c="3",d="4",e="5",f="6"}`},
	} {
		if got := Print(c.l); got != c.want {
			t.Errorf("Print %q: %q, want %q", c.l, got, c.want)
		}
	}
	many := slices.Repeat(row("a", `"`), 3000)
	check(t, "thousands", Print(many) == "{"+strings.Repeat(`a="\"",`, 2999)+`a="\""}`)
}

// TestPrintDrawn: P7.3, by the words.
func TestPrintDrawn(t *testing.T) {
	r := rand.New(rand.NewSource(4))
	for range 20000 {
		l := someRow(r, r.Intn(3) == 0)
		if got, want := Print(l), wantPrint(l); got != want {
			t.Errorf("Print %q: %q, want %q", l, got, want)
		}
	}
}

// TestThereAndBack: P7.6: of labels that may be Parse of Print tells them, with anything behind it, and that.
func TestThereAndBack(t *testing.T) {
	r := rand.New(rand.NewSource(5))
	for range 5000 {
		l := someRow(r, true)
		for _, behind := range behinds {
			wantRead(t, Print(l)+behind, l, behind)
		}
		wantRead(t, Print(l)+Print(l), l, Print(l))
	}
	_, values := someValues()
	for _, v := range values {
		if MayValue(v) {
			wantRead(t, "{a="+Quote(v)+"}", row("a", v), "")
		}
	}
}

// TestNotBack: P7.2, P7.3: the text of labels that may not be isn't read, unless it is that of other ones that may.
func TestNotBack(t *testing.T) {
	r := rand.New(rand.NewSource(6))
	for range 20000 {
		l := someRow(r, false)
		wantWords(t, Print(l))
		got, _, e := Parse(Print(l))
		if e == api.OK && !May(l) && slices.Equal(got, l) {
			t.Errorf("%q may not be, and is read", l)
		}
	}
	wantRead(t, Print(row(`a="x",b`, "y")), row("a", "x", "b", "y"), "")
}
