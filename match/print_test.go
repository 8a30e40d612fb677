package match

import (
	"math/rand"
	"slices"
	"strings"
	"testing"

	"tocsin/api"
)

// TestPrint: P8.1: in the order in which they stand, as many as there are, whatever they are: a name's bytes just so, a value's in quotes.
func TestPrint(t *testing.T) {
	for _, c := range []struct {
		m    []api.Matcher
		want string
	}{
		{nil, "{}"}, {[]api.Matcher{}, "{}"}, {row("a", "=", "x"), `{a="x"}`}, {row("a", "!=", "x"), `{a!="x"}`}, {row("a", "^=", "x"), `{a^="x"}`},
		{row("a", "=", ""), `{a=""}`}, {row("a", "!=", ""), `{a!=""}`}, {row("a", "^=", ""), `{a^=""}`},
		{row("a", "=", "x", "b", "!=", "", "a", "^=", "y"), `{a="x",b!="",a^="y"}`}, {row("b", "^=", "y z", "a", "=", "x"), `{b^="y z",a="x"}`}, {row("a", "=", "x", "a", "=", "x"), `{a="x",a="x"}`},
		{row("", "=", ""), `{=""}`}, {row("", "!=", "", "", "^=", ""), `{!="",^=""}`}, {row("A", "=", "x"), `{A="x"}`}, {row(`a\"b`, "=", `\"`), `{a\"b="\\\""}`}, {row(`a="x",b`, "!=", "y"), `{a="x",b!="y"}`}, {row("a!", "=", "x"), `{a!="x"}`},
		{row("a", "=", `"`), `{a="\""}`}, {row("a", "!=", `\`), `{a!="\\"}`}, {row("a", "^=", `"x\`), `{a^="\"x\\"}`}, {row("a", "=", "\n"), "{a=\"\n\"}"}, {row("a", "=", `\n`), `{a="\\n"}`},
		{row("\xff", "=", "\xff"), "{\xff=\"\xff\"}"}, {row("\x00", "^=", "\x1f\x7f"), "{\x00^=\"\x1f\x7f\"}"}, {row("é", "=", "日"), `{é="日"}`}, {row("{},=", "=", "{},="), `{{},=="{},="}`},
		{row("a", "=", strings.Repeat(`"`, 32)), `{a="` + strings.Repeat(`\"`, 32) + `"}`}, {row("a", "=", strings.Repeat("v", 5000)), `{a="` + strings.Repeat("v", 5000) + `"}`},
		{row("a", "=", "1", "b", "=", "2", "c", "=", "3", "d", "=", "4", "e", "=", "5", "f", "=", "6", "g", "=", "7"), `{a="1",b="2",c="3",d="4",e="5",f="6",g="7"}`},
	} {
		if got := Print(c.m); got != c.want || got != wantPrint(c.m) {
			t.Errorf("Print %v: %q, want %q", c.m, got, c.want)
		}
	}
	check(t, "thousands", Print(slices.Repeat(row("a", "!=", `"`), 3000)) == "{"+strings.Repeat(`a!="\"",`, 2999)+`a!="\""}`)
}

// TestPrintOp: P8.1: the text of an Op that is none is that of MEqual, wherever it stands.
func TestPrintOp(t *testing.T) {
	for op := range 256 {
		want := "="
		switch uint8(op) {
		case api.MUnlike:
			want = "!="
		case api.MPrefix:
			want = "^="
		}
		m := row("a", "^=", "x", "b", "=", "y", "c", "!=", "z")
		m[1].Op = uint8(op)
		if got := Print(m); got != `{a^="x",b`+want+`"y",c!="z"}` {
			t.Errorf("Print of the Op %d: %q", op, got)
		}
		if got := Print(m[1:2]); got != `{b`+want+`"y"}` {
			t.Errorf("Print of the Op %d alone: %q", op, got)
		}
	}
}

// TestPrintBytes: P8.1: each byte in a name and a value.
func TestPrintBytes(t *testing.T) {
	for c := range 256 {
		b := string([]byte{byte(c)})
		for _, s := range []string{b, b + "x", "x" + b, b + b, `\` + b, b + `"`} {
			for _, m := range [][]api.Matcher{row("a", "!=", s), row(s, "^=", "x"), row(s, "=", s, s, "=", s)} {
				if got := Print(m); got != wantPrint(m) {
					t.Errorf("Print %v: %q, want %q", m, got, wantPrint(m))
				}
			}
		}
	}
}

// TestPrintDrawn: P8.1, by the words.
func TestPrintDrawn(t *testing.T) {
	r := rand.New(rand.NewSource(3))
	for range 20000 {
		m := someRow(r, false)
		if got, want := Print(m), wantPrint(m); got != want {
			t.Errorf("Print %v: %q, want %q", m, got, want)
		}
	}
}

// TestThereAndBack: P8.4: of matchers that may be Parse of Print tells them, with anything behind it, and that.
func TestThereAndBack(t *testing.T) {
	r := rand.New(rand.NewSource(4))
	for range 4000 {
		m := someRow(r, true)
		for _, behind := range behinds {
			wantRead(t, Print(m)+behind, m, behind)
		}
		wantRead(t, Print(m)+Print(m), m, Print(m))
	}
	_, values := someValues()
	for _, value := range values {
		for _, s := range []string{"=", "!=", "^="} {
			if m := row("a", s, value); May(m) {
				wantRead(t, Print(m), m, "")
			}
		}
	}
}

// TestNotBack: P8.2, P8.1: the text of matchers that may not be isn't read, unless it is that of other ones that may.
func TestNotBack(t *testing.T) {
	r := rand.New(rand.NewSource(5))
	for range 20000 {
		m := someRow(r, false)
		wantWords(t, Print(m))
		got, _, e := Parse(Print(m))
		if e == api.OK && !May(m) && slices.Equal(got, m) {
			t.Errorf("%v may not be, and is read", m)
		}
	}
	wantRead(t, Print(row(`a="x",b`, "!=", "y")), row("a", "=", "x", "b", "!=", "y"), "")
	wantRead(t, Print(row("a!", "=", "x", "b^", "=", "y")), row("a", "!=", "x", "b", "^=", "y"), "")
	wantRead(t, Print([]api.Matcher{{Name: "a", Op: 9, Value: "x"}}), row("a", "=", "x"), "")
	for _, m := range [][]api.Matcher{row("a=", "=", "x"), row("a!", "!=", "x"), row("a^", "^=", "x"), row("A", "=", "x"), row("", "=", "x"), row("a", "=", "\x7f"), row("a ", "=", "x"), row(`a="x"`, "=", "y")} {
		wantRefused(t, Print(m))
	}
}
