package labels

import (
	"math/rand"
	"strings"
	"testing"

	"tocsin/api"
)

// rightTexts: texts of labels that may be, and the labels.
func rightTexts() map[string][]api.Label {
	n, v := strings.Repeat("n", 16), strings.Repeat("v", 32)
	return map[string][]api.Label{
		`{}`:                                     nil,
		`{a="x"}`:                                row("a", "x"),
		`{a="x",b="y z"}`:                        row("a", "x", "b", "y z"),
		`{a="\"\\"}`:                             row("a", `"\`),
		`{a="\\\""}`:                             row("a", `\"`),
		`{a="\\"}`:                               row("a", `\`),
		`{a="\\",b="\""}`:                        row("a", `\`, "b", `"`),
		`{a="x\""}`:                              row("a", `x"`),
		`{a="\"x"}`:                              row("a", `"x`),
		`{a="\\n"}`:                              row("a", `\n`),
		`{a="\",b=\""}`:                          row("a", `",b="`),
		`{a="}"}`:                                row("a", "}"),
		`{a="{}",b=",",c="="}`:                   row("a", "{}", "b", ",", "c", "="),
		`{a=" ",a0="~",a_="'",aa="` + "`" + `"}`: row("a", " ", "a0", "~", "a_", "'", "aa", "`"),
		`{a="1",b="2",c="3",d="4"}`:              row("a", "1", "b", "2", "c", "3", "d", "4"),
		`{` + n + `="` + v + `"}`:                row(n, v),
		`{a="` + strings.Repeat(`\"`, 32) + `"}`: row("a", strings.Repeat(`"`, 32)),
		`{a="` + strings.Repeat(`\\`, 32) + `"}`: row("a", strings.Repeat(`\`, 32)),
		`{a="` + strings.Repeat(`\\\"`, 16) + `"}`: row("a", strings.Repeat(`\"`, 16)),
	}
}

// TestExamplesParse: P7.2, the chapter's table.
func TestExamplesParse(t *testing.T) {
	wantRead(t, `{}`, nil, "")
	wantRead(t, `{a="x",b="y z"} 5`, row("a", "x", "b", "y z"), " 5")
	wantRead(t, `{a="\"\\"}`, row("a", `"\`), "")
	for _, s := range []string{`{a="x",a="y"}`, `{b="x",a="y"}`, `{a=""}`, `{a="x",}`, `{a="x"`, `{a ="x"}`, `{a="\n"}`} {
		wantRefused(t, s)
	}
}

// TestRightTexts: P7.2: they are told, with anything behind; Print tells the text (P7.3).
func TestRightTexts(t *testing.T) {
	for s, want := range rightTexts() {
		for _, behind := range behinds {
			wantRead(t, s+behind, want, behind)
			wantWords(t, s+behind)
		}
		if got := Print(want); got != s {
			t.Errorf("Print %q: %q, want %q", want, got, s)
		}
	}
}

// TestBeginnings: P7.2: no beginning of a right text is one, and none is what stands ahead of it.
func TestBeginnings(t *testing.T) {
	for s := range rightTexts() {
		for i := range s {
			wantRefused(t, s[:i])
			wantWords(t, s[:i]+"}")
			wantWords(t, s[:i]+`"}`)
			wantWords(t, s[:i]+`x"}`)
		}
		for _, ahead := range []string{" ", "}", ",", `"`, `\`, "\x00", "x", "{", "\ufeff"} {
			wantRefused(t, ahead+s)
		}
	}
}

// TestOneByte: P7.2: right texts of which one byte is otherwise, more, or missing, by the words.
func TestOneByte(t *testing.T) {
	for s := range rightTexts() {
		for i := range len(s) {
			wantWords(t, s[:i]+s[i+1:])
			wantWords(t, s[:i]+s[i+1:]+" 5")
			for c := range 256 {
				b := string([]byte{byte(c)})
				wantWords(t, s[:i]+b+s[i+1:])
				wantWords(t, s[:i]+b+s[i:])
			}
		}
	}
}

// TestWrongTexts: P7.2: each edge alone, with nothing behind and with much.
func TestWrongTexts(t *testing.T) {
	for _, s := range []string{
		"", " ", "{", "}", "x", `a="x"`, `a="x"}`, `"`, `\`, "{{}", "{{}}", `{{a="x"}}`, "{ }", " {}", "{,}", "{=}", "{a}", "{a=}", "{a=x}", `{=""}`, `{="x"}`, "{\x00}",
		`{a="x"`, `{a="x",`, `{a="x",b`, `{a="x",b=`, `{a="x",b="`, `{a="x",b="y`, `{a="x",b="y"`, `{a`, `{a=`, `{a="`, `{a="x`, `{a="x\`, `{a="x\"`, `{a="x\\`, `{a="\`, `{a="\"`, `{a="\"}`, `{a="x\"}`,
		`{a ="x"}`, `{a= "x"}`, `{ a="x"}`, `{a="x" }`, `{a="x" ,b="y"}`, `{a="x", b="y"}`, "{a=\"x\",\tb=\"y\"}", `{a="x"b="y"}`, `{a="x";b="y"}`, `{a="x",,b="y"}`, `{,a="x"}`, `{a="x",}`, `{a="x",b="y",}`, `{a="x"]`, `{a="x")`,
		`{a=x}`, `{a='x'}`, "{a=`x`}", `{a="x}`, `{a=x"}`, `{a=""x"}`, `{a="x""}`, `{a="x"y"}`, `{a=="x"}`, `{a!="x"}`, `{a^="x"}`, `{a:"x"}`, `{a"x"}`, `{"a"="x"}`, `{a="x"="y"}`, `{a="x",="y"}`, `{="x",b="y"}`,
		`{a=""}`, `{a="x",b=""}`, `{a="",b="x"}`, `{a="\n"}`, `{a="\x"}`, `{a="\t"}`, `{a="\ "}`, `{a="\}`, `{a="\'"}`, `{a="x\y"}`, `{a="\\\"}`, `{a="\\\n"}`, `{a="\,"}`, "{a=\"\\\x00\"}", "{a=\"\\\xff\"}",
		"{a=\"\x1f\"}", "{a=\"\x7f\"}", "{a=\"\n\"}", "{a=\"\x00\"}", "{a=\"\xff\"}", `{a="é"}`, `{é="x"}`, `{A="x"}`, `{1="x"}`, `{_="x"}`, `{1a="x"}`, `{_a="x"}`, `{a-b="x"}`, `{a.b="x"}`, `{aB="x"}`, "{a\x00=\"x\"}", "{a\xff=\"x\"}",
		`{a="x",a="x"}`, `{a="x",a="y"}`, `{b="x",a="y"}`, `{a="x",c="x",b="x"}`, `{a="x",b="x",a="x"}`, `{aa="x",a="x"}`, `{a_="x",a0="x"}`,
		`{a="1",b="1",c="1",d="1",e="1"}`, `{a="1",b="1",c="1",d="1",}`, `{a="1",b="1",c="1",d="1",`, `{a="1",b="1",c="1",d="1"`,
		`{` + strings.Repeat("n", 17) + `="x"}`, `{a="` + strings.Repeat("v", 33) + `"}`, `{a="` + strings.Repeat(`\"`, 33) + `"}`, `{a="` + strings.Repeat(`\\`, 33) + `"}`, `{a="x",` + strings.Repeat("n", 17) + `="x"}`,
	} {
		wantRefused(t, s)
		for _, behind := range []string{" 5", "\x00", " {}"} {
			wantRefused(t, s+behind)
		}
		for _, behind := range behinds {
			wantWords(t, s+behind)
		}
	}
}

// TestLongTexts: P7.2: what is far too long is refused, whatever it would be; what is far behind is told.
func TestLongTexts(t *testing.T) {
	const n = 1 << 16
	for _, s := range []string{
		strings.Repeat("{", n), "{" + strings.Repeat("a", n), "{" + strings.Repeat("a", n) + `="x"}`, `{a="` + strings.Repeat("v", n) + `"}`, `{a="` + strings.Repeat(`\`, n), `{a="` + strings.Repeat(`\`, n+1), `{a="` + strings.Repeat(`\"`, n) + `"}`,
		"{" + strings.Repeat(`a="x",`, n) + `b="x"}`, "{" + strings.Repeat(",", n) + "}", `{a="x"` + strings.Repeat(",", n) + "}",
	} {
		wantRefused(t, s)
	}
	wantRead(t, `{a="x"}`+strings.Repeat(`{a="x"}`, n), row("a", "x"), strings.Repeat(`{a="x"}`, n))
}

// grow hands over every text of at most n of these bytes.
func grow(bytes string, n int, f func(string)) {
	var more func(string)
	more = func(s string) {
		f(s)
		if len(s) < n {
			for _, c := range bytes {
				more(s + string(c))
			}
		}
	}
	more("")
}

// TestShortTexts: P7.2: every short text, and every short one within others, by the words.
func TestShortTexts(t *testing.T) {
	grow(`{}="\,ab `, 5, func(s string) { wantWords(t, s) })
	grow(`"\},a=`, 6, func(s string) { wantWords(t, `{a=`+s) })
	grow(`"\}x`, 7, func(s string) { wantWords(t, `{a="`+s+`"}`) })
	grow(`{}="\,ab `, 4, func(s string) {
		wantWords(t, `{`+s+`a="x"}`)
		wantWords(t, `{a="x"`+s+`b="y"}`)
		wantWords(t, `{a="x",b="y`+s)
		wantWords(t, `{a="x",b="y`+s+`"} 5`)
	})
}

// TestEveryName: P7.2: every pair of names, and every value, of those that may be and those that may not.
func TestEveryName(t *testing.T) {
	_, names := someNames()
	_, values := someValues()
	for _, a := range names {
		for _, b := range names {
			wantWords(t, wantPrint(row(a, "x", b, "y"))+" 5")
		}
		for _, v := range values {
			wantWords(t, wantPrint(row(a, v)))
			wantWords(t, wantPrint(row("a", v, "b", v))+"}")
			wantWords(t, `{`+a+`="`+v+`"}`)
		}
	}
}

// TestParseDrawn: P7.2: drawn texts, some of their bytes changed, by the words.
func TestParseDrawn(t *testing.T) {
	r := rand.New(rand.NewSource(3))
	for range 30000 {
		b := []byte(wantPrint(someRow(r, r.Intn(2) == 0)) + behinds[r.Intn(len(behinds))])
		wantWords(t, string(b))
		for range r.Intn(3) {
			b[r.Intn(len(b))] = `{}="\,ab z0_`[r.Intn(12)]
		}
		wantWords(t, string(b))
	}
}
