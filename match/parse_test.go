package match

import (
	"math/rand"
	"slices"
	"strings"
	"testing"

	"tocsin/api"
)

// rightTexts: texts of matchers that may be, and the matchers.
func rightTexts() map[string][]api.Matcher {
	n, v := strings.Repeat("n", 16), strings.Repeat("v", 32)
	return map[string][]api.Matcher{
		`{}`:                                    nil,
		`{a="x"}`:                               row("a", "=", "x"),
		`{a!="x"}`:                              row("a", "!=", "x"),
		`{a^="x"}`:                              row("a", "^=", "x"),
		`{a=""}`:                                row("a", "=", ""),
		`{a!=""}`:                               row("a", "!=", ""),
		`{a^=""}`:                               row("a", "^=", ""),
		`{a="",b="",c=""}`:                      row("a", "=", "", "b", "=", "", "c", "=", ""),
		`{a="x",b!="",a^="y"}`:                  row("a", "=", "x", "b", "!=", "", "a", "^=", "y"),
		`{b="x",a="y",b="x"}`:                   row("b", "=", "x", "a", "=", "y", "b", "=", "x"),
		`{a="\"\\"}`:                            row("a", "=", `"\`),
		`{a!="\\\""}`:                           row("a", "!=", `\"`),
		`{a^="\\",b="\""}`:                      row("a", "^=", `\`, "b", "=", `"`),
		`{a="x\"",b="\"x"}`:                     row("a", "=", `x"`, "b", "=", `"x`),
		`{a="\\n"}`:                             row("a", "=", `\n`),
		`{a="\",b=\""}`:                         row("a", "=", `",b=`+`"`),
		`{a="}",b^="{",c!=","}`:                 row("a", "=", "}", "b", "^=", "{", "c", "!=", ","),
		`{a="=",b="!=",c="^="}`:                 row("a", "=", "=", "b", "=", "!=", "c", "=", "^="),
		`{a=" ",a_^="~",a0!="'"}`:               row("a", "=", " ", "a_", "^=", "~", "a0", "!=", "'"),
		`{a="1",b="2",c="3",d="4",e="5",f="6"}`: row("a", "=", "1", "b", "=", "2", "c", "=", "3", "d", "=", "4", "e", "=", "5", "f", "=", "6"),
		`{a^="x",a^="x",a^="x",a^="x",a^="x",a^="x"}`:    slices.Repeat(row("a", "^=", "x"), 6),
		`{` + n + `!="` + v + `"}`:                       row(n, "!=", v),
		`{a="` + strings.Repeat(`\"`, 32) + `"}`:         row("a", "=", strings.Repeat(`"`, 32)),
		`{a^="` + strings.Repeat(`\\`, 32) + `"}`:        row("a", "^=", strings.Repeat(`\`, 32)),
		`{a!="` + strings.Repeat(`\\\"`, 16) + `",b=""}`: row("a", "!=", strings.Repeat(`\"`, 16), "b", "=", ""),
	}
}

// TestExamplesParse: P8.2, the chapter's table.
func TestExamplesParse(t *testing.T) {
	wantRead(t, `{}`, nil, "")
	wantRead(t, `{a="x",b!="",a^="y"}[5]`, row("a", "=", "x", "b", "!=", "", "a", "^=", "y"), "[5]")
	for _, s := range []string{`{a~"x"}`, `{a="x"`, "{" + strings.Repeat(`a="x",`, 6) + `a="x"}`, `{A="x"}`} {
		wantRefused(t, s)
	}
}

// TestRightTexts: P8.2: they are told, with anything behind; Print tells the text (P8.1).
func TestRightTexts(t *testing.T) {
	for s, want := range rightTexts() {
		check(t, "may be: "+s, May(want))
		for _, behind := range behinds {
			wantRead(t, s+behind, want, behind)
			wantWords(t, s+behind)
		}
		for other := range rightTexts() {
			wantRead(t, s+other, want, other)
		}
		if got := Print(want); got != s {
			t.Errorf("Print %v: %q, want %q", want, got, s)
		}
	}
}

// TestBeginnings: P8.2: no beginning of a right text is one, and nothing may stand ahead of it.
func TestBeginnings(t *testing.T) {
	for s := range rightTexts() {
		for i := range s {
			wantRefused(t, s[:i])
			for _, end := range []string{"}", `"}`, `x"}`, `""}`, `=""}`, "[5]"} {
				wantWords(t, s[:i]+end)
			}
		}
		for _, ahead := range []string{" ", "}", ",", `"`, `\`, "\x00", "x", "{", "\n", "\ufeff"} {
			wantRefused(t, ahead+s)
		}
	}
}

// TestOneByte: P8.2: right texts of which one byte is otherwise, more, or missing, by the words.
func TestOneByte(t *testing.T) {
	for s := range rightTexts() {
		for i := range len(s) {
			wantWords(t, s[:i]+s[i+1:])
			wantWords(t, s[:i]+s[i+1:]+"[5]")
			for _, b := range []byte("\x00\t\n\x1f !\"#',-09:<=>AZ[\\]^_`az{|}~\x7f\x80\xc3\xff") {
				wantWords(t, s[:i]+string([]byte{b})+s[i+1:])
				wantWords(t, s[:i]+string([]byte{b})+s[i:])
			}
		}
	}
}

// TestEveryByte: P8.2: each byte in each place of a few texts.
func TestEveryByte(t *testing.T) {
	for _, s := range []string{"{}", `{a!="x",b^="\""}[5]`} {
		for i := range len(s) {
			for c := range 256 {
				wantWords(t, s[:i]+string([]byte{byte(c)})+s[i+1:])
				wantWords(t, s[:i]+string([]byte{byte(c)})+s[i:])
			}
		}
	}
}

// TestSigns: P8.2: three signs are right, wherever they stand; nothing else is in their place, nothing more beside them.
func TestSigns(t *testing.T) {
	for i, sign := range signs {
		for _, s := range []string{`{a` + sign + `"x"}`, `{a` + sign + `""}`, `{a` + sign + `"x",b="y"}`, `{b="y",a` + sign + `"x"}`, `{a` + sign + `"\""}`} {
			wantWords(t, s)
			if i >= 3 {
				wantRefused(t, s)
			} else if m, _, _ := Parse(s); !slices.ContainsFunc(m, func(one api.Matcher) bool { return one.Name == "a" && one.Op == uint8(i) }) {
				t.Errorf("Parse %q: %v, want the Op %d", s, m, i)
			}
		}
		for _, other := range signs {
			wantWords(t, `{a`+sign+`"x",b`+other+`"y"}`)
			wantWords(t, `{a`+sign+other+`"x"}`)
		}
	}
}

// TestCount: P8.2: none to six of them; not seven, and not more.
func TestCount(t *testing.T) {
	for _, one := range []string{`a="x"`, `a!=""`, `b^="\""`} {
		for n := 1; n <= 20; n++ {
			s := "{" + strings.Repeat(one+",", n-1) + one + "}"
			wantWords(t, s+"[5]")
			if m, _, e := Parse(s); (e == api.OK) != (n <= 6) || e == api.OK && len(m) != n {
				t.Errorf("Parse of %d: %v, error %d", n, m, e)
			}
		}
	}
}

// TestWrongTexts: P8.2: each edge alone, with nothing behind and with much.
func TestWrongTexts(t *testing.T) {
	for _, s := range []string{
		"", " ", "{", "}", "x", `a="x"`, `a="x"}`, `"`, `\`, "{{}", "{{}}", `{{a="x"}}`, "{ }", " {}", "{,}", "{=}", "{!=}", "{^=}", "{!}", "{a}", "{a=}", "{a!}", "{a!=}", "{a=x}", `{=""}`, `{!=""}`, `{="x"}`, "{\x00}",
		`{a`, `{a=`, `{a!`, `{a!=`, `{a^`, `{a^=`, `{a="`, `{a="x`, `{a="x"`, `{a="x",`, `{a="x",b`, `{a="x",b!`, `{a="x",b!=`, `{a="x",b="`, `{a="x",b="y`, `{a="x",b="y"`, `{a=""`, `{a="",`,
		`{a="x\`, `{a="x\"`, `{a="x\\`, `{a="\`, `{a="\"`, `{a="\"}`, `{a="x\"}`, `{a="x\\\"}`, `{a="\\`, `{a="\}`, `{a="` + "\xff",
		`{a ="x"}`, `{a= "x"}`, `{ a="x"}`, `{a="x" }`, `{a="x" ,b="y"}`, `{a="x", b="y"}`, "{a=\"x\",\tb=\"y\"}", "{\n}", `{a="x"b="y"}`, `{a="x";b="y"}`, `{a="x",,b="y"}`, `{,a="x"}`, `{a="x",}`, `{a="",}`, `{a="x",b="y",}`, `{a="x"]`, `{a="x")`,
		`{a='x'}`, "{a=`x`}", `{a="x}`, `{a=x"}`, `{a=""x"}`, `{a="x""}`, `{a=""""}`, `{a="x"y"}`, `{"a"="x"}`, `{a="x"="y"}`, `{a="x",="y"}`, `{="x",b="y"}`, `{a"x"}`, `{"x"}`, `{a="x",b}`, `{a="x","y"}`,
		`{a="\n"}`, `{a="\x"}`, `{a="\t"}`, `{a="\ "}`, `{a="\'"}`, `{a="x\y"}`, `{a="\\\n"}`, `{a="\,"}`, `{a="\}"}`, `{a="\="}`, "{a=\"\\\x00\"}", "{a=\"\\\xff\"}", `{a="\` + "\n" + `"}`,
		"{a=\"\x1f\"}", "{a=\"\x7f\"}", "{a=\"\n\"}", "{a=\"\x00\"}", "{a=\"\xff\"}", "{a=\"x\x80\"}", `{a="é"}`, `{é="x"}`, `{A="x"}`, `{1="x"}`, `{_="x"}`, `{1a="x"}`, `{_a="x"}`, `{a-b="x"}`, `{a.b="x"}`, `{aB="x"}`, "{a\x00=\"x\"}", "{a\xff=\"x\"}",
		`{` + strings.Repeat("n", 17) + `="x"}`, `{a="` + strings.Repeat("v", 33) + `"}`, `{a="` + strings.Repeat(`\"`, 33) + `"}`, `{a="` + strings.Repeat(`\\`, 33) + `"}`, `{a="x",` + strings.Repeat("n", 17) + `!="x"}`,
		`{a="1",b="1",c="1",d="1",e="1",f="1",g="1"}`, `{a="1",b="1",c="1",d="1",e="1",f="1",}`, `{a="1",b="1",c="1",d="1",e="1",f="1",`, `{a="1",b="1",c="1",d="1",e="1",f="1"`,
	} {
		wantRefused(t, s)
		for _, behind := range []string{"[5]", "\x00", " {}"} {
			wantRefused(t, s+behind)
		}
		for _, behind := range behinds {
			wantWords(t, s+behind)
		}
	}
}

// TestLongTexts: P8.2: what is far too long is refused, whatever it would be; what is far behind is told.
func TestLongTexts(t *testing.T) {
	const n = 1 << 16
	for _, s := range []string{
		strings.Repeat("{", n), "{" + strings.Repeat("a", n), "{" + strings.Repeat("a", n) + `="x"}`, `{a="` + strings.Repeat("v", n) + `"}`, `{a!="` + strings.Repeat(`\`, n), `{a^="` + strings.Repeat(`\`, n+1), `{a="` + strings.Repeat(`\"`, n) + `"}`, `{a="` + strings.Repeat(`"`, n) + `}`,
		"{" + strings.Repeat(`a="x",`, n) + `b="x"}`, "{" + strings.Repeat(",", n) + "}", `{a="x"` + strings.Repeat(",", n) + "}", "{a" + strings.Repeat("=", n) + `"x"}`, "{a" + strings.Repeat("!", n) + `="x"}`, "{a" + strings.Repeat(" ", n) + `="x"}`,
	} {
		wantRefused(t, s)
	}
	wantRead(t, `{a!="x"}`+strings.Repeat(`{a="x"}`, n), row("a", "!=", "x"), strings.Repeat(`{a="x"}`, n))
	wantRead(t, `{}`+strings.Repeat(`"`, n), nil, strings.Repeat(`"`, n))
}

// grow hands over every text of at most n of these bytes.
func grow(bytes string, n int, f func(string)) {
	var more func(string)
	more = func(s string) {
		f(s)
		if len(s) < n {
			for _, c := range bytes {
				more(s + string(c))
			}
		}
	}
	more("")
}

// TestShortTexts: P8.2: every short text, and every short one within others, by the words.
func TestShortTexts(t *testing.T) {
	grow(`{}=!^"\,a `, 4, func(s string) { wantWords(t, s) })
	grow(`=!^" `, 5, func(s string) { wantWords(t, `{a`+s+`"}`) })
	grow(`"\},a=`, 5, func(s string) { wantWords(t, `{a=`+s) })
	grow(`"\}x`, 6, func(s string) { wantWords(t, `{a^="`+s+`"}`) })
	grow(`{}=!^"\,b `, 3, func(s string) {
		wantWords(t, `{`+s+`a="x"}`)
		wantWords(t, `{a="x"`+s+`b!="y"}`)
		wantWords(t, `{a="x",b^="y`+s)
		wantWords(t, `{a="x",b^="y`+s+`"}[5]`)
		wantWords(t, `{a="x",b`+s+`"y"}`)
	})
}

// TestEveryName: P8.2: every pair of names, and every value, of those that may be and those that may not.
func TestEveryName(t *testing.T) {
	_, names := someNames()
	_, values := someValues()
	for _, a := range names {
		for _, b := range names {
			wantWords(t, wantPrint(row(a, "=", "x", b, "!=", "y"))+"[5]")
		}
		for _, v := range values {
			wantWords(t, wantPrint(row(a, "^=", v)))
			wantWords(t, wantPrint(row("a", "!=", v, a, "=", v))+"}")
			wantWords(t, `{`+a+`="`+v+`"}`)
		}
	}
}

// TestParseDrawn: P8.2: drawn texts, some of their bytes changed, by the words.
func TestParseDrawn(t *testing.T) {
	r := rand.New(rand.NewSource(6))
	for range 15000 {
		b := []byte(wantPrint(someRow(r, r.Intn(2) == 0)) + pick(r, behinds))
		wantWords(t, string(b))
		for range r.Intn(3) {
			b[r.Intn(len(b))] = `{}=!^"\,ab z0_`[r.Intn(14)]
		}
		wantWords(t, string(b))
	}
}
