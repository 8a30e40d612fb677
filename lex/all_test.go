package lex

import (
	"math/rand"
	"strings"
	"testing"
)

// TestExamples: P9.1, the chapter's table.
func TestExamples(t *testing.T) {
	wantBrief(t, `count({a="x"}[60]) >= -1.5; # so`, `1count 4( 4{ 1a 4= 3x 4} 4[ 260 4] 4) 4>= 4- 21.5 4;`)
	wantAt(t, "1.", 1)
	wantAt(t, "1.2.3", 3)
	wantBrief(t, "a1_ 1a", "1a1_ 21 1a")
	wantBrief(t, `"a\"\\"`, `3a"\`)
	for s, place := range map[string]int{`"a`: 0, `"\n"`: 0, "!": 0, "A": 0, "a.b": 1} {
		wantAt(t, s, place)
	}
}

// TestNothing: P9.1: no byte at all, blanks alone, remarks alone: no tokens, and no error.
func TestNothing(t *testing.T) {
	for _, s := range []string{"", " ", "\t", "\n", "\r", " \t\n\r", "\r\n\r\n", "#", "##", "#\n", "# \n", "#\n#", "#\n#\n", " # a\n # b", "#!A.\\\"\x00\x7f\xff", "#é\n", "\n\n#\r\n", strings.Repeat(" #\n", 1000)} {
		wantTokens(t, s, nil)
		wantWords(t, s)
	}
}

// TestEveryByte: P9.1: each byte alone, between words, ahead of one, behind one, twice; four of them are blanks.
func TestEveryByte(t *testing.T) {
	for c := range 256 {
		b := string([]byte{byte(c)})
		for _, s := range []string{b, b + "a", "a" + b, "a" + b + "b", "a " + b + " b", b + b, "1" + b, "1" + b + "2", b + "1", b + "=", "=" + b, `"` + b, `"` + b + `"`, `"\` + b + `"`, `"` + b + `a"`, "#" + b, "#" + b + "\nx", "a#" + b + "b\nc"} {
			wantWords(t, s)
		}
		if strings.Contains(" \t\n\r", b) {
			wantTokens(t, "a"+b+"b", []Token{{TWord, "a", 0}, {TWord, "b", 2}})
			wantTokens(t, b, nil)
			wantTokens(t, b+b+"a"+b, []Token{{TWord, "a", 2}})
		} else if c < 32 || c >= 127 {
			wantLex(t, b, nil, 0)
			wantLex(t, "a"+b+"b", []Token{{TWord, "a", 0}}, 1)
			wantLex(t, " "+b+" a", nil, 1)
		}
	}
	for _, s := range []string{"é", "\u00a0", "\u2028", "\ufeff", "\u0085", "日"} {
		wantLex(t, "a"+s, []Token{{TWord, "a", 0}}, 1)
	}
}

// TestLong: P9.1: 4096 bytes of each kind are read, 4097 are not, whatever they are.
func TestLong(t *testing.T) {
	for _, c := range []struct{ first, more, last string }{
		{"", " ", ""}, {"", "\n", ""}, {"#", "x", ""}, {"#", "\"", ""}, {"#", "#", "\n"}, {"", "#\n", ""}, {"a", "a", ""}, {"z", "_", "9"}, {"1", "0", ""}, {"0", "0", ""}, {"1.", "5", ""}, {"", "9", ".5"},
		{`"`, "a", `"`}, {`"`, " ", `"`}, {`"`, `\"`, `"`}, {`"`, `\\`, `"`}, {"", "(", ""}, {"", ">=", ""}, {"", "=", ""}, {"", "a ", ""}, {"", `""`, ""}, {`"`, "a", `"#`}, {`"`, "a", `"` + "\n"}, {"a#", "x", "\nb"},
	} {
		for n := longest - 3; n <= longest+1; n++ {
			room := n - len(c.first) - len(c.last)
			s := c.first + strings.Repeat(c.more, room/len(c.more)) + c.last
			s += strings.Repeat(" ", n-len(s))
			wantWords(t, s)
			if n > longest {
				wantLong(t, s)
			}
		}
	}
	wantTokens(t, strings.Repeat("a", longest), []Token{{TWord, strings.Repeat("a", longest), 0}})
	wantTokens(t, strings.Repeat("0", longest), []Token{{TNumber, strings.Repeat("0", longest), 0}})
	wantTokens(t, `"`+strings.Repeat("a", longest-2)+`"`, []Token{{TText, strings.Repeat("a", longest-2), 0}})
	wantTokens(t, `"`+strings.Repeat(`\"`, longest/2-1)+`"`, []Token{{TText, strings.Repeat(`"`, longest/2-1), 0}})
	wantTokens(t, strings.Repeat(" ", longest-1)+";", []Token{{TSign, ";", longest - 1}})
	wantTokens(t, "#"+strings.Repeat("!", longest-1), nil)
}

// TestLongWrong: P9.1: of a text that is too long nothing else is told, though something wrong stands there; in the longest one it is, up to its end.
func TestLongWrong(t *testing.T) {
	for _, s := range []string{"!", "A", "\xff", `"`, "\x00", "."} {
		wantLong(t, s+strings.Repeat(" ", longest))
		wantLong(t, strings.Repeat(" ", longest)+s)
		wantLong(t, strings.Repeat(s, longest+1))
		wantLong(t, strings.Repeat(s, 1<<16))
		wantLex(t, strings.Repeat(" ", longest-1)+s, nil, longest-1)
		wantLex(t, s+strings.Repeat(" ", longest-1), nil, 0)
		wantLex(t, s+strings.Repeat("a\n", longest/2)[len(s):], nil, 0)
	}
	wantLong(t, strings.Repeat("é", longest/2)+"é")
	wantLex(t, `"`+strings.Repeat("a", longest-1), nil, 0)
	wantLex(t, strings.Repeat("9", longest-1)+".", []Token{{TNumber, strings.Repeat("9", longest-1), 0}}, longest-1)
}

// TestRemarks: P9.1: a remark ends ahead of the next byte 10, or with the text; what stands in it is nothing; in quotes there is none.
func TestRemarks(t *testing.T) {
	for s, want := range map[string]string{
		"a#": "1a", "a #": "1a", "a#\n": "1a", "a#b": "1a", "a#b\n": "1a", "a#b\nc": "1a 1c", "#a\nb": "1b", "#\nb": "1b", "#\n#\nb": "1b", "##\nb": "1b", "#a#b\nc": "1c", "a#b#c\nd": "1a 1d",
		"a#\"\nb": "1a 1b", "a#\"b\"\nc": "1a 1c", "a#\\\nb": "1a 1b", "a#b\\\nc": "1a 1c", "a#!A.^_\nb": "1a 1b", "a#\x00\x1f\x7f\x80\xff\nb": "1a 1b", "a#é\nb": "1a 1b", "a#b\rc\nd": "1a 1d", "a#b\r\nc": "1a 1c", "a#\tb": "1a",
		"1#2\n3": "21 23", "1#.5\n5": "21 25", `"a#b"`: "3a#b", `"#"`: "3#", `"a"#"b"` + "\n" + `"c"`: "3a 3c", "<#\n=": "4< 4=", "<#\n>": "4< 4>", "a#\nb": "1a 1b", "a # b\n # c\n ;": "1a 4;", "#a\n\n#b\n\nc": "1c",
	} {
		wantBrief(t, s, want)
	}
	wantAt(t, "#a\n!", 3)
	wantAt(t, "a#b\n!", 4)
	wantAt(t, "1.#2", 1)
	wantAt(t, "\"#\n\"", 0)
	wantAt(t, `"a#`, 0)
	wantAt(t, "!#\n=", 0)
	wantAt(t, "#\n\xff", 2)
}

// TestWords: P9.1: letters, then digits and _ too; no capital ones; as long as one likes.
func TestWords(t *testing.T) {
	for s, want := range map[string]string{
		"a": "1a", "z": "1z", "az": "1az", "a1": "1a1", "a_": "1a_", "a_1": "1a_1", "a1_": "1a1_", "a__": "1a__", "a0b1": "1a0b1", "a_b": "1a_b", "a9": "1a9", "count": "1count", "1a": "21 1a", "12ab3": "212 1ab3",
		"a b": "1a 1b", "a-b": "1a 4- 1b", "a,b": "1a 4, 1b", "a=b": "1a 4= 1b", "and_or": "1and_or", "a(b)": "1a 4( 1b 4)", "abcdefghijklmnopqrstuvwxyz_0123456789": "1abcdefghijklmnopqrstuvwxyz_0123456789",
	} {
		wantBrief(t, s, want)
	}
	for s, place := range map[string]int{"_": 0, "_a": 0, "A": 0, "Z": 0, "aB": 1, "Ab": 0, "a B": 2, "a.b": 1, "a.1": 1, "a'": 1, "a`": 1, "a@": 1, "a/": 1, "aé": 1, "1_": 1, "1_a": 1, "1A": 1, " _": 1, "a_ _": 3, "a!b": 1, "a\\": 1} {
		wantAt(t, s, place)
	}
	for n := 1; n < 100; n++ {
		wantTokens(t, strings.Repeat("n", n), []Token{{TWord, strings.Repeat("n", n), 0}})
	}
}

// TestNumbers: P9.1: digits, and a . with digits behind it once.
func TestNumbers(t *testing.T) {
	for s, want := range map[string]string{
		"0": "20", "9": "29", "00": "200", "007": "2007", "10": "210", "1.5": "21.5", "0.0": "20.0", "007.10": "2007.10", "1.2345": "21.2345", "12.34": "212.34", "1a": "21 1a", "1.2a": "21.2 1a", "1e3": "21 1e3", "1.5e3": "21.5 1e3", "0x1": "20 1x1",
		"1 2": "21 22", "1 2.5": "21 22.5", "-1": "4- 21", "1-2": "21 4- 22", "1.5-2.5": "21.5 4- 22.5", "--1": "4- 4- 21", "1,2": "21 4, 22", "1=": "21 4=", "1\n2": "21 22", "1;2": "21 4; 22", "1\"\"2": "21 3 22", "1.2 3.4": "21.2 23.4",
		"123456789012345678901234567890.000000000000000000001": "2123456789012345678901234567890.000000000000000000001",
	} {
		wantBrief(t, s, want)
	}
	for s, place := range map[string]int{
		"1.": 1, "1.a": 1, "1. ": 1, "1. 5": 1, "1 .5": 2, ".": 0, ".5": 0, " .5": 1, "..": 0, "1..": 1, "1..2": 1, "1.2.": 3, "1.2.3": 3, "1.2..3": 3, "1.-2": 1, "1._": 1, "1.\n5": 1, "1.#": 1, "1.;": 1, "1.\"": 1,
		"1.\xff": 1, "1,.5": 2, "-.5": 1, "1_000": 1, "+1": 0, "1+1": 1, "1/2": 1, "1'": 1, "1.é": 1, "1.2 .3": 4, "1.\x00": 1, "1:.": 2, "12.": 2, "0.": 1, "00.": 2, "1.2a.": 4,
	} {
		wantAt(t, s, place)
	}
	for n := 1; n < 100; n++ {
		for _, text := range []string{strings.Repeat("0", n), strings.Repeat("9", n), "1." + strings.Repeat("0", n), strings.Repeat("7", n) + ".5"} {
			wantTokens(t, text, []Token{{TNumber, text, 0}})
			wantLex(t, text+".", []Token{{TNumber, text, 0}}, len(text))
		}
	}
}

// TestTexts: P9.1: what stands in quotes, without the \ ahead of a quote and of a \; where no text ends, or one has other bytes, ErrLex at its beginning.
func TestTexts(t *testing.T) {
	for s, want := range map[string]string{
		`""`: "3", `" "`: "3 ", `"a"`: "3a", `"A"`: "3A", `"~"`: "3~", `"\""`: `3"`, `"\\"`: `3\`, `"\\\""`: `3\"`, `"\"\\"`: `3"\`, `"\\\\"`: `3\\`, `"\"\""`: `3""`, `"a\"b"`: `3a"b`, `"a\\b"`: `3a\b`, `"\\n"`: `3\n`, `"\"a\""`: `3"a"`,
		`"a""b"`: "3a 3b", `""""`: "3 3", `"" ""`: "3 3", `"a" "b"`: "3a 3b", `"\"""\""`: `3" 3"`, `"\\""a"`: `3\ 3a`, `a"b"`: "1a 3b", `"a"b`: "3a 1b", `"1"2`: "31 22", `="a"=`: "4= 3a 4=", `"{}()[],:;=<>-!^._"`: "3{}()[],:;=<>-!^._", `"1.2.3"`: "31.2.3", `"a # b"`: "3a # b", `"'"`: "3'",
	} {
		wantBrief(t, s, want)
	}
	for s, place := range map[string]int{
		`"`: 0, `"a`: 0, `"\`: 0, `"\"`: 0, `"\\`: 0, `"\\\"`: 0, `"a\`: 0, `"a\"`: 0, `"""`: 2, `"a""`: 3, `"a" "`: 4, `a "`: 2, `a"`: 1, `1"`: 1, ` "a`: 1, `"a b`: 0,
		`"\n"`: 0, `"\a"`: 0, `"\ "`: 0, `"\'"`: 0, `"a\b"`: 0, `"\\\n"`: 0, `"\0"`: 0, `"\x41"`: 0, `"" "\t"`: 3, `"\#"`: 0, "\"\\\n\"": 0, "\"\\\x00\"": 0, "\"\\\xff\"": 0, "\"\\\x7f\"": 0,
		"\"\n\"": 0, "\"a\nb\"": 0, "\"a\n": 0, "\"\x1f\"": 0, "\"\t\"": 0, "\"\r\"": 0, "\"\x00\"": 0, "\"\x7f\"": 0, "\"\x80\"": 0, "\"\xff\"": 0, `"é"`: 0, "\"a\x7f": 0, "\"a\nb": 0, "a \"b\nc\"": 2, "\"a\" \"\x1f\"": 4, "''": 0, "``": 0, `\"`: 0, `\""`: 0,
	} {
		wantAt(t, s, place)
	}
}

// TestSigns: P9.1: each sign alone, and each two, one behind the other and with a blank between: the longest one that fits each time.
func TestSigns(t *testing.T) {
	for _, a := range signs() {
		wantTokens(t, a, []Token{{TSign, a, 0}})
		wantBrief(t, "a"+a+"1", "1a 4"+a+" 21")
		for _, b := range signs() {
			wantWords(t, a+b)
			wantTokens(t, a+" "+b, []Token{{TSign, a, 0}, {TSign, b, len(a) + 1}})
			for _, c := range signs() {
				wantWords(t, a+b+c)
			}
		}
	}
	for s, want := range map[string]string{
		"<==": "4<= 4=", "===": "4== 4=", "====": "4== 4==", "=<=": "4= 4<=", "=!=": "4= 4!=", "<>": "4< 4>", "=>": "4= 4>", ">>=": "4> 4>=", "<-": "4< 4-", "-=": "4- 4=", "->": "4- 4>", ":=": "4: 4=", "{=": "4{ 4=", "< =": "4< 4=", "= =": "4= 4=", "<=-1": "4<= 4- 21", "^==": "4^= 4=", "!===": "4!= 4==", ",=": "4, 4=",
	} {
		wantBrief(t, s, want)
	}
}

// TestHalfSigns: P9.1: ! and ^ are no signs but ahead of =.
func TestHalfSigns(t *testing.T) {
	for _, a := range []string{"!", "^"} {
		wantLex(t, a, nil, 0)
		wantTokens(t, a+"=", []Token{{TSign, a + "=", 0}})
		wantLex(t, "<"+a, []Token{{TSign, "<", 0}}, 1)
		wantLex(t, "="+a+"a", []Token{{TSign, "=", 0}}, 1)
		wantLex(t, a+" =", nil, 0)
		wantLex(t, a+"#\n=", nil, 0)
		for c := range 256 {
			if b := string([]byte{byte(c)}); b != "=" {
				wantLex(t, a+b, nil, 0)
				wantLex(t, "a "+a+b+"=", []Token{{TWord, "a", 0}}, 2)
			}
		}
	}
}

// TestWhere: P9.1: where each token begins: behind blanks, remarks, and texts with \ in them; bytes are counted, not runes.
func TestWhere(t *testing.T) {
	wantTokens(t, "  a\t\r\n b", []Token{{TWord, "a", 2}, {TWord, "b", 7}})
	wantTokens(t, "#x\na#\n#\n1", []Token{{TWord, "a", 3}, {TNumber, "1", 8}})
	wantTokens(t, "#é\na", []Token{{TWord, "a", 4}})
	wantTokens(t, "#\xff\xff\na", []Token{{TWord, "a", 4}})
	wantTokens(t, `"\"\\"a`, []Token{{TText, `"\`, 0}, {TWord, "a", 6}})
	wantTokens(t, ` "" "\"" "x"`, []Token{{TText, "", 1}, {TText, `"`, 4}, {TText, "x", 9}})
	wantTokens(t, "a<=1.50-b", []Token{{TWord, "a", 0}, {TSign, "<=", 1}, {TNumber, "1.50", 3}, {TSign, "-", 7}, {TWord, "b", 8}})
	wantTokens(t, "1a", []Token{{TNumber, "1", 0}, {TWord, "a", 1}})
}

// TestWhereWrong: P9.1, P0.2: where ErrLex is told: at the first such place, at the beginning, in the midst, at the end, behind right tokens and behind a remark; and no tokens are told.
func TestWhereWrong(t *testing.T) {
	for _, bad := range []string{"!", "^", "A", "_", ".", "\\", "'", "@", "\x00", "\x7f", "\xff", "é", `"`, `"a`, `"\n"`, `"\`} {
		for _, behind := range []string{"", " ", " a", " ! A", "\n#\n"} {
			wantLex(t, bad+behind, nil, 0)
			wantLex(t, " \n"+bad+behind, nil, 2)
			wantLex(t, "#\"!\n"+bad+behind, nil, 4)
			wantLex(t, "a "+bad+behind, []Token{{TWord, "a", 0}}, 2)
			wantLex(t, "a;"+bad+behind, []Token{{TWord, "a", 0}, {TSign, ";", 1}}, 2)
			wantLex(t, "1 "+bad+behind, []Token{{TNumber, "1", 0}}, 2)
			wantLex(t, `"\\" `+bad+behind, []Token{{TText, `\`, 0}}, 5)
			wantLex(t, "1.5#x\n\n"+bad+behind, []Token{{TNumber, "1.5", 0}}, 7)
		}
	}
	for _, s := range rightTexts() {
		wantWords(t, s+"\n!")
		wantAt(t, s+"\n! a", len(s)+1)
	}
}

// grow hands over every text of at most n of these bytes.
func grow(bytes string, n int, f func(string)) {
	var more func(string)
	more = func(s string) {
		f(s)
		if len(s) < n {
			for i := range len(bytes) {
				more(s + bytes[i:i+1])
			}
		}
	}
	more("")
}

// TestShortTexts: P9.1, P9.2: every short text, by the words.
func TestShortTexts(t *testing.T) {
	f := func(s string) { wantWords(t, s) }
	grow("a1_.\"\\=<!-# \n", 4, f)
	grow("1.a ", 6, f)
	grow("\"\\a ", 7, f)
	grow("#\n\"a", 6, f)
	grow("<>=!^", 5, f)
	var every strings.Builder
	for c := range 256 {
		every.WriteByte(byte(c))
	}
	grow(every.String(), 2, f)
}

// TestOneByte: P9.1, P9.2: each beginning and each end of right texts, and right texts of which one byte is otherwise, more, or missing.
func TestOneByte(t *testing.T) {
	for _, s := range rightTexts() {
		for i := range len(s) + 1 {
			wantWords(t, s[:i])
			wantWords(t, s[i:])
			for _, b := range []byte("\x00\t\n\r\x1f !\"#'(),-./059:;<=>@AZ[\\]^_`az{|}~\x7f\x80\xc3\xff") {
				wantWords(t, s[:i]+string([]byte{b})+s[i:])
				if i < len(s) {
					wantWords(t, s[:i]+string([]byte{b})+s[i+1:])
				}
			}
			if i < len(s) {
				wantWords(t, s[:i]+s[i+1:])
			}
		}
	}
}

// TestAllDrawn: P9.1, P9.2: drawn texts, by the words.
func TestAllDrawn(t *testing.T) {
	r := rand.New(rand.NewSource(2))
	for range 20000 {
		wantWords(t, someText(r, 14))
	}
	for range 60 {
		wantWords(t, someText(r, 3000))
	}
}
