package fixed

import (
	"math"
	"math/big"
	"regexp"
	"slices"
	"strings"
	"testing"

	"tocsin/api"
)

const most = api.MaxFix

// numbers: both ends of int64, of the bounds and of what is small, and what lies beside them.
func numbers() []int64 {
	var l []int64
	for _, x := range []int64{0, 1000, 1e6, 1 << 32, 1 << 53, most / 2, most / 10, most - 10, most} {
		for d := int64(-3); d <= 3; d++ {
			l = append(l, x+d, -x+d)
		}
	}
	return append(l, math.MaxInt64, math.MaxInt64-1, math.MinInt64, math.MinInt64+1, math.MinInt64+2, 7100, -1500, 10, -20, 100, 999, 10000)
}

// bounded is the reference for what is saturated: exact, then the nearer end.
func bounded(x *big.Int) int64 {
	switch end := big.NewInt(most); {
	case x.Cmp(end) > 0:
		return most
	case x.Cmp(new(big.Int).Neg(end)) < 0:
		return -most
	}
	return x.Int64()
}

func satBig(x int64) *big.Int { return big.NewInt(bounded(big.NewInt(x))) }

// TestSat: P1.1.
func TestSat(t *testing.T) {
	for x, want := range map[int64]int64{
		0: 0, 5: 5, -5: -5,
		most - 1: most - 1, most: most, most + 1: most, math.MaxInt64: most,
		1 - most: 1 - most, -most: -most, -most - 1: -most, math.MinInt64: -most, math.MinInt64 + 1: -most,
	} {
		if got := Sat(x); got != want {
			t.Errorf("Sat %d: %d, not %d", x, got, want)
		}
	}
}

// TestAddSub: P1.1.
func TestAddSub(t *testing.T) {
	for _, c := range []struct{ a, b, add, sub int64 }{
		{1500, -500, 1000, 2000},
		{5, 7, 12, -2},
		{most, 1, most, most - 1},
		{-most, 1, 1 - most, -most},
		{most, most, most, 0},
		{-most, most, 0, -most},
		{math.MaxInt64, -5, most - 5, most},
		{math.MinInt64, 5, 5 - most, -most},
		{math.MinInt64, -5, -most, 5 - most},
		{5, math.MinInt64, 5 - most, most},
		{math.MaxInt64, math.MaxInt64, most, 0},
		{math.MinInt64, math.MinInt64, -most, 0},
		{math.MinInt64, math.MaxInt64, 0, -most},
	} {
		if got := Add(c.a, c.b); got != c.add {
			t.Errorf("Add %d %d: %d, not %d", c.a, c.b, got, c.add)
		}
		if got := Sub(c.a, c.b); got != c.sub {
			t.Errorf("Sub %d %d: %d, not %d", c.a, c.b, got, c.sub)
		}
	}
}

// TestAddSubAll: P1.1, against exact numbers.
func TestAddSubAll(t *testing.T) {
	for _, a := range numbers() {
		for _, b := range numbers() {
			if got, want := Add(a, b), bounded(new(big.Int).Add(satBig(a), satBig(b))); got != want {
				t.Errorf("Add %d %d: %d, not %d", a, b, got, want)
			}
			if got, want := Sub(a, b), bounded(new(big.Int).Sub(satBig(a), satBig(b))); got != want {
				t.Errorf("Sub %d %d: %d, not %d", a, b, got, want)
			}
		}
	}
}

// TestSum: P1.2: from 0 on, one after the other, so that the order shows where something is saturated.
func TestSum(t *testing.T) {
	for i, c := range []struct {
		l    []int64
		want int64
	}{
		{nil, 0},
		{[]int64{}, 0},
		{[]int64{7}, 7},
		{[]int64{1, 2, 3}, 6},
		{[]int64{-1500, 500}, -1000},
		{[]int64{most, 1, -1}, most - 1},
		{[]int64{1, -1, most}, most},
		{[]int64{-1, most, 1}, most},
		{[]int64{-most, -1, 1}, 1 - most},
		{[]int64{most, most, -most, -most}, -most},
		{[]int64{math.MaxInt64}, most},
		{[]int64{math.MinInt64}, -most},
		{[]int64{math.MaxInt64, -1}, most - 1},
		{[]int64{math.MaxInt64, math.MinInt64, 3}, 3},
	} {
		if got := Sum(c.l...); got != c.want {
			t.Errorf("%d: Sum %d: %d, not %d", i, c.l, got, c.want)
		}
	}
	if got := Sum(); got != 0 {
		t.Errorf("Sum of none: %d", got)
	}
}

// TestSumLeavesItsList: P0.4: neither the list nor the spare room behind it is changed.
func TestSumLeavesItsList(t *testing.T) {
	room := []int64{math.MaxInt64, 2, math.MinInt64, 4, 5}
	was := slices.Clone(room)
	if a, b := Sum(room[:3]...), Sum(room[:3]...); a != 0 || b != 0 {
		t.Errorf("Sum: %d, then %d", a, b)
	}
	if !slices.Equal(room, was) {
		t.Errorf("the list became %d", room)
	}
}

// TestMean: P1.2.
func TestMean(t *testing.T) {
	for _, c := range []struct {
		sum  int64
		n    int
		want int64
	}{
		{7, 2, 3}, {-7, 2, -3}, {7, 1, 7}, {-7, 7, -1}, {6, 7, 0}, {-6, 7, 0}, {0, 5, 0},
		{7, 0, 0}, {7, -1, 0}, {-7, math.MinInt, 0}, {math.MinInt64, -1, 0},
		{5, math.MaxInt, 0}, {most, math.MaxInt, 0},
		{most, 1, most}, {math.MaxInt64, 1, most}, {math.MinInt64, 1, -most},
		{math.MaxInt64, 2, 1<<61 - 1}, {math.MinInt64, 2, 1 - 1<<61},
	} {
		if got := Mean(c.sum, c.n); got != c.want {
			t.Errorf("Mean %d %d: %d, not %d", c.sum, c.n, got, c.want)
		}
	}
}

// TestParse: P1.3: texts of numbers, and what goes beyond the bounds at its end or in its midst.
func TestParse(t *testing.T) {
	nines := strings.Repeat("9", 30)
	noughts := strings.Repeat("0", 100)
	for s, want := range map[string]int64{
		"1": 1000, "-1.5": -1500, "0.001": 1, "007.10": 7100, "-0": 0,
		"0": 0, "00": 0, "0.0": 0, "-0.000": 0, "-0.001": -1, "1.0": 1000, "1.000": 1000, "1.05": 1050, "1.005": 1005, "12.34": 12340, "-9.999": -9999, "9.9": 9900, "100": 100000,
		"4611686018427387.902": most - 1, "4611686018427387.903": most, "4611686018427387.904": most,
		"-4611686018427387.902": 1 - most, "-4611686018427387.903": -most, "-4611686018427387.904": -most,
		"4611686018427387": most - 903, "4611686018427387.9": most - 3, "4611686018427387.90": most - 3, "4611686018427388": most, "4611686018427388.000": most, "-4611686018427388": -most,
		"4611686018427386.999": most - 904,
		"46116860184273879.03": most, "461168601842738790.3": most, "4611686018427387903": most, "-4611686018427387903": -most,
		"9223372036854775.807": most, "9223372036854775.808": most, "-9223372036854775.808": -most, "18446744073709551.616": most, "-18446744073709551.616": -most, "18446744073709551616": most, "18446744073709551617.001": most,
		nines: most, "-" + nines: -most, nines + ".1": most, nines + ".000": most, "-" + nines + ".01": -most, nines + noughts: most, "1" + noughts: most,
		noughts + "1": 1000, "-" + noughts + "1.5": -1500, noughts: 0, noughts + "4611686018427387.903": most, noughts + "4611686018427387.902": most - 1,
	} {
		if got, e := Parse(s); e != api.OK || got != want {
			t.Errorf("Parse %q: %d, error %d, not %d", s, got, e, want)
		}
	}
}

// TestParseRefuses: P1.3: texts that are no number's; beside the error the number is 0 (P0.2).
func TestParseRefuses(t *testing.T) {
	nines := strings.Repeat("9", 30)
	for _, s := range []string{
		"", "-", ".5", "1.", "1.2345", "+1", " 1", "1e3",
		".", "-.", "-.5", "-1.", "1.0000", "0.1000", "1.2.3", "1..2", "1.2.", "--1", "1-", "1-2", "-+1", "- 1", "1.-5", "1.+5",
		"1 ", "1\n", "\t1", "1 000", "1,5", "1_000", "0x10", "1E3", "1.5e0", "NaN", "Inf", "-Inf", "true", "a", "1a", "a1", "1.a", "1.5a",
		"1/2", "1:2", "/", ":", "1.5/", "1.5:", "\x00", "1\x00", "\xff", "1\xff", "\xb1", "١", "−1", "１", "1．5",
		nines + "x", nines + ".", nines + ".1234", nines + ".1.2", "-" + nines + "-", nines + " ",
	} {
		if got, e := Parse(s); e != api.ErrNumber || got != 0 {
			t.Errorf("Parse %q: %d, error %d, not ErrNumber", s, got, e)
		}
	}
}

// eachText hands over every text of at most n of these bytes.
func eachText(bytes string, n int, f func(string)) {
	var grow func(string)
	grow = func(s string) {
		f(s)
		if len(s) < n {
			for _, c := range bytes {
				grow(s + string(c))
			}
		}
	}
	grow("")
}

// exact is the reference for a number's text: what it says in thousandths, without bounds.
func exact(s string) *big.Int {
	whole, part, _ := strings.Cut(s, ".")
	x, _ := new(big.Int).SetString(whole+part+strings.Repeat("0", 3-len(part)), 10)
	return x
}

var numberText = regexp.MustCompile(`\A-?[0-9]+(\.[0-9]{1,3})?\z`)

// TestParseAllShort: P1.3: every short text, against the words of the chapter.
func TestParseAllShort(t *testing.T) {
	eachText("-0.19+ ", 6, func(s string) {
		got, e := Parse(s)
		if numberText.MatchString(s) {
			if want := bounded(exact(s)); e != api.OK || got != want {
				t.Errorf("Parse %q: %d, error %d, not %d", s, got, e, want)
			}
		} else if e != api.ErrNumber || got != 0 {
			t.Errorf("Parse %q: %d, error %d, not ErrNumber", s, got, e)
		}
	})
}

// TestParseAllBytes: P1.3: no byte but a digit stands for one, wherever it is.
func TestParseAllBytes(t *testing.T) {
	for c := range 256 {
		for _, s := range []string{string([]byte{byte(c)}), string([]byte{'1', byte(c)}), string([]byte{byte(c), '1'}), string([]byte{'1', '.', byte(c)}), string([]byte{'1', '.', '2', byte(c)}), string([]byte{'1', byte(c), '2'})} {
			got, e := Parse(s)
			if numberText.MatchString(s) {
				if want := exact(s).Int64(); e != api.OK || got != want {
					t.Errorf("Parse %q: %d, error %d, not %d", s, got, e, want)
				}
			} else if e != api.ErrNumber || got != 0 {
				t.Errorf("Parse %q: %d, error %d, not ErrNumber", s, got, e)
			}
		}
	}
}

// TestPrint: P1.3.
func TestPrint(t *testing.T) {
	for x, want := range map[int64]string{
		1000: "1", -1500: "-1.5", 1: "0.001", 7100: "7.1", 0: "0", -20: "-0.02",
		-1: "-0.001", 10: "0.01", 100: "0.1", 101: "0.101", 110: "0.11", -999: "-0.999", -1000: "-1", 1001: "1.001", 1010: "1.01",
		10000: "10", -100000: "-100", 1000000: "1000", 10020: "10.02",
		most: "4611686018427387.903", -most: "-4611686018427387.903", most - 3: "4611686018427387.9", most - 903: "4611686018427387",
		most + 1: "4611686018427387.903", -most - 1: "-4611686018427387.903", math.MaxInt64: "4611686018427387.903", math.MinInt64: "-4611686018427387.903",
	} {
		if got := Print(x); got != want {
			t.Errorf("Print %d: %q, not %q", x, got, want)
		}
	}
}

// TestPrintForm: P1.3: no noughts at the end behind a point, no point without digits, none ahead but one.
func TestPrintForm(t *testing.T) {
	form := regexp.MustCompile(`\A(0|-?([1-9][0-9]*|0\.[0-9]{0,2}[1-9]|[1-9][0-9]*\.[0-9]{0,2}[1-9]))\z`)
	check := func(x int64) {
		s := Print(x)
		if !form.MatchString(s) {
			t.Errorf("Print %d: %q is longer than it need be, or no number's text", x, s)
		} else if exact(s).Cmp(satBig(x)) != 0 {
			t.Errorf("Print %d: %q is another number", x, s)
		}
	}
	for x := int64(-12000); x <= 12000; x++ {
		check(x)
	}
	for _, x := range numbers() {
		check(x)
	}
}

// TestWithin: P1.4: all answers are within the bounds, the order of two doesn't matter, Sub of Add leads back.
func TestWithin(t *testing.T) {
	within := func(x int64) bool { return -most <= x && x <= most }
	for _, a := range numbers() {
		if !within(Sat(a)) || !within(Mean(a, 1)) || !within(Mean(a, 3)) || !within(Sum(a)) || !within(Sum(a, a, a)) {
			t.Errorf("%d: an answer is beyond the bounds", a)
		}
		for _, b := range numbers() {
			sum := Add(a, b)
			if !within(sum) || !within(Sub(a, b)) || !within(Sum(a, b, a)) {
				t.Errorf("%d, %d: an answer is beyond the bounds", a, b)
			}
			if back := Add(b, a); back != sum {
				t.Errorf("Add %d %d: %d, the other way round %d", a, b, sum, back)
			}
			if within(a) && within(b) && new(big.Int).Add(big.NewInt(a), big.NewInt(b)).Cmp(big.NewInt(sum)) == 0 && Sub(sum, b) != a {
				t.Errorf("Sub of Add %d %d: %d", a, b, Sub(sum, b))
			}
		}
	}
}

// TestThereAndBack: P1.5: Parse of Print is Sat.
func TestThereAndBack(t *testing.T) {
	check := func(x int64) {
		if got, e := Parse(Print(x)); e != api.OK || got != Sat(x) {
			t.Errorf("Parse of Print %d (%q): %d, error %d", x, Print(x), got, e)
		}
	}
	for x := int64(-12000); x <= 12000; x++ {
		check(x)
		check(most - 12000 + x)
		check(12000 - most + x)
	}
	for _, x := range numbers() {
		check(x)
	}
}

// TestShortest: P1.5: Print of Parse is the shortest text of that number, found among all texts that are short.
func TestShortest(t *testing.T) {
	shortest := map[int64]string{}
	eachText("-0.27", 7, func(s string) {
		x, e := Parse(s)
		if e != api.OK {
			return
		}
		if have, ok := shortest[x]; !ok || len(s) < len(have) {
			shortest[x] = s
		}
	})
	if len(shortest) < 1000 {
		t.Fatalf("only %d numbers", len(shortest))
	}
	for x, want := range shortest {
		if got := Print(x); got != want {
			t.Errorf("Print %d: %q, not %q", x, got, want)
		}
	}
	for s, want := range map[string]string{"007.10": "7.1", "-0": "0", "-0.0": "0", "1.000": "1", "-00.500": "-0.5", strings.Repeat("9", 30): "4611686018427387.903"} {
		if x, _ := Parse(s); Print(x) != want {
			t.Errorf("Print of Parse %q: %q, not %q", s, Print(x), want)
		}
	}
}

// TestRises: P1.5: Parse rises as numbers do, and stands still only where two texts say one number, or are beyond a bound.
func TestRises(t *testing.T) {
	texts := []string{"-" + strings.Repeat("9", 30), "-4611686018427387.904", "-4611686018427387.903", "-4611686018427387.902", "4611686018427387", "4611686018427387.902", "4611686018427387.903", "4611686018427387.904", "9223372036854775.808", "18446744073709551.616", "18446744073709551616", strings.Repeat("9", 30)}
	eachText("-0.19", 6, func(s string) {
		if numberText.MatchString(s) {
			texts = append(texts, s)
		}
	})
	slices.SortFunc(texts, func(a, b string) int { return exact(a).Cmp(exact(b)) })
	for i := 1; i < len(texts); i++ {
		a, ea := Parse(texts[i-1])
		b, eb := Parse(texts[i])
		same := exact(texts[i-1]).Cmp(exact(texts[i])) == 0 || b == -most || a == most
		if ea != api.OK || eb != api.OK || same && a != b || !same && a >= b {
			t.Errorf("Parse %q: %d; %q: %d", texts[i-1], a, texts[i], b)
		}
	}
}
