// Package fixed is layer 1: see shared/doc/01-fixed.md.
package fixed

import (
	"strconv"
	"strings"

	"tocsin/api"
)

// A number counts thousandths: so many places behind the point, and so much is a whole one.
const (
	places = 3
	one    = 1000
)

// Sat: P1.1.
func Sat(x int64) int64 {
	return max(-api.MaxFix, min(x, api.MaxFix))
}

// Add: P1.1. Two numbers within the bounds come to less than 2^63, so the sum can't wrap round.
func Add(a, b int64) int64 {
	return Sat(Sat(a) + Sat(b))
}

// Sub: P1.1.
func Sub(a, b int64) int64 {
	return Sat(Sat(a) - Sat(b))
}

// Sum: P1.2.
func Sum(l ...int64) int64 {
	var sum int64
	for _, x := range l {
		sum = Add(sum, x)
	}
	return sum
}

// Mean: P1.2.
func Mean(sum int64, n int) int64 {
	if n < 1 {
		return 0
	}
	return Sat(sum) / int64(n)
}

// Parse: P1.3. A text that goes beyond the bounds is read to its end all the same: what follows may make it no number's text.
func Parse(s string) (int64, api.Errno) {
	text, negative := strings.CutPrefix(s, "-")
	var n int64
	whole, decimals, point := 0, 0, false
cut:
	for text != "" {
		c := text[0]
		switch {
		case c == '.' && !point:
			point = true
		case c < '0' || c > '9' || decimals == places:
			break cut
		case point:
			n = behind(n, c)
			decimals++
		default:
			n = behind(n, c)
			whole++
		}
		text = text[1:]
	}
	if text != "" || whole == 0 || point && decimals == 0 {
		return 0, api.ErrNumber
	}
	for ; decimals < places; decimals++ {
		n = behind(n, '0')
	}
	if negative {
		n = -n
	}
	return n, api.OK
}

// behind sets a digit behind the digits of n, which isn't below 0. It is saturated digit by digit: once at the bound, more digits can't lead away from it.
func behind(n int64, digit byte) int64 {
	d := int64(digit - '0')
	if n > (api.MaxFix-d)/10 {
		return api.MaxFix
	}
	return n*10 + d
}

// Print: P1.3.
func Print(x int64) string {
	n, sign := Sat(x), ""
	if n < 0 {
		n, sign = -n, "-"
	}
	text := sign + strconv.FormatInt(n/one, 10)
	if part := n % one; part > 0 {
		// one more ahead keeps the noughts between the point and the digits
		digits := strconv.FormatInt(one+part, 10)[1:]
		text += "." + strings.TrimRight(digits, "0")
	}
	return text
}
