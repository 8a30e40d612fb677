package log

import (
	"iter"
	"strconv"
	"strings"
)

const (
	logKind  = "log."
	snapKind = "snap."
	newKind  = "new"

	maxDigits = 9           // of a file's number
	beyond    = 999_999_999 // the greatest number of so many digits, which a log may not have
)

// part says which of a log's files one is: its kind, and its number, if the kind has one.
type part struct {
	kind   string
	number int
}

// file is what the log's file of that kind and number is called.
func (l *Log) file(kind string, number int) string {
	return l.prefix + kind + strconv.Itoa(number)
}

// own goes over the log's files, by rising names, as they were when it began: they may be removed meanwhile.
func (l *Log) own() iter.Seq2[string, part] {
	return func(yield func(string, part) bool) {
		for _, name := range l.store.Names() {
			rest, ok := strings.CutPrefix(name, l.prefix)
			if !ok {
				continue
			}
			if p, ok := partOf(rest); ok && !yield(name, p) {
				return
			}
		}
	}
}

// partOf reads what stands behind the prefix; no, if no file of a log is called so. (Number 0 has no snapshot.)
func partOf(rest string) (part, bool) {
	if rest == newKind {
		return part{kind: newKind}, true
	}
	if digits, ok := strings.CutPrefix(rest, logKind); ok {
		n, ok := numberOf(digits)
		return part{logKind, n}, ok
	}
	if digits, ok := strings.CutPrefix(rest, snapKind); ok {
		n, ok := numberOf(digits)
		return part{snapKind, n}, ok && n > 0
	}
	return part{}, false
}

// numberOf reads a file's number. It must be written just so: strconv takes signs and noughts ahead, too.
func numberOf(digits string) (int, bool) {
	if len(digits) > maxDigits {
		return 0, false
	}
	n, err := strconv.Atoi(digits)
	if err != nil || n < 0 || strconv.Itoa(n) != digits {
		return 0, false
	}
	return n, true
}
