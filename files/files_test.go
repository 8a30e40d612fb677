package files

import (
	"bytes"
	"math"
	"slices"
	"strconv"
	"strings"
	"testing"
	"tocsin/api"
)

// want fails, if a call did not answer so.
func want(t *testing.T, what string, got, want api.Errno) {
	t.Helper()
	if got != want {
		t.Errorf("%s: %v, want %v", what, got, want)
	}
}

// wantFile fails, if the file isn't of these bytes, so many of them synced.
func wantFile(t *testing.T, s *Store, name string, b []byte, synced int) {
	t.Helper()
	got, e := s.Read(name)
	if !bytes.Equal(got, b) || e != api.OK {
		t.Errorf("Read %q: %v %v, want %v", name, got, e, b)
	}
	if n, e := s.Size(name); n != len(b) || e != api.OK {
		t.Errorf("Size %q: %v %v, want %v", name, n, e, len(b))
	}
	if n, e := s.Synced(name); n != synced || e != api.OK {
		t.Errorf("Synced %q: %v %v, want %v", name, n, e, synced)
	}
}

// wantNone fails, if there is such a file.
func wantNone(t *testing.T, s *Store, name string) {
	t.Helper()
	wantUntold(t, s, name, api.ErrFile)
}

// wantUntold fails, if something is told of a file beside that error.
func wantUntold(t *testing.T, s *Store, name string, e api.Errno) {
	t.Helper()
	if n, got := s.Size(name); n != 0 || got != e {
		t.Errorf("Size %q: %v %v, want %v", name, n, got, e)
	}
	if n, got := s.Synced(name); n != 0 || got != e {
		t.Errorf("Synced %q: %v %v, want %v", name, n, got, e)
	}
	if b, got := s.Read(name); b != nil || got != e {
		t.Errorf("Read %q: %v %v, want %v", name, b, got, e)
	}
}

func wantNames(t *testing.T, s *Store, names ...string) {
	t.Helper()
	if got := s.Names(); !slices.Equal(got, names) {
		t.Errorf("Names: %q, want %q", got, names)
	}
}

func wantState(t *testing.T, s *Store, dead bool, acts int) {
	t.Helper()
	if s.Dead() != dead || s.Acts() != acts {
		t.Errorf("Dead, Acts: %v %v, want %v %v", s.Dead(), s.Acts(), dead, acts)
	}
}

// abStore has a file a, of which 3 of 5 bytes are synced, and b, of which 0 of 1: by 4 acts.
func abStore(t *testing.T) *Store {
	t.Helper()
	s := New()
	want(t, "Append a", s.Append("a", []byte{1, 2, 3}), api.OK)
	want(t, "Sync a", s.Sync("a"), api.OK)
	want(t, "Append a", s.Append("a", []byte{4, 5}), api.OK)
	want(t, "Append b", s.Append("b", []byte{6}), api.OK)
	return s
}

// TestExamples: the chapter's examples (P3.1 to P3.5).
func TestExamples(t *testing.T) {
	s := abStore(t)
	wantNames(t, s, "a", "b")
	wantFile(t, s, "a", []byte{1, 2, 3, 4, 5}, 3)
	s.Crash([]int{1})
	wantFile(t, s, "a", []byte{1, 2, 3, 4}, 4)
	wantFile(t, s, "b", nil, 0)
	want(t, "Truncate", s.Truncate("a", 2), api.OK)
	wantFile(t, s, "a", []byte{1, 2}, 2)
	want(t, "Rename", s.Rename("a", "b"), api.OK)
	wantFile(t, s, "b", []byte{1, 2}, 2)
	wantNone(t, s, "a")
	s.Power(1)
	want(t, "Remove", s.Remove("b"), api.OK)
	want(t, "Append", s.Append("c", []byte{1}), api.ErrPower)
	wantNames(t, s)
	wantState(t, s, true, 7)
}

// TestNewIsEmpty: P3.1: no files, no acts, nothing set; two stores are apart.
func TestNewIsEmpty(t *testing.T) {
	s, other := New(), New()
	wantNames(t, s)
	wantState(t, s, false, 0)
	for _, name := range []string{"", "a", strings.Repeat("x", 33)} {
		wantNone(t, s, name)
	}
	want(t, "Append", s.Append("a", []byte{1}), api.OK)
	s.Power(0)
	wantNames(t, other)
	wantState(t, other, false, 0)
}

// TestNotMade: P0.1, P3.1 to P3.5: a nil store, and one that nobody made.
func TestNotMade(t *testing.T) {
	for _, s := range []*Store{nil, {}, new(Store)} {
		for range 2 { // the second time: behind all calls once
			want(t, "Append", s.Append("a", []byte{1}), api.ErrNil)
			want(t, "Append of no name", s.Append("", make([]byte, 1<<20+1)), api.ErrNil)
			want(t, "Sync", s.Sync("a"), api.ErrNil)
			want(t, "Truncate", s.Truncate("a", -1), api.ErrNil)
			want(t, "Rename", s.Rename("a", ""), api.ErrNil)
			want(t, "Remove", s.Remove("a"), api.ErrNil)
			wantUntold(t, s, "a", api.ErrNil)
			wantNames(t, s)
			wantState(t, s, false, 0)
			s.Power(0)
			wantState(t, s, false, 0)
			s.Power(3)
			s.Crash([]int{1})
			s.Crash(nil)
		}
	}
}

// TestNamesRise: P3.1: by their bytes, whatever the order they came in.
func TestNamesRise(t *testing.T) {
	s := New()
	for _, name := range []string{"b", "a", "\xff", "ab", "\x00", "B", "é", " "} {
		want(t, name, s.Append(name, nil), api.OK)
	}
	wantNames(t, s, "\x00", " ", "B", "a", "ab", "b", "é", "\xff")
}

// TestAppendNames: P3.2: names of no bytes, of 1, of 32, of 33; bytes are counted, not runes.
func TestAppendNames(t *testing.T) {
	s := New()
	name32 := strings.Repeat("é", 16)
	want(t, "no bytes", s.Append("", []byte{1}), api.ErrArg)
	want(t, "33 bytes", s.Append(name32+"x", []byte{1}), api.ErrArg)
	wantNames(t, s)
	wantState(t, s, false, 0)
	want(t, "32 bytes", s.Append(name32, []byte{1}), api.OK)
	want(t, "1 byte", s.Append("\x00", []byte{2}), api.OK)
	wantNames(t, s, "\x00", name32)
	wantFile(t, s, name32, []byte{1}, 0)
}

// TestAppendNothing: P3.2: no bytes make a file, too, and are an act.
func TestAppendNothing(t *testing.T) {
	s := New()
	want(t, "nil", s.Append("a", nil), api.OK)
	want(t, "empty", s.Append("b", []byte{}), api.OK)
	wantNames(t, s, "a", "b")
	wantFile(t, s, "a", nil, 0)
	want(t, "one", s.Append("a", []byte{9}), api.OK)
	want(t, "nil behind one", s.Append("a", nil), api.OK)
	wantFile(t, s, "a", []byte{9}, 0)
	wantState(t, s, false, 4)
}

// TestAppendLong: P3.2: files of 2^20 bytes, and of one more, at once and in pieces.
func TestAppendLong(t *testing.T) {
	s := New()
	most := bytes.Repeat([]byte{1, 2, 3, 4}, 1<<18)
	want(t, "one more, at once", s.Append("a", append(slices.Clip(most), 5)), api.ErrLong)
	wantNone(t, s, "a")
	wantState(t, s, false, 0)
	want(t, "most, at once", s.Append("a", most), api.OK)
	want(t, "no more", s.Append("a", nil), api.OK)
	want(t, "one more", s.Append("a", []byte{5}), api.ErrLong)
	wantFile(t, s, "a", most, 0)
	want(t, "all but one", s.Append("b", most[1:]), api.OK)
	want(t, "two more", s.Append("b", []byte{5, 6}), api.ErrLong)
	want(t, "one more", s.Append("b", []byte{5}), api.OK)
	wantFile(t, s, "b", append(slices.Clone(most[1:]), 5), 0)
	want(t, "Truncate", s.Truncate("b", 1<<20-2), api.OK)
	want(t, "three more", s.Append("b", []byte{5, 6, 7}), api.ErrLong)
	want(t, "two more", s.Append("b", []byte{5, 6}), api.OK)
	wantState(t, s, false, 6)
}

// fullStore has 64 files, f0 to f63, of one byte each.
func fullStore(t *testing.T) *Store {
	t.Helper()
	s := New()
	for i := range 64 {
		want(t, "Append", s.Append("f"+strconv.Itoa(i), []byte{byte(i)}), api.OK)
	}
	return s
}

// TestAppendFull: P3.2: 64 files, and one more; where there is one less, there is room.
func TestAppendFull(t *testing.T) {
	s := fullStore(t)
	want(t, "the 65th", s.Append("a", []byte{1}), api.ErrFull)
	want(t, "the 65th, of no bytes", s.Append("a", nil), api.ErrFull)
	wantNone(t, s, "a")
	if len(s.Names()) != 64 {
		t.Error(s.Names())
	}
	want(t, "one that is there", s.Append("f63", []byte{1}), api.OK)
	wantFile(t, s, "f63", []byte{63, 1}, 0)
	want(t, "Rename", s.Rename("f0", "a"), api.OK)
	want(t, "the 65th", s.Append("f0", nil), api.ErrFull)
	want(t, "Rename to one that is there", s.Rename("f1", "f2"), api.OK)
	want(t, "the 64th", s.Append("f1", nil), api.OK)
	want(t, "the 65th", s.Append("f0", nil), api.ErrFull)
	want(t, "Remove", s.Remove("f3"), api.OK)
	want(t, "the 64th", s.Append("f0", nil), api.OK)
	want(t, "the 65th", s.Append("f3", nil), api.ErrFull)
}

// TestAppendErrorsInOrder: P0.2, P3.2: ErrPower, ErrArg, ErrLong, ErrFull.
func TestAppendErrorsInOrder(t *testing.T) {
	s := fullStore(t)
	long := make([]byte, 1<<20+1)
	want(t, "wrong name, too long, full", s.Append("", long), api.ErrArg)
	want(t, "wrong name, full", s.Append(strings.Repeat("x", 33), nil), api.ErrArg)
	want(t, "too long, full", s.Append("a", long), api.ErrLong)
	want(t, "full", s.Append("a", long[1:]), api.ErrFull)
	s.Power(0)
	want(t, "dead, wrong name, too long, full", s.Append("", long), api.ErrPower)
	want(t, "dead, full", s.Append("a", nil), api.ErrPower)
}

// TestSync: P3.3: all bytes are synced, what is appended behind them is not; of other files nothing is.
func TestSync(t *testing.T) {
	s := abStore(t)
	want(t, "Sync", s.Sync("a"), api.OK)
	wantFile(t, s, "a", []byte{1, 2, 3, 4, 5}, 5)
	wantFile(t, s, "b", []byte{6}, 0)
	want(t, "Sync again", s.Sync("a"), api.OK)
	want(t, "Append", s.Append("a", []byte{7}), api.OK)
	wantFile(t, s, "a", []byte{1, 2, 3, 4, 5, 7}, 5)
	wantState(t, s, false, 7)
	want(t, "none such", s.Sync("c"), api.ErrFile)
	want(t, "no name", s.Sync(""), api.ErrFile)
	want(t, "long name", s.Sync(strings.Repeat("a", 33)), api.ErrFile)
	wantState(t, s, false, 7)
}

// TestTruncate: P3.3: cuts below 0, at 0, below what was synced, at it, above it, at the size and above it.
func TestTruncate(t *testing.T) {
	all := []byte{1, 2, 3, 4, 5}
	for n := -3; n <= 8; n++ {
		s := abStore(t)
		if n < 0 || n > 5 {
			want(t, "Truncate "+strconv.Itoa(n), s.Truncate("a", n), api.ErrArg)
			wantFile(t, s, "a", all, 3)
			wantState(t, s, false, 4)
			continue
		}
		want(t, "Truncate "+strconv.Itoa(n), s.Truncate("a", n), api.OK)
		wantFile(t, s, "a", all[:n], min(n, 3))
		wantFile(t, s, "b", []byte{6}, 0)
		wantState(t, s, false, 5)
		want(t, "Append", s.Append("a", []byte{9}), api.OK)
		wantFile(t, s, "a", append(slices.Clone(all[:n]), 9), min(n, 3))
	}
	s := abStore(t)
	want(t, "the greatest", s.Truncate("a", math.MaxInt), api.ErrArg)
	want(t, "the least", s.Truncate("a", math.MinInt), api.ErrArg)
	want(t, "none such, wrong number", s.Truncate("c", -1), api.ErrFile)
	want(t, "none such", s.Truncate("c", 0), api.ErrFile)
	want(t, "to nothing", s.Truncate("b", 0), api.OK)
	wantNames(t, s, "a", "b")
}

// TestCutHolds: P3.3: what was cut off does not come back by a crash, nor what was synced of it.
func TestCutHolds(t *testing.T) {
	s := abStore(t)
	want(t, "Truncate", s.Truncate("a", 1), api.OK)
	want(t, "Append", s.Append("a", []byte{8, 9}), api.OK)
	s.Crash([]int{1, 1})
	wantFile(t, s, "a", []byte{1, 8}, 2)
	wantFile(t, s, "b", []byte{6}, 1)
}

// TestCutFreesRoom: a file that was cut keeps no room of what it had.
func TestCutFreesRoom(t *testing.T) {
	s := New()
	want(t, "Append", s.Append("a", make([]byte, 1<<20)), api.OK)
	want(t, "Truncate", s.Truncate("a", 4), api.OK)
	if n := cap(s.files["a"].bytes); n > 64 {
		t.Error(n)
	}
	want(t, "Append", s.Append("a", make([]byte, 1<<16)), api.OK)
	s.Crash(nil)
	if n := cap(s.files["a"].bytes); n > 64 {
		t.Error(n)
	}
}

// TestRename: P3.4: to a name that is free, that is taken, and to its own.
func TestRename(t *testing.T) {
	s := abStore(t)
	want(t, "to a free one", s.Rename("a", "c"), api.OK)
	wantNames(t, s, "b", "c")
	wantFile(t, s, "c", []byte{1, 2, 3, 4, 5}, 3)
	want(t, "to a taken one", s.Rename("c", "b"), api.OK)
	wantNames(t, s, "b")
	wantFile(t, s, "b", []byte{1, 2, 3, 4, 5}, 3)
	want(t, "to itself", s.Rename("b", "b"), api.OK)
	wantNames(t, s, "b")
	wantFile(t, s, "b", []byte{1, 2, 3, 4, 5}, 3)
	wantState(t, s, false, 7)
	want(t, "to 32 bytes", s.Rename("b", strings.Repeat("x", 32)), api.OK)
	wantNames(t, s, strings.Repeat("x", 32))
	want(t, "Append at the old name", s.Append("b", []byte{7}), api.OK)
	wantFile(t, s, "b", []byte{7}, 0)
	wantFile(t, s, strings.Repeat("x", 32), []byte{1, 2, 3, 4, 5}, 3)
}

// TestRenameRefused: P3.4, P0.2, P0.3: ErrFile ahead of ErrArg; nothing has changed.
func TestRenameRefused(t *testing.T) {
	s := abStore(t)
	long := strings.Repeat("x", 33)
	want(t, "none such", s.Rename("c", "a"), api.ErrFile)
	want(t, "none such, to itself", s.Rename("c", "c"), api.ErrFile)
	want(t, "none such, to no name", s.Rename("c", ""), api.ErrFile)
	want(t, "none such, to 33 bytes", s.Rename(long, long), api.ErrFile)
	want(t, "no name to no name", s.Rename("", ""), api.ErrFile)
	want(t, "to no name", s.Rename("a", ""), api.ErrArg)
	want(t, "to 33 bytes", s.Rename("a", long), api.ErrArg)
	wantNames(t, s, "a", "b")
	wantFile(t, s, "a", []byte{1, 2, 3, 4, 5}, 3)
	wantFile(t, s, "b", []byte{6}, 0)
	wantState(t, s, false, 4)
}

// TestRemove: P3.4: it is there no more, whatever was synced, a crash does not bring it back; one made anew begins at nothing.
func TestRemove(t *testing.T) {
	s := abStore(t)
	want(t, "Remove", s.Remove("a"), api.OK)
	want(t, "Remove again", s.Remove("a"), api.ErrFile)
	want(t, "no name", s.Remove(""), api.ErrFile)
	wantNames(t, s, "b")
	wantState(t, s, false, 5)
	s.Crash([]int{9, 9})
	wantNone(t, s, "a")
	want(t, "Append", s.Append("a", []byte{7}), api.OK)
	wantFile(t, s, "a", []byte{7}, 0)
}

// TestPower: P3.5: as many acts as were set are done, none behind them; refused calls don't count.
func TestPower(t *testing.T) {
	s := New()
	s.Power(5)
	want(t, "1", s.Append("a", []byte{1}), api.OK)
	want(t, "refused", s.Append("", nil), api.ErrArg)
	want(t, "refused", s.Remove("c"), api.ErrFile)
	want(t, "refused", s.Truncate("a", 2), api.ErrArg)
	want(t, "refused", s.Rename("a", ""), api.ErrArg)
	want(t, "2", s.Sync("a"), api.OK)
	want(t, "3", s.Truncate("a", 1), api.OK)
	want(t, "4", s.Rename("a", "a"), api.OK)
	wantFile(t, s, "a", []byte{1}, 1)
	wantState(t, s, false, 4)
	want(t, "5", s.Remove("a"), api.OK)
	wantState(t, s, true, 5)
	want(t, "6", s.Append("a", nil), api.ErrPower)
	wantState(t, s, true, 5)
}

// wantDead fails, if a call on a dead store answers otherwise than ErrPower, whatever else is wrong.
func wantDead(t *testing.T, s *Store) {
	t.Helper()
	for _, name := range []string{"a", "c", "", strings.Repeat("x", 33)} {
		wantUntold(t, s, name, api.ErrPower)
		want(t, "Append", s.Append(name, []byte{1}), api.ErrPower)
		want(t, "Sync", s.Sync(name), api.ErrPower)
		want(t, "Truncate", s.Truncate(name, 0), api.ErrPower)
		want(t, "Truncate", s.Truncate(name, -1), api.ErrPower)
		want(t, "Rename", s.Rename(name, "d"), api.ErrPower)
		want(t, "Rename", s.Rename(name, ""), api.ErrPower)
		want(t, "Remove", s.Remove(name), api.ErrPower)
	}
}

// TestPowerOfNone: P3.5: Power of 0 is dead at once; names and acts are told still (P3.1), the files are as they were (P0.3).
func TestPowerOfNone(t *testing.T) {
	s := abStore(t)
	s.Power(0)
	wantState(t, s, true, 4)
	wantDead(t, s)
	wantNames(t, s, "a", "b")
	wantState(t, s, true, 4)
	s.Power(-1)
	wantFile(t, s, "a", []byte{1, 2, 3, 4, 5}, 3)
	wantFile(t, s, "b", []byte{6}, 0)
}

// TestPowerBelowNone: P3.5: nothing is set by numbers below 0, for as many acts as there may be.
func TestPowerBelowNone(t *testing.T) {
	for _, after := range []int{-1, -2, math.MinInt} {
		s := New()
		s.Power(1)
		s.Power(after)
		for i := range 10 {
			want(t, "Append", s.Append("a", []byte{1}), api.OK)
			wantState(t, s, false, i+1)
		}
	}
}

// TestPowerAnew: P3.5: the last number set holds, from then on; a dead store lives again by it.
func TestPowerAnew(t *testing.T) {
	s := New()
	s.Power(1)
	s.Power(2)
	want(t, "1", s.Append("a", nil), api.OK)
	s.Power(2)
	want(t, "1 of the second", s.Append("a", nil), api.OK)
	want(t, "2 of the second", s.Append("a", nil), api.OK)
	want(t, "3 of the second", s.Append("a", nil), api.ErrPower)
	s.Power(1)
	wantState(t, s, false, 3)
	want(t, "1 of the third", s.Append("a", nil), api.OK)
	wantState(t, s, true, 4)
	s.Power(math.MaxInt)
	want(t, "1 of the fourth", s.Append("a", nil), api.OK)
	wantState(t, s, false, 5)
}

// TestCrashEndsPower: P3.5: behind a crash nothing is set, were the store dead or not; the acts are counted on.
func TestCrashEndsPower(t *testing.T) {
	for after := range 3 {
		s := abStore(t)
		s.Power(after)
		s.Crash([]int{2, 1})
		wantState(t, s, false, 4)
		wantFile(t, s, "a", []byte{1, 2, 3, 4, 5}, 5)
		wantFile(t, s, "b", []byte{6}, 1)
		for i := range 4 {
			want(t, "Append", s.Append("a", []byte{7}), api.OK)
			wantState(t, s, false, 5+i)
		}
	}
}

// TestCrashKeeps: P3.5: numbers below 0, at 0, within, at what there is, above it, and none.
func TestCrashKeeps(t *testing.T) {
	for _, c := range []struct {
		keep []int
		a, b int
	}{
		{nil, 3, 0}, {[]int{}, 3, 0}, {[]int{0}, 3, 0}, {[]int{-1, -1}, 3, 0}, {[]int{math.MinInt, math.MinInt}, 3, 0},
		{[]int{1}, 4, 0}, {[]int{2}, 5, 0}, {[]int{3}, 5, 0}, {[]int{math.MaxInt, math.MaxInt}, 5, 1},
		{[]int{0, 1}, 3, 1}, {[]int{-1, 2}, 3, 1}, {[]int{1, 0}, 4, 0}, {[]int{2, 1, 7, -1, 7}, 5, 1},
	} {
		s := abStore(t)
		s.Crash(c.keep)
		wantNames(t, s, "a", "b")
		wantFile(t, s, "a", []byte{1, 2, 3, 4, 5}[:c.a], c.a)
		wantFile(t, s, "b", []byte{6}[:c.b], c.b)
		wantState(t, s, false, 4)
	}
}

// TestCrashCountsLooseFiles: P3.5: files all of whose bytes are synced, or that have none, take no number; the names are gone through as they rise, not as the files came.
func TestCrashCountsLooseFiles(t *testing.T) {
	s := New()
	for _, name := range []string{"e", "d", "c", "b", "a", "f"} {
		want(t, "Append", s.Append(name, []byte{1, 2, 3}), api.OK)
	}
	want(t, "Sync", s.Sync("b"), api.OK)
	want(t, "Truncate", s.Truncate("d", 0), api.OK)
	want(t, "Rename", s.Rename("f", "ab"), api.OK)
	s.Crash([]int{1, 2, 0, 3, 9})
	wantFile(t, s, "a", []byte{1}, 1)
	wantFile(t, s, "ab", []byte{1, 2}, 2)
	wantFile(t, s, "b", []byte{1, 2, 3}, 3)
	wantFile(t, s, "c", nil, 0)
	wantFile(t, s, "d", nil, 0)
	wantFile(t, s, "e", []byte{1, 2, 3}, 3)
}

// TestCrashAgain: P3.5: behind a crash all is synced: a second one takes nothing.
func TestCrashAgain(t *testing.T) {
	s := abStore(t)
	s.Crash([]int{1, 1})
	s.Crash(nil)
	wantFile(t, s, "a", []byte{1, 2, 3, 4}, 4)
	wantFile(t, s, "b", []byte{6}, 1)
	want(t, "Append", s.Append("b", []byte{7, 8}), api.OK)
	s.Crash([]int{1, 0})
	wantFile(t, s, "a", []byte{1, 2, 3, 4}, 4)
	wantFile(t, s, "b", []byte{6, 7}, 2)
	New().Crash([]int{1})
}

// TestBeginning: P3.6: whatever the numbers, each file has a beginning of what it had, with all that was synced; names stay.
func TestBeginning(t *testing.T) {
	numbers := []int{math.MinInt, -1, 0, 1, 2, 3, math.MaxInt}
	for _, first := range numbers {
		for _, second := range numbers {
			for _, keep := range [][]int{{first}, {first, second}, {first, second, first}} {
				s := abStore(t)
				want(t, "Append", s.Append("c", []byte{7, 8}), api.OK)
				want(t, "Append", s.Append("d", nil), api.OK)
				names := s.Names()
				before := map[string][]byte{}
				synced := map[string]int{}
				for _, name := range names {
					before[name], _ = s.Read(name)
					synced[name], _ = s.Synced(name)
				}
				s.Crash(keep)
				wantNames(t, s, names...)
				for _, name := range names {
					now, e := s.Read(name)
					if e != api.OK || !bytes.HasPrefix(before[name], now) || len(now) < synced[name] {
						t.Errorf("%v: %s: %v %v of %v, %d synced", keep, name, now, e, before[name], synced[name])
					}
				}
			}
		}
	}
}

// TestHandedInStays: P0.4: lists that are handed in are neither changed nor kept, nor is their spare room.
func TestHandedInStays(t *testing.T) {
	s := New()
	room := []byte{1, 2, 3, 4, 5, 6}
	want(t, "Append", s.Append("a", room[:3]), api.OK)
	want(t, "Append", s.Append("a", []byte{7}), api.OK)
	if !slices.Equal(room, []byte{1, 2, 3, 4, 5, 6}) {
		t.Error(room)
	}
	clear(room)
	wantFile(t, s, "a", []byte{1, 2, 3, 7}, 0)
	want(t, "Append", s.Append("b", []byte{1, 2}), api.OK)
	keep := []int{9, -1, 5}
	s.Crash(keep[:2])
	if !slices.Equal(keep, []int{9, -1, 5}) {
		t.Error(keep)
	}
}

// TestAnswersAreNew: P0.4: what is answered is new, its spare room too, and stays as it was.
func TestAnswersAreNew(t *testing.T) {
	s := abStore(t)
	first, _ := s.Read("a")
	second, _ := s.Read("a")
	full := first[:cap(first)]
	for i := range full {
		full[i] = 99
	}
	want(t, "Append", s.Append("a", []byte{8}), api.OK)
	wantFile(t, s, "a", []byte{1, 2, 3, 4, 5, 8}, 3)
	if !slices.Equal(second, []byte{1, 2, 3, 4, 5}) || !slices.Equal(first, []byte{99, 99, 99, 99, 99}) {
		t.Error(first, second)
	}
	want(t, "Truncate", s.Truncate("a", 0), api.OK)
	none, _ := s.Read("a")
	none = none[:cap(none)]
	for i := range none {
		none[i] = 99
	}
	want(t, "Append", s.Append("a", []byte{1, 2}), api.OK)
	wantFile(t, s, "a", []byte{1, 2}, 0)
	names := s.Names()
	names[0] = "z"
	wantNames(t, s, "a", "b")
}
