package files

import (
	"math"
	"math/rand"
	"slices"
	"strconv"
	"testing"
	"tocsin/api"
)

// modelByte is a byte and whether it is synced.
type modelByte struct {
	value byte
	safe  bool
}

// modelFile is a file, byte by byte.
type modelFile struct {
	name  string
	bytes []modelByte
}

// model is a store by the chapter's words: a list of files by rising names, and all acts since Power was set.
type model struct {
	files []modelFile
	acts  int
	set   bool
	after int
	since int
}

func (m *model) dead() bool { return m.set && m.since >= m.after }

func (m *model) place(name string) int {
	return slices.IndexFunc(m.files, func(f modelFile) bool { return f.name == name })
}

// first is the error of the first case that applies, ErrPower ahead of them all.
func (m *model) first(cases ...api.Errno) api.Errno {
	if m.dead() {
		return api.ErrPower
	}
	for _, e := range cases {
		if e != api.OK {
			return e
		}
	}
	return api.OK
}

func when(is bool, e api.Errno) api.Errno {
	if is {
		return e
	}
	return api.OK
}

func (m *model) done() api.Errno {
	m.acts++
	m.since++
	slices.SortFunc(m.files, func(a, b modelFile) int {
		if a.name < b.name {
			return -1
		}
		return 1
	})
	return api.OK
}

func wrongName(name string) bool { return name == "" || len(name) > 32 }

func (m *model) append(name string, b []byte) api.Errno {
	i, size := m.place(name), 0
	if i >= 0 {
		size = len(m.files[i].bytes)
	}
	if e := m.first(when(wrongName(name), api.ErrArg), when(size+len(b) > 1<<20, api.ErrLong), when(i < 0 && len(m.files) == 64, api.ErrFull)); e != api.OK {
		return e
	}
	if i < 0 {
		i = len(m.files)
		m.files = append(m.files, modelFile{name: name})
	}
	for _, x := range b {
		m.files[i].bytes = append(m.files[i].bytes, modelByte{value: x})
	}
	return m.done()
}

func (m *model) sync(name string) api.Errno {
	i := m.place(name)
	if e := m.first(when(i < 0, api.ErrFile)); e != api.OK {
		return e
	}
	for j := range m.files[i].bytes {
		m.files[i].bytes[j].safe = true
	}
	return m.done()
}

func (m *model) truncate(name string, n int) api.Errno {
	i := m.place(name)
	if e := m.first(when(i < 0, api.ErrFile), when(n < 0 || i >= 0 && n > len(m.files[i].bytes), api.ErrArg)); e != api.OK {
		return e
	}
	m.files[i].bytes = m.files[i].bytes[:n:n]
	return m.done()
}

func (m *model) rename(old, name string) api.Errno {
	i := m.place(old)
	if e := m.first(when(i < 0, api.ErrFile), when(wrongName(name), api.ErrArg)); e != api.OK {
		return e
	}
	if old != name {
		m.files[i].name = ""
		m.files = slices.DeleteFunc(m.files, func(f modelFile) bool { return f.name == name })
		m.files[m.place("")].name = name
	}
	return m.done()
}

func (m *model) remove(name string) api.Errno {
	i := m.place(name)
	if e := m.first(when(i < 0, api.ErrFile)); e != api.OK {
		return e
	}
	m.files = slices.Delete(m.files, i, i+1)
	return m.done()
}

func (m *model) power(after int) {
	m.set, m.after, m.since = after >= 0, after, 0
}

func (m *model) crash(keep []int) {
	i := 0
	for k := range m.files {
		f := &m.files[k]
		survives := 0
		if i < len(keep) {
			survives = keep[i]
		}
		loose := 0
		var left []modelByte
		for _, b := range f.bytes {
			if !b.safe {
				loose++
			}
			if b.safe || loose <= survives {
				left = append(left, modelByte{b.value, true})
			}
		}
		f.bytes = left
		if loose > 0 {
			i++
		}
	}
	m.set = false
}

// pair is a store and what it should be.
type pair struct {
	t    *testing.T
	s    *Store
	m    *model
	path []string
}

func newPair(t *testing.T) *pair { return &pair{t: t, s: New(), m: &model{}} }

func (p *pair) fail(what string, got, want any) {
	p.t.Helper()
	p.t.Fatalf("%v: %s: %v, want %v", p.path, what, got, want)
}

// answered holds an Errno against the model's.
func (p *pair) answered(what string, got, want api.Errno) {
	p.t.Helper()
	p.path = append(p.path, what)
	if got != want {
		p.fail(what, got, want)
	}
}

// same holds all that is told against the model.
func (p *pair) same(names ...string) {
	p.t.Helper()
	var want []string
	for _, f := range p.m.files {
		want = append(want, f.name)
	}
	if got := p.s.Names(); !slices.Equal(got, want) {
		p.fail("Names", got, want)
	}
	if p.s.Dead() != p.m.dead() || p.s.Acts() != p.m.acts {
		p.fail("Dead, Acts", []any{p.s.Dead(), p.s.Acts()}, []any{p.m.dead(), p.m.acts})
	}
	for _, name := range append(want, names...) {
		p.sameFile(name)
	}
}

func (p *pair) sameFile(name string) {
	p.t.Helper()
	i := p.m.place(name)
	e := p.m.first(when(i < 0, api.ErrFile))
	var b []byte
	synced := 0
	if e == api.OK {
		for _, x := range p.m.files[i].bytes {
			b = append(b, x.value)
			if x.safe {
				synced++
			}
		}
	}
	if n, ne := p.s.Size(name); n != len(b) || ne != e {
		p.fail("Size "+name, []any{n, ne}, []any{len(b), e})
	}
	if n, ne := p.s.Synced(name); n != synced || ne != e {
		p.fail("Synced "+name, []any{n, ne}, []any{synced, e})
	}
	got, ne := p.s.Read(name)
	if !slices.Equal(got, b) || ne != e {
		p.fail("Read "+name, []any{got, ne}, []any{b, e})
	}
	if e != api.OK && got != nil {
		p.fail("Read "+name, got, nil)
	}
}

// step is a call on both.
type step func(p *pair)

func stepAppend(name string, b ...byte) step {
	return func(p *pair) {
		p.answered("append "+name, p.s.Append(name, b), p.m.append(name, b))
	}
}

func stepSync(name string) step {
	return func(p *pair) { p.answered("sync "+name, p.s.Sync(name), p.m.sync(name)) }
}

func stepTruncate(name string, n int) step {
	return func(p *pair) {
		p.answered("truncate "+name+" "+strconv.Itoa(n), p.s.Truncate(name, n), p.m.truncate(name, n))
	}
}

func stepRename(old, name string) step {
	return func(p *pair) {
		p.answered("rename "+old+" "+name, p.s.Rename(old, name), p.m.rename(old, name))
	}
}

func stepRemove(name string) step {
	return func(p *pair) { p.answered("remove "+name, p.s.Remove(name), p.m.remove(name)) }
}

func stepPower(after int) step {
	return func(p *pair) {
		p.path = append(p.path, "power "+strconv.Itoa(after))
		p.s.Power(after)
		p.m.power(after)
	}
}

func stepCrash(keep ...int) step {
	return func(p *pair) {
		p.path = append(p.path, "crash")
		p.s.Crash(keep)
		p.m.crash(keep)
	}
}

// TestAllShortRuns: P3.1 to P3.5: all runs of up to three of these calls, from a store without files and from two with some.
func TestAllShortRuns(t *testing.T) {
	steps := []step{
		stepAppend("a", 1, 2), stepAppend("a"), stepAppend("b", 3), stepAppend("", 1),
		stepSync("a"), stepSync("c"),
		stepTruncate("a", 1), stepTruncate("a", 0), stepTruncate("a", -1),
		stepRename("a", "b"), stepRename("a", "a"), stepRename("b", "a"), stepRename("a", ""),
		stepRemove("a"), stepRemove("c"),
		stepPower(0), stepPower(1), stepPower(-1),
		stepCrash(), stepCrash(1), stepCrash(-1, 1), stepCrash(9, 0, 9),
	}
	var run func(chosen []step, depth int)
	run = func(chosen []step, depth int) {
		p := newPair(t)
		for _, do := range chosen {
			do(p)
		}
		p.same("a", "b", "c", "")
		if depth == 0 {
			return
		}
		for _, do := range steps {
			run(append(slices.Clip(chosen), do), depth-1)
		}
	}
	run(nil, 3)
	run([]step{stepAppend("a", 7, 8, 9)}, 3)
	run([]step{stepAppend("a", 7, 8, 9), stepSync("a"), stepAppend("a", 4, 5), stepAppend("b", 6, 6)}, 2)
}

// randomStep chooses a call, mostly one that is done.
func randomStep(r *rand.Rand, names []string) step {
	name := names[r.Intn(len(names))]
	switch r.Intn(20) {
	case 0, 1, 2, 3, 4, 5, 6:
		b := make([]byte, r.Intn(6))
		r.Read(b)
		return stepAppend(name, b...)
	case 7, 8, 9:
		return stepSync(name)
	case 10, 11, 12:
		return stepTruncate(name, r.Intn(12)-1)
	case 13, 14:
		return stepRename(name, names[r.Intn(len(names))])
	case 15:
		return stepRemove(name)
	case 16, 17:
		return stepPower(r.Intn(9) - 2)
	}
	keep := make([]int, r.Intn(8))
	for i := range keep {
		keep[i] = []int{-1, 0, 1, 2, 3, 100, math.MaxInt, math.MinInt}[r.Intn(8)]
	}
	return stepCrash(keep...)
}

// TestLongRuns: P3.1 to P3.5: runs of many calls, told after each one of them.
func TestLongRuns(t *testing.T) {
	long := "0123456789012345678901234567890"
	names := []string{"a", "b", "\xff", "ab", "a\x00", "B", long + "1", long + "12", ""}
	for seed := range int64(400) {
		r := rand.New(rand.NewSource(seed))
		p := newPair(t)
		for range 100 {
			randomStep(r, names)(p)
			p.same(names...)
		}
		stepPower(-1)(p)
		p.same(names...)
	}
}

// TestCrowdedRuns: P3.2, P3.4: runs about the greatest number of files.
func TestCrowdedRuns(t *testing.T) {
	var names []string
	for i := range 68 {
		names = append(names, "f"+strconv.Itoa(i))
	}
	for seed := range int64(10) {
		r := rand.New(rand.NewSource(seed))
		p := newPair(t)
		for range 600 {
			if name := names[r.Intn(len(names))]; r.Intn(3) > 0 {
				stepAppend(name, 1)(p)
			} else {
				randomStep(r, names)(p)
			}
		}
		p.same(names...)
	}
}
