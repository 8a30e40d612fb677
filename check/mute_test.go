package check

import (
	"math/rand"
	"testing"

	"tocsin/api"
)

// TestMuteExamples: P11.1: the chapter's.
func TestMuteExamples(t *testing.T) {
	for _, m := range []api.Mute{{From: 540, To: 1020}, {From: 1320, To: 360}, {From: 0, To: 1440}} {
		m.Name, m.Days = "q", [7]bool{true}
		wantMute(t, m, true)
	}
	wantMute(t, aMute(func(m *api.Mute) { m.Days = [7]bool{} }), false)
	for _, m := range []api.Mute{{From: 5, To: 5}, {From: 1440, To: 5}, {From: 0, To: 1441}} {
		m.Name, m.Days = "q", [7]bool{true}
		wantMute(t, m, false)
	}
	wantMute(t, api.Mute{}, false)
}

// TestMuteDays: P11.1: at least one; all that there are.
func TestMuteDays(t *testing.T) {
	for days := range 128 {
		wantMute(t, aMute(func(m *api.Mute) {
			for i := range m.Days {
				m.Days[i] = days>>i&1 == 1
			}
		}), days > 0)
	}
}

// TestMuteNumbers: P11.1: From and To, alone, both, and the same.
func TestMuteNumbers(t *testing.T) {
	for _, from := range numbers {
		for _, to := range numbers {
			may := from >= 0 && from <= 1439 && to >= 1 && to <= 1440 && from != to
			wantMute(t, aMute(func(m *api.Mute) { m.From, m.To = from, to }), may)
		}
	}
	for n := range 1442 {
		wantMute(t, aMute(func(m *api.Mute) { m.From, m.To = n, n }), false)
		wantMute(t, aMute(func(m *api.Mute) { m.From, m.To = n, n+1 }), n <= 1439)
		wantMute(t, aMute(func(m *api.Mute) { m.From, m.To = n, n-1 }), n >= 2 && n <= 1439)
	}
	wantMute(t, aMute(func(m *api.Mute) { m.From, m.To = 1440, 1439 }), false)
	wantMute(t, aMute(func(m *api.Mute) { m.From, m.To = 1, 0 }), false)
}

// TestMuteName: P11.1: a name; `meta` is one.
func TestMuteName(t *testing.T) {
	wantField(t, func(s string, may bool) {
		t.Helper()
		wantMute(t, aMute(func(m *api.Mute) { m.Name = s }), may)
	}, false, true)
}

// TestMuteDrawn: P11.1: mutes, with one fault or several at once, by the words.
func TestMuteDrawn(t *testing.T) {
	r := rand.New(rand.NewSource(4))
	for range 5000 {
		m := someMute(r, pick(r, someNames(r, 8)...))
		wantMute(t, m, true)
		for range 3 {
			m = spoilMute(r, m)
			wantMute(t, m, len(muteFaults(m)) == 0)
		}
	}
}
