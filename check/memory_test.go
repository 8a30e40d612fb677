package check

import (
	"math/rand"
	"reflect"
	"slices"
	"strings"
	"testing"

	"tocsin/api"
)

// roomy is a list with that behind it as spare room.
func roomy[T any](l []T, behind ...T) []T {
	return slices.Concat(l, behind)[:len(l)]
}

// spare is the spare room behind a list.
func spare[T any](l []T, n int) []T {
	return l[len(l) : len(l)+n]
}

// TestSpareRoom: P0.4: the spare room behind each list that is handed in stays as it was, and isn't read.
func TestSpareRoom(t *testing.T) {
	r := rand.New(rand.NewSource(11))
	badRule, badMute, badNode := aRule(func(r *api.Rule) { r.Name = "A" }), aMute(func(m *api.Mute) { m.Name = "A" }), api.Node{Kind: 9, Window: 1001}
	for range 500 {
		c := someConfig(r)
		wrong := r.Intn(2) == 0
		if wrong {
			c = spoilConfig(r, c)
		}
		for i, one := range c.Rules {
			c.Rules[i].Mutes = roomy(one.Mutes, append(slices.Clone(one.Mutes), "A")...)
			c.Rules[i].Nodes = roomy(one.Nodes, badNode, api.Node{Window: 1000})
		}
		c.Rules = roomy(c.Rules, append(slices.Clone(c.Rules), badRule)...)
		c.Mutes = roomy(c.Mutes, append(slices.Clone(c.Mutes), badMute)...)
		wantConfig(t, c, len(configFaults(c)) == 0)
		holds(t, "behind the rules", reflect.DeepEqual(spare(c.Rules, len(c.Rules)+1), append(slices.Clone(c.Rules), badRule)))
		holds(t, "behind the mutes", reflect.DeepEqual(spare(c.Mutes, len(c.Mutes)+1), append(slices.Clone(c.Mutes), badMute)))
		for _, one := range c.Rules {
			wantTop(t, one.Nodes, wantWindow(one.Nodes))
			holds(t, "behind the names of mutes", slices.Equal(spare(one.Mutes, len(one.Mutes)+1), append(slices.Clone(one.Mutes), "A")))
			holds(t, "behind the nodes", reflect.DeepEqual(spare(one.Nodes, 2), []api.Node{badNode, {Window: 1000}}))
		}
	}
}

// TestPieces: P0.4: what stands ahead of a list and behind it isn't read: a piece of a greater one is held as it is.
func TestPieces(t *testing.T) {
	bad := aConfig("A A", "B B")
	good := aConfig("a b", "q r")
	c := api.Config{Limit: 1, Rules: slices.Concat(bad.Rules, good.Rules, bad.Rules), Mutes: slices.Concat(bad.Mutes, good.Mutes, bad.Mutes)}
	wantConfig(t, c, false)
	c.Rules, c.Mutes = c.Rules[2:4], c.Mutes[2:4]
	wantConfig(t, c, true)
	one := aRule(func(r *api.Rule) { r.Mutes = strings.Fields("x x q r q A")[2:4] })
	wantRule(t, one, true)
	nodes := compared(9, 1, 2, 9)
	wantTop(t, nodes[1:3], 2)
}

// TestShared: P0.4: lists that share their memory are held one by one.
func TestShared(t *testing.T) {
	c := asking("q r", "q r", "q r", "q r")
	for i := range c.Rules {
		c.Rules[i].Mutes, c.Rules[i].Nodes = c.Rules[0].Mutes, c.Rules[0].Nodes
	}
	wantConfig(t, c, true)
	c.Rules[1].Mutes[1] = "s"
	wantConfig(t, c, false)
	c.Mutes[1].Name = "s"
	wantConfig(t, c, true)
}

// TestNotKept: P0.4: nothing that was handed in is kept: it is looked at anew each time.
func TestNotKept(t *testing.T) {
	c := asking("q", "q", "")
	for range 3 {
		wantConfig(t, c, true)
		c.Rules[0].Nodes[0].Window = 1001
		wantConfig(t, c, false)
		wantTop(t, c.Rules[0].Nodes, 1001)
		c.Rules[0].Nodes[0].Window = 9
		wantConfig(t, c, true)
		wantTop(t, c.Rules[0].Nodes, 9)
		c.Rules[0].Mutes[0] = "r"
		wantConfig(t, c, false)
		wantRule(t, c.Rules[0], true)
		c.Rules[0].Mutes[0] = "q"
		c.Mutes[0].Days = [7]bool{}
		wantConfig(t, c, false)
		wantMute(t, c.Mutes[0], false)
		c.Mutes[0].Days[6] = true
		wantMute(t, c.Mutes[0], true)
		c.Rules[1].Name = "r0"
		wantConfig(t, c, false)
		c.Rules[1].Name = "r1"
	}
}

// TestParallel: P0.1: calls at one time tell what each one would alone.
func TestParallel(t *testing.T) {
	shared := someConfig(rand.New(rand.NewSource(12)))
	done := make(chan bool)
	for i := range 8 {
		go func() {
			r := rand.New(rand.NewSource(int64(i)))
			ok := true
			for range 50 {
				c := spoilConfig(r, someConfig(r))
				ok = ok && Config(shared) == api.OK && Config(c) == errno(len(configFaults(c)) == 0)
				for _, one := range shared.Rules {
					ok = ok && Rule(one) == api.OK && Window(one.Nodes) == wantWindow(one.Nodes)
				}
			}
			done <- ok
		}()
	}
	for range 8 {
		holds(t, "at one time", <-done)
	}
}
