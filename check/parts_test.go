package check

import (
	"math/rand"
	"slices"
	"testing"

	"tocsin/api"
)

// orders goes over each order of a list; it is as it was behind the last one.
func orders[T any](l []T, n int, each func()) {
	if n <= 1 {
		each()
		return
	}
	for i := range n {
		l[i], l[n-1] = l[n-1], l[i]
		orders(l, n-1, each)
		l[i], l[n-1] = l[n-1], l[i]
	}
}

// TestParts: P11.3: of a configuration that may be each part may be.
func TestParts(t *testing.T) {
	r := rand.New(rand.NewSource(7))
	for range 500 {
		c := someConfig(r)
		for range 4 {
			if Config(c) == api.OK {
				for _, one := range c.Rules {
					holds(t, "a rule of it", Rule(one) == api.OK && Window(one.Nodes) > 0)
				}
				for _, one := range c.Mutes {
					holds(t, "a mute of it", Mute(one) == api.OK)
				}
			}
			c = spoilConfig(r, c)
		}
	}
}

// TestWithout: P11.3: without one of its rules, or any of them, a configuration may be still; not so without a mute that a rule names.
func TestWithout(t *testing.T) {
	r := rand.New(rand.NewSource(8))
	for range 500 {
		c := someConfig(r)
		for i := range c.Rules {
			less := copied(c)
			less.Rules = slices.Delete(less.Rules, i, i+1)
			wantConfig(t, less, true)
		}
		for i, mute := range c.Mutes {
			less := copied(c)
			less.Mutes = slices.Delete(less.Mutes, i, i+1)
			asked := slices.ContainsFunc(c.Rules, func(r api.Rule) bool { return slices.Contains(r.Mutes, mute.Name) })
			wantConfig(t, less, !asked)
		}
		for len(c.Rules) > 0 {
			i := r.Intn(len(c.Rules))
			c.Rules = slices.Delete(c.Rules, i, i+1)
			wantConfig(t, c, true)
		}
	}
}

// TestOrders: P11.3: with the rules, the mutes, and the mutes that a rule names, in each other order.
func TestOrders(t *testing.T) {
	r := rand.New(rand.NewSource(9))
	full := false
	for range 60 {
		c := someConfig(r)
		if len(c.Rules) > 5 && (full || len(c.Rules) < 8) {
			continue
		}
		full = full || len(c.Rules) == 8
		ordered := copied(c)
		orders(ordered.Rules, len(c.Rules), func() {
			holds(t, "rules in another order", Config(ordered) == api.OK)
		})
		orders(ordered.Mutes, len(c.Mutes), func() {
			slices.Reverse(ordered.Rules)
			holds(t, "mutes in another order", Config(ordered) == api.OK)
		})
		for i := range ordered.Rules {
			orders(ordered.Rules[i].Mutes, len(ordered.Rules[i].Mutes), func() {
				holds(t, "names of mutes in another order", Config(ordered) == api.OK)
			})
		}
	}
	holds(t, "one of eight rules was drawn", full)
}

// TestOrdersOfOthers: P11.3: one that may not be, may not be in another order either.
func TestOrdersOfOthers(t *testing.T) {
	r := rand.New(rand.NewSource(10))
	for range 500 {
		c := spoilConfig(r, spoilConfig(r, someConfig(r)))
		want := Config(c)
		for range 5 {
			r.Shuffle(len(c.Rules), func(i, j int) { c.Rules[i], c.Rules[j] = c.Rules[j], c.Rules[i] })
			r.Shuffle(len(c.Mutes), func(i, j int) { c.Mutes[i], c.Mutes[j] = c.Mutes[j], c.Mutes[i] })
			wantConfig(t, c, want == api.OK)
		}
	}
}
