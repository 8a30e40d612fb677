package check

import (
	"fmt"
	"math/rand"
	"slices"
	"strings"
	"testing"

	"tocsin/api"
)

// asking is a configuration of a rule for each of these lists of mutes, and of these mutes.
func asking(mutes string, asked ...string) api.Config {
	c := aConfig("", mutes)
	for i, names := range asked {
		c.Rules = append(c.Rules, aRule(func(r *api.Rule) { r.Name, r.Mutes = fmt.Sprint("r", i), strings.Fields(names) }))
	}
	return c
}

// TestConfigExamples: P11.1: the chapter's.
func TestConfigExamples(t *testing.T) {
	wantConfig(t, asking("", "q"), false)
	wantConfig(t, asking("q", "q"), true)
	wantConfig(t, api.Config{Limit: 0}, false)
	wantConfig(t, api.Config{Limit: 1}, true)
	wantConfig(t, api.Config{}, false)
}

// TestConfigNumbers: P11.1: Late and Limit.
func TestConfigNumbers(t *testing.T) {
	for _, n := range numbers {
		for _, c := range []api.Config{{}, aConfig("a", ""), aConfig("a b", "q")} {
			c.Late, c.Limit = n, 1
			wantConfig(t, c, n >= 0 && n <= 100)
			c.Late, c.Limit = 0, n
			wantConfig(t, c, n >= 1 && n <= 1000)
			c.Late, c.Limit = n, n
			wantConfig(t, c, n >= 1 && n <= 100)
		}
	}
	wantConfig(t, api.Config{Late: 100, Limit: 1000}, true)
	wantConfig(t, api.Config{Late: 100, Limit: 1}, true)
}

// TestConfigCount: P11.1: at most eight rules and four mutes.
func TestConfigCount(t *testing.T) {
	for rules := range 12 {
		for mutes := range 8 {
			c := aConfig(strings.Join(strings.Fields("a b c d e f g h i j k l")[:rules], " "), strings.Join(strings.Fields("m n o p q r s t")[:mutes], " "))
			wantConfig(t, c, rules <= 8 && mutes <= 4)
			for i := range c.Rules {
				c.Rules[i].Mutes = []string{"m"}
			}
			wantConfig(t, c, rules <= 8 && mutes <= 4 && (mutes > 0 || rules == 0))
		}
	}
	wantConfig(t, api.Config{Limit: 1, Rules: []api.Rule{}, Mutes: []api.Mute{}}, true)
}

// TestConfigParts: P11.1: one that may not be, at each place, in each way.
func TestConfigParts(t *testing.T) {
	badRules := []func(r *api.Rule){
		func(r *api.Rule) { r.Name = "" },
		func(r *api.Rule) { r.Name = "A" },
		func(r *api.Rule) { r.By = "1" },
		func(r *api.Rule) { r.Nodes = nil },
		func(r *api.Rule) { r.Nodes[0].Window = 1001 },
		func(r *api.Rule) { r.For = -1 },
		func(r *api.Rule) { r.Every = 101 },
		func(r *api.Rule) { r.Repeat = 10001 },
		func(r *api.Rule) { r.Mutes = []string{"m", "m"} },
		func(r *api.Rule) { r.Route = "meta" },
	}
	badMutes := []func(m *api.Mute){
		func(m *api.Mute) { m.Name = "" },
		func(m *api.Mute) { m.Name = "m!" },
		func(m *api.Mute) { m.Days = [7]bool{} },
		func(m *api.Mute) { m.From = 1440 },
		func(m *api.Mute) { m.To = 1441 },
		func(m *api.Mute) { m.To = m.From },
	}
	for n := 1; n <= 8; n++ {
		for i := range n {
			for _, change := range badRules {
				c := aConfig(strings.Join(strings.Fields("a b c d e f g h")[:n], " "), "m")
				wantConfig(t, c, true)
				change(&c.Rules[i])
				wantConfig(t, c, false)
			}
		}
	}
	for n := 1; n <= 4; n++ {
		for i := range n {
			for _, change := range badMutes {
				c := aConfig("a b", strings.Join(strings.Fields("m n o p")[:n], " "))
				wantConfig(t, c, true)
				change(&c.Mutes[i])
				wantConfig(t, c, false)
			}
		}
	}
}

// TestConfigTwice: P11.1: no two rules, and no two mutes, of one name, wherever they stand, and however else they differ; a rule and a mute may have one.
func TestConfigTwice(t *testing.T) {
	for n := 2; n <= 8; n++ {
		for j := range n {
			for i := range j {
				rules := strings.Fields("a b c d e f g h")[:n]
				rules[j] = rules[i]
				c := aConfig(strings.Join(rules, " "), "q")
				wantConfig(t, c, false)
				c.Rules[j].For, c.Rules[j].By, c.Rules[j].Route = 7, "", "others"
				wantConfig(t, c, false)
				c.Rules[j].Name += "x"
				wantConfig(t, c, true)
			}
		}
	}
	for n := 2; n <= 4; n++ {
		for j := range n {
			for i := range j {
				mutes := strings.Fields("m n o p")[:n]
				mutes[j] = mutes[i]
				c := aConfig("a b", strings.Join(mutes, " "))
				wantConfig(t, c, false)
				c.Mutes[j].From, c.Mutes[j].Days = 7, [7]bool{6: true}
				wantConfig(t, c, false)
				c.Mutes[j].Name += "x"
				wantConfig(t, c, true)
			}
		}
	}
	wantConfig(t, aConfig("a", "a"), true)
	wantConfig(t, aConfig("a b c d", "d c b a"), true)
	wantConfig(t, aConfig("meta", "meta"), true)
	wantConfig(t, aConfig("a aa aaa a_ a1", "a aa a_ a1"), true)
	c := aConfig("a", "b")
	c.Rules[0].By, c.Rules[0].Route, c.Rules[0].Mutes = "a", "a", []string{"b"}
	wantConfig(t, c, true)
}

// TestConfigNamed: P11.1: each mute that a rule names is there.
func TestConfigNamed(t *testing.T) {
	for _, c := range []api.Config{
		asking("", ""), asking("q", ""), asking("q", "q"), asking("q r", "q"), asking("q r", "r"), asking("q r", "q", "r"), asking("q", "q", "q"), asking("q", "", "q", ""), asking("q r s t", "t s r q"), asking("q r s t", "q r s t", "t s r q", "", "r"), asking("q qq", "qq"), asking("qq q", "q"), asking("q qq", "q qq"), asking("meta", "meta"),
		asking("q", "q", "q", "q", "q", "q", "q", "q", "q"),
	} {
		wantConfig(t, c, true)
	}
	for _, c := range []api.Config{
		asking("", "q"), asking("r", "q"), asking("r s t u", "q"), asking("qq", "q"), asking("q", "qq"), asking("q1 q_", "q"), asking("xq", "q"), asking("q", "xq"), asking("q", "q r"), asking("q", "r q"), asking("q r s", "q r s t"), asking("q r s", "q r t s"), asking("q r s", "t q r s"), asking("q", "q", "r"), asking("q", "r", "q"), asking("q", "q", "r", "q"), asking("q", "", "", "", "", "", "", "", "r"), asking("q", "r0"), asking("", "r0"), asking("", "r1", "r0"), asking("q", "host"), asking("q", "ops"),
		asking("q", "q", "q", "q", "q", "q", "q", "q", "q r"),
	} {
		wantConfig(t, c, false)
	}
	for rule := range 8 {
		for place := range 4 {
			c := asking("q r s t", "q r s t", "q r s t", "q r s t", "q r s t", "q r s t", "q r s t", "q r s t", "q r s t")
			wantConfig(t, c, true)
			c.Rules[rule].Mutes[place] = "u"
			wantConfig(t, c, false)
			c.Mutes[place].Name = "u"
			wantConfig(t, c, false)
		}
	}
}

// TestConfigSeveral: P11.1: several faults at once; none makes up for another.
func TestConfigSeveral(t *testing.T) {
	faults := []func(c *api.Config){
		func(c *api.Config) { c.Late = -1 },
		func(c *api.Config) { c.Late = 101 },
		func(c *api.Config) { c.Limit = 0 },
		func(c *api.Config) { c.Limit = 1001 },
		func(c *api.Config) { c.Rules[0].For = 1001 },
		func(c *api.Config) { c.Rules[1].Route = "meta" },
		func(c *api.Config) { c.Rules[0].Name = c.Rules[1].Name },
		func(c *api.Config) { c.Rules[1].Mutes = []string{"none"} },
		func(c *api.Config) { c.Rules = append(c.Rules, aConfig("f g h i j k l", "").Rules...) },
		func(c *api.Config) { c.Mutes[0].To = 0 },
		func(c *api.Config) { c.Mutes[0].Name = c.Mutes[1].Name },
		func(c *api.Config) { c.Mutes = append(c.Mutes, aConfig("", "r s t").Mutes...) },
	}
	for some := range 1 << len(faults) {
		c := aConfig("a b", "m n")
		for i, change := range faults {
			if some>>i&1 == 1 {
				change(&c)
			}
		}
		wantConfig(t, c, some == 0)
	}
}

// TestConfigDrawn: P11.1: configurations, with one fault or several at once, by the words.
func TestConfigDrawn(t *testing.T) {
	r := rand.New(rand.NewSource(5))
	for range 1000 {
		c := someConfig(r)
		wantConfig(t, c, true)
		for range 3 {
			c = spoilConfig(r, c)
			wantConfig(t, c, len(configFaults(c)) == 0)
		}
	}
}

// TestMany: P0.1: however much is handed in, the call ends.
func TestMany(t *testing.T) {
	names := make([]string, 1<<18)
	for i := range names {
		names[i] = fmt.Sprint("n", i)
	}
	for _, l := range [][]string{names, slices.Repeat([]string{"n"}, 1<<18), make([]string, 1<<18)} {
		many := aRule(func(r *api.Rule) { r.Mutes = l })
		holds(t, "very many names of mutes", Rule(many) == api.ErrCheck)
		c := aConfig("", "n")
		c.Rules = slices.Repeat([]api.Rule{many}, 1<<10)
		holds(t, "very many rules with very many mutes", Config(c) == api.ErrCheck)
	}
	rules, mutes := make([]api.Rule, 1<<16), make([]api.Mute, 1<<16)
	for i := range rules {
		rules[i], mutes[i] = aRule(), aMute()
		rules[i].Name, mutes[i].Name = names[i], names[i]
		rules[i].Mutes = names[len(mutes)-4 : len(mutes)]
	}
	holds(t, "very many rules", Config(api.Config{Limit: 1, Rules: rules}) == api.ErrCheck)
	holds(t, "very many mutes", Config(api.Config{Limit: 1, Mutes: mutes}) == api.ErrCheck)
	holds(t, "very many of both", Config(api.Config{Limit: 1, Rules: rules, Mutes: mutes}) == api.ErrCheck)
	nodes := slices.Repeat(nodesOf("count({}[5]) > 3"), 1<<18)
	holds(t, "very many nodes", Rule(aRule(func(r *api.Rule) { r.Nodes = nodes })) == api.ErrCheck && Window(nodes) == 5)
	long := strings.Repeat("n", 1<<20)
	holds(t, "a very long name", Rule(aRule(func(r *api.Rule) { r.Name = long })) == api.ErrCheck && Mute(aMute(func(m *api.Mute) { m.Name = long })) == api.ErrCheck)
}
