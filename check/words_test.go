package check

import (
	"math/rand"
	"reflect"
	"regexp"
	"slices"
	"strings"
	"testing"

	"tocsin/api"
	"tocsin/expr"
	"tocsin/fixed"
	"tocsin/lex"
	"tocsin/match"
)

// The words of the chapter once more: what is wrong about a rule, a mute, a configuration is told in a list; nodes are right, if the condition that they say is read as they.
var nameForm = regexp.MustCompile(`\A[a-z][a-z0-9_]{0,15}\z`)

// faults is what is wrong.
type faults []string

func (f *faults) unless(ok bool, what string) {
	if !ok {
		*f = append(*f, what)
	}
}

func ruleFaults(r api.Rule) faults {
	var f faults
	f.unless(isName(r.Name), "Name")
	f.unless(r.By == "" || isName(r.By), "By")
	f.unless(isRight(r.Nodes), "Nodes")
	f.unless(r.For >= 0 && r.For <= 1000, "For")
	f.unless(r.Every >= 1 && r.Every <= 100, "Every")
	f.unless(r.Repeat >= 1 && r.Repeat <= 10000, "Repeat")
	f.unless(len(r.Mutes) <= 4, "Mutes: how many")
	for _, one := range r.Mutes {
		f.unless(isName(one), "Mutes: a name")
	}
	f.unless(different(r.Mutes), "Mutes: twice")
	f.unless(isName(r.Route) && r.Route != "meta", "Route")
	return f
}

func muteFaults(m api.Mute) faults {
	var f faults
	days := 0
	for _, so := range m.Days {
		if so {
			days++
		}
	}
	f.unless(isName(m.Name), "Name")
	f.unless(days > 0, "Days")
	f.unless(m.From >= 0 && m.From <= 1439, "From")
	f.unless(m.To >= 1 && m.To <= 1440, "To")
	f.unless(m.From != m.To, "From and To")
	return f
}

func configFaults(c api.Config) faults {
	var f faults
	var rules, mutes, asked []string
	for _, r := range c.Rules {
		rules, asked = append(rules, r.Name), append(asked, r.Mutes...)
		own := ruleFaults(r)
		f.unless(len(own) == 0, "a rule: "+strings.Join(own, ", "))
	}
	for _, m := range c.Mutes {
		mutes = append(mutes, m.Name)
		own := muteFaults(m)
		f.unless(len(own) == 0, "a mute: "+strings.Join(own, ", "))
	}
	for _, one := range asked {
		f.unless(slices.Contains(mutes, one), "a mute that isn't there")
	}
	f.unless(len(rules) <= 8, "Rules: how many")
	f.unless(len(mutes) <= 4, "Mutes: how many")
	f.unless(different(rules), "Rules: twice")
	f.unless(different(mutes), "Mutes: twice")
	f.unless(c.Late >= 0 && c.Late <= 100, "Late")
	f.unless(c.Limit >= 1 && c.Limit <= 1000, "Limit")
	return f
}

// wantWindow is the last one of the comparisons' windows, and 0, in their order.
func wantWindow(nodes []api.Node) int {
	l := []int{0}
	for _, n := range nodes {
		if n.Kind == 0 {
			l = append(l, n.Window)
		}
	}
	slices.Sort(l)
	return l[len(l)-1]
}

func isName(s string) bool { return nameForm.MatchString(s) }

// different says whether no two are the same: in order, none is left out where the same ones are.
func different(names []string) bool {
	l := slices.Clone(names)
	slices.Sort(l)
	return len(slices.Compact(l)) == len(names)
}

func isRight(nodes []api.Node) bool {
	if len(nodes) > 31 {
		return false
	}
	room := len(nodes)
	l := condition(nodes, len(nodes)-1, &room)
	read, next, e := expr.Read(l, 0)
	return e == api.OK && next == len(l) && sameNodes(read, nodes)
}

// condition is the tokens of the node of that number, of at most so many nodes; all that is divided stands in parentheses.
func condition(nodes []api.Node, at int, room *int) []lex.Token {
	*room--
	if at < 0 || at >= len(nodes) || *room < 0 {
		return nil
	}
	n := nodes[at]
	open, shut := sign("("), sign(")")
	switch n.Kind {
	case 0:
		return comparison(n)
	case 1:
		return slices.Concat(open, condition(nodes, n.Left, room), word("and"), condition(nodes, n.Right, room), shut)
	case 2:
		return slices.Concat(open, condition(nodes, n.Left, room), word("or"), condition(nodes, n.Right, room), shut)
	case 3:
		return slices.Concat(word("not"), condition(nodes, n.Left, room))
	}
	return nil
}

func comparison(n api.Node) []lex.Token {
	aggregates := []string{"count", "sum", "min", "max", "mean", "last"}
	compares := []string{"<", "<=", ">", ">=", "==", "!="}
	if int(n.Agg) >= len(aggregates) || int(n.Compare) >= len(compares) || n.Window < 0 {
		return nil
	}
	l, _, _ := lex.All(aggregates[n.Agg] + "(" + match.Print(n.Select) + "[" + fixed.Print(int64(n.Window)*1000) + "])" + compares[n.Compare] + fixed.Print(n.Value))
	return l
}

func sign(s string) []lex.Token { return []lex.Token{{Kind: lex.TSign, Text: s}} }

func word(s string) []lex.Token { return []lex.Token{{Kind: lex.TWord, Text: s}} }

// sameNodes says whether nodes are the same; a nil Select is an empty one.
func sameNodes(a, b []api.Node) bool {
	return slices.EqualFunc(a, b, func(x, y api.Node) bool {
		selects := slices.Equal(x.Select, y.Select)
		x.Select, y.Select = nil, nil
		return selects && reflect.DeepEqual(x, y)
	})
}

// nodesOf are those of a condition's text.
func nodesOf(text string) []api.Node {
	nodes, e := expr.Parse(text)
	if e != api.OK {
		panic(text)
	}
	return nodes
}

// aRule is the chapter's first example, with something about it changed.
func aRule(change ...func(r *api.Rule)) api.Rule {
	r := api.Rule{Name: "a", By: "host", Nodes: nodesOf("count({}[5]) > 3"), Every: 1, Repeat: 1, Route: "ops"}
	for _, do := range change {
		do(&r)
	}
	return r
}

// aMute is the chapter's: Mondays, 540 to 1020.
func aMute(change ...func(m *api.Mute)) api.Mute {
	m := api.Mute{Name: "q", Days: [7]bool{true}, From: 540, To: 1020}
	for _, do := range change {
		do(&m)
	}
	return m
}

// aConfig has a rule of each of these names, and a mute.
func aConfig(rules, mutes string) api.Config {
	c := api.Config{Limit: 1}
	for _, name := range strings.Fields(rules) {
		c.Rules = append(c.Rules, aRule(func(r *api.Rule) { r.Name = name }))
	}
	for _, name := range strings.Fields(mutes) {
		c.Mutes = append(c.Mutes, aMute(func(m *api.Mute) { m.Name = name }))
	}
	return c
}

// copied is a configuration with lists of its own.
func copied(c api.Config) api.Config {
	c.Rules, c.Mutes = slices.Clone(c.Rules), slices.Clone(c.Mutes)
	for i, r := range c.Rules {
		c.Rules[i] = copiedRule(r)
	}
	return c
}

func copiedRule(r api.Rule) api.Rule {
	r.Mutes = slices.Clone(r.Mutes)
	r.Nodes = copiedNodes(r.Nodes)
	return r
}

func copiedNodes(nodes []api.Node) []api.Node {
	l := slices.Clone(nodes)
	for i := range l {
		l[i].Select = slices.Clone(l[i].Select)
	}
	return l
}

func holds(t *testing.T, what string, ok bool) {
	t.Helper()
	if !ok {
		t.Error(what)
	}
}

// errno is what is told of what may be, or not.
func errno(may bool) api.Errno {
	if may {
		return 0
	}
	return 110
}

// wantRule fails, unless Rule, and the words, say so; and a configuration with that rule and its mutes.
func wantRule(t *testing.T, r api.Rule, may bool) {
	t.Helper()
	before := copiedRule(r)
	if got, f := Rule(r), ruleFaults(r); got != errno(may) || (len(f) == 0) != may {
		t.Errorf("Rule of %#v: %d, faults %q", r, got, f)
	}
	if may {
		c := aConfig("", strings.Join(r.Mutes, " "))
		c.Rules = []api.Rule{r}
		wantConfig(t, c, true)
	} else if len(r.Mutes) < 100 {
		c := aConfig("y1 y2", "")
		for i, name := range r.Mutes {
			if isName(name) && !slices.Contains(r.Mutes[:i], name) && len(c.Mutes) < 4 {
				c.Mutes = append(c.Mutes, aMute(func(m *api.Mute) { m.Name = name }))
			}
		}
		c.Rules = slices.Insert(c.Rules, len(r.Nodes)%3, r)
		wantConfig(t, c, false)
	}
	holds(t, "the rule stays", reflect.DeepEqual(r, before))
}

// wantMute fails, unless Mute, and the words, say so; and a configuration with that mute.
func wantMute(t *testing.T, m api.Mute, may bool) {
	t.Helper()
	if got, f := Mute(m), muteFaults(m); got != errno(may) || (len(f) == 0) != may {
		t.Errorf("Mute of %#v: %d, faults %q", m, got, f)
	}
	c := aConfig("a b", "x1 x2")
	c.Mutes = slices.Insert(c.Mutes, max(m.From, 0)%3, m)
	wantConfig(t, c, may)
}

// wantConfig fails, unless Config, and the words, say so.
func wantConfig(t *testing.T, c api.Config, may bool) {
	t.Helper()
	before := copied(c)
	if got, f := Config(c), configFaults(c); got != errno(may) || (len(f) == 0) != may {
		t.Errorf("Config of %#v: %d, faults %q", c, got, f)
	}
	holds(t, "the configuration stays", reflect.DeepEqual(c, before))
}

// wantTop fails, unless Window, and the words, tell that number.
func wantTop(t *testing.T, nodes []api.Node, want int) {
	t.Helper()
	before := copiedNodes(nodes)
	if got := Window(nodes); got != want || wantWindow(nodes) != want {
		t.Errorf("Window of %#v: %d, want %d", nodes, got, want)
	}
	holds(t, "the nodes stay", reflect.DeepEqual(nodes, before))
}

// pick draws one of these.
func pick[T any](r *rand.Rand, l ...T) T {
	return l[r.Intn(len(l))]
}

// someNodes draws right nodes, so many.
func someNodes(r *rand.Rand, n int) []api.Node {
	switch {
	case n == 1:
		return []api.Node{someComparison(r)}
	case n == 2 || r.Intn(4) == 0:
		return append(someNodes(r, n-1), api.Node{Kind: api.NNot, Left: n - 2})
	}
	ahead := r.Intn(n-2) + 1
	l := someNodes(r, ahead)
	for _, one := range someNodes(r, n-1-ahead) {
		if one.Kind != api.NCompare {
			one.Left += ahead
		}
		if one.Kind == api.NAnd || one.Kind == api.NOr {
			one.Right += ahead
		}
		l = append(l, one)
	}
	return append(l, api.Node{Kind: pick(r, api.NAnd, api.NOr), Left: ahead - 1, Right: n - 2})
}

func someComparison(r *rand.Rand) api.Node {
	n := api.Node{Agg: uint8(r.Intn(6)), Window: pick(r, 1, 2, 5, 999, 1000, r.Intn(1000)+1), Compare: uint8(r.Intn(6)), Value: pick(r, 0, 1, -1500, 1<<62-1, -1<<62+1, r.Int63n(1e6))}
	for range r.Intn(7) {
		n.Select = append(n.Select, api.Matcher{Name: pick(r, "a", "b_9", "meta"), Op: uint8(r.Intn(3)), Value: pick(r, "", "x", `"\`, strings.Repeat("v", 32))})
	}
	return n
}

// someNames draws different names, so many.
func someNames(r *rand.Rand, n int) []string {
	l := []string{"a", "b", "a_", "a1", "aa", "b2", "meta", "met", "metal", "q", "ops", "z_9", "and", "rule", strings.Repeat("n", 15), strings.Repeat("n", 16)}
	r.Shuffle(len(l), func(i, j int) { l[i], l[j] = l[j], l[i] })
	return l[:n]
}

// someRule draws a rule that may be, with some of these mutes.
func someRule(r *rand.Rand, name string, mutes []string) api.Rule {
	one := api.Rule{Name: name, By: pick(r, "", "a", "host", "meta", strings.Repeat("b", 16)), Nodes: someNodes(r, pick(r, 1, 1, 1, 2, 3, 5, r.Intn(31)+1)), For: pick(r, 0, 1, 999, 1000, r.Intn(1001)), Every: pick(r, 1, 2, 99, 100, r.Intn(100)+1), Repeat: pick(r, 1, 2, 9999, 10000, r.Intn(10000)+1)}
	for _, i := range r.Perm(len(mutes))[:r.Intn(len(mutes)+1)] {
		one.Mutes = append(one.Mutes, mutes[i])
	}
	one.Route = pick(r, "a", "ops", "met", "metal", "meta_", "met_a", strings.Repeat("r", 16))
	return one
}

// someMute draws a mute that may be.
func someMute(r *rand.Rand, name string) api.Mute {
	m := api.Mute{Name: name, From: pick(r, 0, 1, 1438, 1439, r.Intn(1440)), To: pick(r, 1, 2, 1439, 1440, r.Intn(1440)+1)}
	for i := range m.Days {
		m.Days[i] = r.Intn(2) == 0
	}
	m.Days[r.Intn(7)] = true
	if m.From == m.To {
		m.From--
	}
	return m
}

// someConfig draws a configuration that may be.
func someConfig(r *rand.Rand) api.Config {
	c := api.Config{Late: pick(r, 0, 1, 99, 100, r.Intn(101)), Limit: pick(r, 1, 2, 999, 1000, r.Intn(1000)+1)}
	mutes := someNames(r, r.Intn(5))
	for _, name := range mutes {
		c.Mutes = append(c.Mutes, someMute(r, name))
	}
	for _, name := range someNames(r, r.Intn(9)) {
		c.Rules = append(c.Rules, someRule(r, name, mutes))
	}
	return c
}

// notNames: each is no name; the empty one is not among them.
var notNames = []string{"A", "1", "_", "1a", "_a", "-", "a-", "a b", "a ", " a", "aA", "a.", "a,b", "é", "aé", "a\x00", "\x00", "a\n", "\na", "a\xff", "a`", "a{", "a/", "a:", "META", "meta ", " meta", strings.Repeat("n", 17), strings.Repeat("n", 1000)}

// spoilRule changes something of a rule: most may not be behind it.
func spoilRule(r *rand.Rand, one api.Rule) api.Rule {
	one = copiedRule(one)
	number := pick(r, -1<<63, -1, 0, 1, 100, 101, 1000, 1001, 10000, 10001, 1<<63-1)
	switch r.Intn(8) {
	case 0:
		one.Name = pick(r, append(notNames, "", "meta")...)
	case 1:
		one.By = pick(r, append(notNames, "")...)
	case 2:
		one.Route = pick(r, append(notNames, "", "meta")...)
	case 3:
		one.For = number
	case 4:
		one.Every = number
	case 5:
		one.Repeat = number
	case 6:
		one.Mutes = slices.Insert(one.Mutes, r.Intn(len(one.Mutes)+1), pick(r, append(slices.Clone(one.Mutes), "a", "q", "met", "", "Q")...))
	default:
		one.Nodes = spoilNodes(r, one.Nodes)
	}
	return one
}

// spoilNodes changes something of nodes: most are not right behind it.
func spoilNodes(r *rand.Rand, nodes []api.Node) []api.Node {
	l := copiedNodes(nodes)
	if len(l) == 0 {
		return make([]api.Node, r.Intn(3))
	}
	i := r.Intn(len(l))
	n := &l[i]
	number := pick(r, -1, 0, 1, i-2, i-1, i, i+1, len(l), 1000, 1001, 1<<62)
	switch r.Intn(9) {
	case 0:
		n.Kind = uint8(r.Intn(6))
	case 1:
		n.Left = number
	case 2:
		n.Right = number
	case 3:
		n.Agg = uint8(r.Intn(8))
	case 4:
		n.Compare = uint8(r.Intn(8))
	case 5:
		n.Window = number
	case 6:
		n.Value = pick[int64](r, 0, 1<<62-1, 1<<62, -1<<62, -1<<63)
	case 7:
		n.Select = slices.Repeat([]api.Matcher{{Name: pick(r, "a", "", "A"), Op: uint8(r.Intn(4)), Value: "x"}}, r.Intn(8))
	case 8:
		return slices.Delete(l, i, i+1)
	}
	return l
}

// spoilMute changes something of a mute: most may not be behind it.
func spoilMute(r *rand.Rand, m api.Mute) api.Mute {
	number := pick(r, -1<<63, -1, 0, 1, 1439, 1440, 1441, 1<<63-1)
	switch r.Intn(5) {
	case 0:
		m.Name = pick(r, append(notNames, "", "meta")...)
	case 1:
		m.Days = [7]bool{}
	case 2:
		m.From = number
	case 3:
		m.To = number
	case 4:
		m.From = m.To
	}
	return m
}

// spoilConfig changes something of a configuration: most may not be behind it.
func spoilConfig(r *rand.Rand, c api.Config) api.Config {
	c = copied(c)
	number := pick(r, -1<<63, -1, 0, 1, 100, 101, 1000, 1001, 1<<63-1)
	rules, mutes := len(c.Rules), len(c.Mutes)
	switch k := r.Intn(8); {
	case k == 0:
		c.Late = number
	case k == 1:
		c.Limit = number
	case k == 2 && rules > 0:
		i := r.Intn(rules)
		c.Rules[i] = spoilRule(r, c.Rules[i])
	case k == 3 && mutes > 0:
		i := r.Intn(mutes)
		c.Mutes[i] = spoilMute(r, c.Mutes[i])
	case k == 4 && rules > 0:
		c.Rules[r.Intn(rules)].Name = pick(r, c.Rules...).Name
	case k == 5 && mutes > 0:
		c.Mutes[r.Intn(mutes)].Name = pick(r, c.Mutes...).Name
	case k == 6 && mutes > 0:
		i := r.Intn(mutes)
		c.Mutes = slices.Delete(c.Mutes, i, i+1)
	default:
		c.Rules = slices.Insert(c.Rules, r.Intn(rules+1), someRule(r, pick(r, someNames(r, 16)...), nil))
	}
	return c
}

// TestDrawn: what is drawn is as it is said, and enough of each kind, so that the tests stand on something.
func TestDrawn(t *testing.T) {
	r := rand.New(rand.NewSource(1))
	rules, mutes, right, configs := 0, 0, 0, 0
	for i := range 1000 {
		nodes := someNodes(r, i%31+1)
		holds(t, "nodes", len(nodes) == i%31+1 && isRight(nodes))
		if isRight(spoilNodes(r, nodes)) {
			right++
		}
		rule, mute, c := someRule(r, "a", someNames(r, 4)), someMute(r, "q"), someConfig(r)
		holds(t, "may be", len(ruleFaults(rule)) == 0 && len(muteFaults(mute)) == 0 && len(configFaults(c)) == 0)
		if len(ruleFaults(spoilRule(r, rule))) == 0 {
			rules++
		}
		if len(muteFaults(spoilMute(r, mute))) == 0 {
			mutes++
		}
		if len(configFaults(spoilConfig(r, c))) == 0 {
			configs++
		}
	}
	for what, n := range map[string]int{"rules": rules, "mutes": mutes, "nodes": right, "configurations": configs} {
		t.Logf("%s: %d of 1000 may be still", what, n)
		holds(t, what, n > 30 && n < 700)
	}
	for _, s := range notNames {
		holds(t, s, !isName(s))
	}
}
