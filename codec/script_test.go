package codec

import (
	"bytes"
	"math"
	"math/rand"
	"slices"
	"testing"

	"tocsin/api"
)

// wantBack fails, unless the script's values are told again by the same script, and then nothing is left, but for a byte that was set behind.
func wantBack(t *testing.T, script []value) {
	t.Helper()
	b := written(script...)
	exact, more := Over(b), Over(append(slices.Clone(b), 0))
	for i, v := range script {
		for _, r := range []*Reader{exact, more} {
			if got := read(r, v.kind, v.most); got != v || r.Err() != api.OK {
				t.Errorf("%d: %v, want %v", i, got, v)
			}
		}
	}
	wantState(t, "behind a script", exact, api.OK, api.OK)
	wantState(t, "with one byte left", more, api.OK, api.ErrCode)
}

// edgeValues: of each kind those at its ends, and where forms grow.
func edgeValues() []value {
	l := []value{{kind: kBool}, {kind: kBool, b: true}}
	for _, v := range edgeNumbers() {
		l = append(l, value{kind: kUint, u: v})
		if v <= math.MaxInt {
			l = append(l, value{kind: kLen, n: int(v), most: int(v)}, value{kind: kLen, n: int(v), most: math.MaxInt})
		}
	}
	for _, v := range edgeSigned() {
		l = append(l, value{kind: kInt, i: v})
	}
	for _, n := range []int{0, 1, 127, 128, 16383, 16384} {
		p := string(bytes.Repeat([]byte{200}, n))
		l = append(l, value{kind: kBytes, p: p}, value{kind: kText, p: p})
	}
	return l
}

// TestThereAndBack: P6.4: each edge alone, all of them in one script, and scripts that are drawn.
func TestThereAndBack(t *testing.T) {
	edges := edgeValues()
	for _, v := range edges {
		wantBack(t, []value{v})
	}
	wantBack(t, nil)
	wantBack(t, edges)
	r := rand.New(rand.NewSource(5))
	for range 1000 {
		wantBack(t, someValues(r, r.Intn(40)))
	}
}

// TestThereAndBackLess: P6.4: a Len below 0 is told again as the 0 that was written.
func TestThereAndBackLess(t *testing.T) {
	w := New()
	w.Len(-5)
	w.Len(math.MinInt)
	w.Text("t")
	r := Over(w.Out())
	check(t, "0 each", r.Len(0) == 0 && r.Len(9) == 0 && r.Text() == "t" && r.Done() == api.OK)
}

// TestOneForm: P6.5: all short rows, by all scripts of up to three values.
func TestOneForm(t *testing.T) {
	steps := []value{{kind: kUint}, {kind: kInt}, {kind: kBool}, {kind: kBytes}, {kind: kText}, {kind: kLen, most: 2}, {kind: kLen, most: math.MaxInt}}
	scripts, longest := [][]value{nil}, [][]value{nil}
	for range 3 {
		var longer [][]value
		for _, script := range longest {
			for _, step := range steps {
				longer = append(longer, append(slices.Clone(script), step))
			}
		}
		scripts, longest = append(scripts, longer...), longer
	}
	for _, b := range rows(3) {
		for _, script := range scripts {
			wantScript(t, b, script)
		}
	}
}

// TestOneFormDrawn: P6.5: what a script wrote, with some bytes changed, put in or taken away, read by that script.
func TestOneFormDrawn(t *testing.T) {
	r := rand.New(rand.NewSource(6))
	for range 3000 {
		script := someValues(r, 1+r.Intn(6))
		b := written(script...)
		for range r.Intn(3) {
			switch i := r.Intn(len(b) + 1); r.Intn(3) {
			case 0:
				b = slices.Insert(b, i, alphabet[r.Intn(len(alphabet))])
			case 1:
				b = slices.Delete(b, i, min(len(b), i+1))
			default:
				if i < len(b) {
					b[i] ^= 1 << r.Intn(8)
				}
			}
		}
		wantScript(t, b, script)
	}
}

// TestOneFormApart: P6.5: no two values of a kind have one form, none is the beginning of another's.
func TestOneFormApart(t *testing.T) {
	var forms [kinds]map[string]value
	for k := range forms {
		forms[k] = map[string]value{}
	}
	for _, v := range edgeValues() {
		v.most = 0
		form := string(written(v))
		if other, there := forms[v.kind][form]; there && other != v {
			t.Errorf("%v and %v: %v", v, other, []byte(form))
		}
		forms[v.kind][form] = v
	}
	for k, l := range forms {
		for form := range l {
			for n := range len(form) {
				if other, there := l[form[:n]]; there {
					t.Errorf("kind %d: %v begins with the form of %v", k, []byte(form[:min(n, 20)]), other)
				}
			}
		}
	}
}
