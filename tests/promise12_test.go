package tests

import (
	"math/rand/v2"
	"slices"
	"strings"
	"testing"

	"loop.example/g01075/impl"
)

// labelledLtss returns systems with many labels, the same ones in every run.
func labelledLtss(n int) []impl.Lts {
	m := maker{r: rand.New(rand.NewPCG(93, 94))}
	var list []impl.Lts
	for range n {
		list = append(list, m.labelled(1+m.r.Int64N(8), m.r.IntN(20)))
	}
	return list
}

func TestPromise12TextsAreReadBack(t *testing.T) {
	for _, x := range slices.Concat(validLtss(), labelledLtss(500), smallLtss(200), largeLtss(100)) {
		text := exactLtsText(x)
		expect(t, impl.LtsText, in(x), text)
		expect(t, impl.ReadLts, in(text), x, true)
	}
}

// TestPromise12TextsOfSystemsAlone changes each byte of texts, most of which are no texts then.
func TestPromise12TextsOfSystemsAlone(t *testing.T) {
	t.Parallel()
	read, other := 0, 0
	for _, text := range append(notLtsTexts(), "1 0|-|-", "3 1|a a(1)|0:0:2 0:1:1", "12 10|a a(1) a(1,2) b|0:0:0 0:1:11 1:0:1 9:2:2 10:1:7", exactLtsText(house())) {
		if len(text) > 200 {
			continue
		}
		for _, changed := range changedTexts(text, "0129 |:-a(,)t+\x00\xff") {
			x, ok := impl.ReadLts(changed)
			want, isText := readLtsText(changed)
			if ok != isText || !same(x, want) {
				t.Fatalf("%q: %+v, %v", changed, x, ok)
			}
			if ok && impl.LtsText(x) != changed {
				t.Fatalf("%q: %q", changed, impl.LtsText(x))
			}
			read, other = read+int(oneIf(ok)), other+int(oneIf(!ok))
		}
	}
	if read < 500 || other < 10000 {
		t.Error("too few cases:", read, other)
	}
}

// A composite has two systems, the names of the labels that they do together, and names of others.
type composite struct {
	a, b           impl.Lts
	shared, hidden []string
}

// composites returns pairs of systems, the same ones in every run.
func composites(n int) []composite {
	m := maker{r: rand.New(rand.NewPCG(95, 96))}
	var list []composite
	for range n {
		c := composite{m.labelled(1+m.r.Int64N(10), m.r.IntN(30)), m.labelled(1+m.r.Int64N(10), m.r.IntN(30)), m.someActions(), nil}
		for _, name := range m.someActions() {
			if !slices.Contains(c.shared, name) {
				c.hidden = append(c.hidden, name)
			}
		}
		list = append(list, c)
	}
	return list
}

func (c composite) product() sketch {
	return productOf(sketchOf(c.a), sketchOf(c.b), c.shared).reachable()
}

func TestPromise12ProductsAreThoseOfSketches(t *testing.T) {
	t.Parallel()
	c := tally{}
	for _, k := range composites(1500) {
		code := checkProduct(t, k.a, k.b, k.shared)
		p := k.product()
		c[impl.CodeName(code)]++
		c["some pairs"] += int(oneIf(len(p.states) > 3 && int64(len(p.states)) < k.a.States*k.b.States))
		c["initial later"] += int(oneIf(code == impl.OK && p.states[0] != p.initial && len(p.edges) > 2))
		c["equal edges"] += int(oneIf(code == impl.OK && len(p.lts().Edges) < len(p.edges)))
		c["done together"] += int(oneIf(slices.ContainsFunc(p.edges, func(e arrow) bool { return slices.Contains(k.shared, nameIn(e.label)) })))
	}
	c.expect(t, tally{"ok": 1000, "full": 30, "some pairs": 300, "initial later": 200, "equal edges": 50, "done together": 200})
}

// TestPromise12ProductsAreCommutative turns the pairs of products round.
func TestPromise12ProductsAreCommutative(t *testing.T) {
	t.Parallel()
	changed, full := 0, 0
	for _, c := range composites(1500) {
		ab, code := impl.ProductLts(c.a, c.b, c.shared)
		backward := slices.Clone(c.shared)
		slices.Reverse(backward)
		ba, other := impl.ProductLts(c.b, c.a, append(backward, c.shared...))
		if code != other {
			t.Fatalf("%+v: codes %d and %d", c, code, other)
		}
		if code != impl.OK {
			full++
			continue
		}
		// The states of the result are those of the sketch, by their numbers.
		p, named := c.product(), sketch{labels: ab.Labels}
		for _, e := range ab.Edges {
			named.edges = append(named.edges, arrow{p.states[e.From], ab.Labels[e.Label], p.states[e.To]})
		}
		named.states, named.initial = p.states, p.states[ab.Initial]
		if want := named.swapped(sketchOf(c.a), sketchOf(c.b)).lts(); !same(ba, want) {
			t.Fatalf("%+v: %q, and turned round %q; want %q", c, impl.LtsText(ab), impl.LtsText(ba), exactLtsText(want))
		}
		changed += int(oneIf(!same(ab, ba)))
	}
	if changed < 500 || full < 30 {
		t.Error("too few cases:", changed, full)
	}
}

// TestPromise12HidingCommutesWithProducts hides labels that are not shared in a product, and in its systems.
func TestPromise12HidingCommutesWithProducts(t *testing.T) {
	t.Parallel()
	hidden, made := 0, 0
	for _, c := range composites(1500) {
		whole, code := impl.ProductLts(c.a, c.b, c.shared)
		a, _ := impl.HideLabels(c.a, c.hidden)
		b, _ := impl.HideLabels(c.b, c.hidden)
		parts, other := impl.ProductLts(a, b, c.shared)
		if code != impl.OK {
			// The systems have fewer labels and edges when some are hidden, but not fewer states.
			made += int(oneIf(other == impl.OK))
			continue
		}
		want, _ := impl.HideLabels(whole, c.hidden)
		if other != impl.OK || !impl.SameLts(parts, want) {
			t.Fatalf("%+v: %q and %q", c, impl.LtsText(parts), impl.LtsText(want))
		}
		hidden += int(oneIf(len(want.Labels) < len(whole.Labels) && len(want.Edges) > 3))
	}
	if hidden < 300 {
		t.Error("too few cases:", hidden, made)
	}
}

// TestPromise12LabelsOfRandomLtss compares with sketches.
func TestPromise12LabelsOfRandomLtss(t *testing.T) {
	t.Parallel()
	m := maker{r: rand.New(rand.NewPCG(97, 98))}
	c := tally{}
	for _, x := range slices.Concat(labelledLtss(800), validLtss()) {
		s := sketchOf(x)
		names := m.someActions()
		hidden, used := s.hidden(names).lts(), s.used().lts()
		expect(t, impl.HideLabels, in(x, names), hidden, impl.OK)
		expect(t, impl.UsedLabels, in(x), used, impl.OK)
		c["hidden"] += int(oneIf(len(hidden.Labels) < len(x.Labels)))
		c["equal hidden edges"] += int(oneIf(len(hidden.Edges) < len(x.Edges)))
		c["unused"] += int(oneIf(len(used.Labels) < len(x.Labels)))
		for _, from := range []string{"a", "b", "c"} {
			to := string(rune('a' + m.r.IntN(7)))
			renamed := s.renamed(from, to).lts()
			expect(t, impl.RenameLabels, in(x, from, to), renamed, impl.OK)
			c["renamed"] += int(oneIf(!same(renamed, x)))
			c["equal labels"] += int(oneIf(len(renamed.Labels) < len(x.Labels)))
			c["equal renamed edges"] += int(oneIf(len(renamed.Edges) < len(x.Edges)))
		}
	}
	c.expect(t, tally{"hidden": 400, "equal hidden edges": 50, "unused": 300, "renamed": 500, "equal labels": 300, "equal renamed edges": 20})
}

// TestPromise12UnionsOfRandomLtss compares with sketches, also large ones.
func TestPromise12UnionsOfRandomLtss(t *testing.T) {
	t.Parallel()
	c := tally{}
	large := largeLtss(200)
	for i, k := range composites(400) {
		for _, other := range []impl.Lts{k.b, large[i%200]} {
			want, code := unionOf(sketchOf(k.a), sketchOf(other)).limited()
			expect(t, impl.UnionLts, in(k.a, other), want, code)
			c[impl.CodeName(code)]++
		}
	}
	c.expect(t, tally{"ok": 400, "full": 50})
}

// TestPromise12LargeProducts takes systems of which a product has few pairs, or too many.
func TestPromise12LargeProducts(t *testing.T) {
	t.Parallel()
	c := tally{}
	for i, x := range largeLtss(40) {
		for _, shared := range [][]string{{"a", "b"}, {"a"}} {
			for _, y := range []impl.Lts{x, ltsFrom("2 0|a b|0:1:1 1:1:1 1:2:0"), ltsFrom("1 0|a|-")} {
				if i < 10 || len(y.Edges) < 10 {
					c[impl.CodeName(checkProduct(t, x, y, shared))]++
				}
			}
		}
	}
	c.expect(t, tally{"ok": 100, "full": 10})
}

// TestPromise12LongestText is that of the system with the most of everything.
func TestPromise12LongestText(t *testing.T) {
	x := impl.Lts{States: 40, Initial: 39, Labels: []string{"tau"}}
	for i := range 11 {
		x.Labels = append(x.Labels, "abcdefghi"+string(rune('a'+i))+"(10,10)")
	}
	for i := range int64(300) {
		x.Edges = append(x.Edges, impl.Edge{From: 10 + i/30, Label: 10 + i/15%2, To: 10 + i%15})
	}
	text := exactLtsText(x)
	if !isLts(x) || len(text) < 2500 || strings.Count(text, " ") != 1+10+299 {
		t.Fatal(text)
	}
	expect(t, impl.LtsText, in(x), text)
	expect(t, impl.ReadLts, in(text), x, true)
	expect(t, impl.ReadLts, in(text+" 39:11:39"), nil, false)
}
