package tests

import (
	"math/rand/v2"
	"slices"
	"strings"
	"testing"

	"loop.example/g01075/impl"
)

func TestPromise5TextsAreParsed(t *testing.T) {
	for _, list := range [][][]impl.Term{smallTerms(), randomExpressions(30, impl.MaxScope)} {
		for _, e := range list {
			text := impl.ExpressionText(e)
			if want := treeOf(e).text(); text != want {
				t.Fatalf("ExpressionText(%v) is %s; want %s", e, text, want)
			}
			parsed, at, code := impl.ParseExpression(text)
			if !slices.Equal(parsed, e) || at != 0 || code != impl.OK {
				t.Fatalf("%s is parsed to %v, %d, %d; want %v", text, parsed, at, code, e)
			}
			checkBlanks(t, text, e)
		}
	}
}

// checkBlanks writes a blank before and behind each token, which changes nothing but the offsets.
func checkBlanks(t *testing.T, text string, e []impl.Term) {
	t.Helper()
	tokens, offsets, code := impl.TokensOf(text)
	if code != impl.OK || strings.Join(tokens, "") != text {
		t.Fatal(text, tokens, code)
	}
	for i, token := range tokens {
		if !strings.HasPrefix(text[offsets[i]:], token) {
			t.Error(text, token, offsets[i])
		}
	}
	spaced := " " + strings.Join(tokens, " ") + " "
	if len(spaced) > impl.MaxText {
		return
	}
	if parsed, at, code := impl.ParseExpression(spaced); !slices.Equal(parsed, e) || at != 0 || code != impl.OK {
		t.Errorf("%s is parsed to %v, %d, %d", spaced, parsed, at, code)
	}
}

// textsUpTo returns, for each number of tokens, all texts of expressions, made from the rule for texts alone.
// Each token is written as one byte.
func textsUpTo(most int, operands, operators string) []map[string]bool {
	texts := make([]map[string]bool, most+1)
	for n := range texts {
		texts[n] = map[string]bool{}
	}
	for _, token := range operands {
		texts[1][string(token)] = true
	}
	for n := 2; n <= most; n++ {
		for s := range texts[n-1] {
			texts[n]["!"+s] = true
		}
		for s := range texts[n-2] {
			texts[n]["("+s+")"] = true
		}
		for left := 1; left < n-1; left++ {
			addOperations(texts[n], texts[left], texts[n-1-left], operators)
		}
	}
	return texts
}

func addOperations(texts, lefts, rights map[string]bool, operators string) {
	for a := range lefts {
		for b := range rights {
			for _, o := range operators {
				texts[a+string(o)+b] = true
			}
		}
	}
}

// tokenOf returns the token that a byte of textsUpTo stands for.
func tokenOf(b byte) string {
	switch b {
	case 'a':
		return "v28"
	case 'l':
		return "<="
	}
	return string(b)
}

// spelled returns the text of bytes of textsUpTo, and the offset of each token and of the end.
func spelled(bytes, before string) (string, []int64) {
	text := ""
	var offsets []int64
	for i := range len(bytes) {
		text += before
		offsets = append(offsets, int64(len(text)))
		text += tokenOf(bytes[i])
	}
	text += before
	return text, append(offsets, int64(len(text)))
}

// TestPromise5FirstErrorsAreThoseOfTheDefinition takes all sequences of at most five tokens and looks up which of their
// beginnings can be continued to a text. The shortest continuation of five tokens has six tokens.
func TestPromise5FirstErrorsAreThoseOfTheDefinition(t *testing.T) {
	beginnings, texts := map[string]bool{}, map[string]bool{}
	for _, list := range textsUpTo(11, "a", "l") {
		for s := range list {
			texts[s] = true
			for i := range len(s) + 1 {
				beginnings[s[:i]] = true
			}
		}
	}
	sequences := []string{""}
	for range 6 {
		var longer []string
		for _, s := range sequences {
			checkFirstError(t, s, beginnings, texts[s])
			for _, token := range "al!()" {
				longer = append(longer, s+string(token))
			}
		}
		sequences = longer
	}
}

func checkFirstError(t *testing.T, s string, beginnings map[string]bool, isText bool) {
	t.Helper()
	first := 0
	for first < len(s) && beginnings[s[:first+1]] {
		first++
	}
	for _, before := range []string{"", " ", "   "} {
		text, offsets := spelled(s, before)
		_, at, code := impl.ParseExpression(text)
		if isText && (at != 0 || code != impl.OK) || !isText && (at != offsets[first] || code != impl.ErrSyntax) {
			t.Errorf("the first error of %q is at %d, %d; want %d", text, at, code, offsets[first])
		}
	}
}

// TestPromise5TextsAreShortest parses all short texts and looks for the shortest ones of each expression.
func TestPromise5TextsAreShortest(t *testing.T) {
	shortest := map[string][]string{}
	for _, list := range textsUpTo(7, "7", "+-*|") {
		for s := range list {
			e, _, code := impl.ParseExpression(s)
			if code != impl.OK {
				t.Fatal(s, code)
			}
			text := impl.ExpressionText(e)
			if len(text) > len(s) {
				t.Errorf("%s is shorter than %s", s, text)
			}
			if known := shortest[text]; len(known) == 0 || len(s) < len(known[0]) {
				shortest[text] = []string{s}
			} else if len(s) == len(known[0]) {
				shortest[text] = append(known, s)
			}
		}
	}
	for text, list := range shortest {
		if !slices.Equal(list, []string{text}) {
			t.Errorf("the shortest texts of %s are %v", text, list)
		}
	}
}

// TestPromise5ParsesAreThoseOfTheDefinition splits texts at the operator that binds least, the last one of its level.
func TestPromise5ParsesAreThoseOfTheDefinition(t *testing.T) {
	for _, operators := range []string{"+-*", "=#<&", "l|&", "-=|"} {
		for _, list := range textsUpTo(6, "a", operators) {
			for s := range list {
				text, _ := spelled(s, "")
				want := splitText(s)
				e, at, code := impl.ParseExpression(text)
				if !slices.Equal(e, want) || at != 0 || code != impl.OK {
					t.Fatalf("%s is parsed to %v, %d, %d; want %v", text, e, at, code, want)
				}
			}
		}
	}
}

func splitText(s string) []impl.Term {
	depth, place, least := 0, -1, int64(0)
	for i := range len(s) {
		switch s[i] {
		case '(':
			depth++
		case ')':
			depth--
		}
		o := slices.Index(operatorTexts(), tokenOf(s[i]))
		if depth == 0 && o >= 0 && (place < 0 || levels()[o] <= least) {
			place, least = i, levels()[o]
		}
	}
	switch {
	case place >= 0:
		return op(int64(slices.Index(operatorTexts(), tokenOf(s[place]))), splitText(s[:place]), splitText(s[place+1:]))
	case s[0] == '!':
		return not(splitText(s[1:]))
	case s[0] == '(':
		return splitText(s[1 : len(s)-1])
	}
	return vr(28)
}

func TestPromise5CanonicalFormsHaveTheSameValues(t *testing.T) {
	r := rand.New(rand.NewPCG(17, 18))
	for _, list := range [][][]impl.Term{smallTerms(), randomExpressions(30, 2)} {
		for _, e := range list {
			canonical, code := impl.CanonicalTerms(e)
			if code != impl.OK || !slices.Equal(canonical, treeOf(e).canonical().terms()) {
				t.Fatalf("CanonicalTerms(%v) is %v, %d", e, canonical, code)
			}
			again, _ := impl.CanonicalTerms(canonical)
			if !slices.Equal(again, canonical) {
				t.Errorf("CanonicalTerms(%v) is %v", canonical, again)
			}
			if values, code := impl.DifferingValues(e, canonical, []int64{3, 3}); code != impl.ErrNotFound {
				t.Errorf("%v and its canonical form %v differ for %v, %d", e, canonical, values, code)
			}
			values := randomValues(r, 2)
			checkValue(t, canonical, values, treeOf(e).value(values))
		}
	}
}

func TestPromise5DifferingValuesAreTheFirst(t *testing.T) {
	r := rand.New(rand.NewPCG(19, 20))
	found := 0
	for _, bounds := range [][]int64{{3}, {1, 2}, {3, 0, 2}, {1, 1, 1, 1}, {9, 9}} {
		for range 300 {
			a := randomExpression(r, 1+r.IntN(6), int64(len(bounds)))
			b := randomExpression(r, 1+r.IntN(6), int64(len(bounds)))
			want, code := []int64(nil), int64(impl.ErrNotFound)
			for _, values := range listsWithin(bounds) {
				if treeOf(a).value(values) != treeOf(b).value(values) {
					want, code = values, impl.OK
					found += int(oneIf(slices.Max(values) > 0))
					break
				}
			}
			expect(t, impl.DifferingValues, in(a, b, bounds), want, code)
		}
	}
	if found < 50 {
		t.Error("too few first values are not all 0:", found)
	}
}

func TestPromise5PostfixFormsAreReadBack(t *testing.T) {
	for _, list := range [][][]impl.Term{smallTerms(), randomExpressions(10, impl.MaxScope)} {
		for _, e := range list {
			postfix, code := impl.PostfixOf(e)
			if code != impl.OK || !slices.Equal(postfix, treeOf(e).postfix()) {
				t.Fatalf("PostfixOf(%v) is %v, %d", e, postfix, code)
			}
			if back, code := impl.FromPostfix(postfix); code != impl.OK || !slices.Equal(back, e) {
				t.Fatalf("FromPostfix(%v) is %v, %d", postfix, back, code)
			}
		}
	}
}

// TestPromise5PostfixFormsAreThoseOfTheDefinition takes all short lists of terms.
func TestPromise5PostfixFormsAreThoseOfTheDefinition(t *testing.T) {
	known := map[string][]impl.Term{}
	key := func(list []impl.Term) string {
		s := ""
		for _, term := range list {
			s += impl.ListText([]int64{term.Kind, term.Value}) + ";"
		}
		return s
	}
	terms := [][]impl.Term{num(1), vr(0)}
	for _, e := range smallExpressions(5, terms, []int64{impl.OpSub}) {
		known[key(treeOf(e).postfix())] = e
	}
	lists := [][]impl.Term{nil}
	for range 6 {
		var longer [][]impl.Term
		for _, list := range lists {
			want, code := known[key(list)], int64(impl.OK)
			if want == nil {
				code = impl.ErrInvalid
			}
			if e, c := impl.FromPostfix(list); !slices.Equal(e, want) || c != code {
				t.Errorf("FromPostfix(%v) is %v, %d", list, e, c)
			}
			for _, term := range []impl.Term{{Kind: 0, Value: 1}, {Kind: 1}, {Kind: 2, Value: impl.OpSub}, {Kind: 3}} {
				longer = append(longer, append(slices.Clone(list), term))
			}
		}
		lists = longer
	}
}
