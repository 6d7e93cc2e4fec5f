package tests

import (
	"math/rand/v2"
	"slices"
	"strings"
	"testing"

	"loop.example/g01075/impl"
)

// sourceSystems returns valid systems with usual and with odd names.
func sourceSystems(n int) []impl.System {
	r := rand.New(rand.NewPCG(21, 22))
	list := []impl.System{example()}
	for i, s := range randomSystems(n) {
		if i%2 == 0 {
			s = withOddNames(r, s)
		}
		list = append(list, s)
	}
	return list
}

func TestPromise7SystemsAreParsedFromTheirTexts(t *testing.T) {
	r := rand.New(rand.NewPCG(23, 24))
	for _, s := range sourceSystems(1000) {
		if !impl.ValidSystem(s) {
			t.Fatalf("not valid: %+v", s)
		}
		want := exactly(s)
		if text := impl.SystemText(s); text != want {
			t.Fatalf("the text is %q; want %q", text, want)
		}
		checkParsed(t, want, s)
		for range 3 {
			text := loosely(r, s)
			checkParsed(t, text, s)
			if canonical, code := impl.CanonicalSource(text); canonical != want || code != impl.OK {
				t.Fatalf("the canonical text of %q is %q, %d; want %q", text, canonical, code, want)
			}
		}
	}
}

func checkParsed(t *testing.T, text string, want impl.System) {
	t.Helper()
	s, line, at, code := impl.ParseSystem(text)
	if !impl.SameSystem(s, want) || line != 0 || at != 0 || code != impl.OK || !impl.IsSource(text) {
		t.Fatalf("%q is parsed to %+v, %d, %d, %d; want %+v", text, s, line, at, code, want)
	}
}

func TestPromise7TextsOfPartsOfSystems(t *testing.T) {
	for _, s := range sourceSystems(100) {
		w := writer{s, never}
		expect(t, impl.SystemText, in(s), exactly(s))
		expect(t, impl.SystemLines, in(s), w.lines(), impl.OK)
		for k := range s.Definitions {
			expect(t, impl.DefinitionText, in(s.Definitions, k), w.processLine(k))
		}
		expect(t, impl.ParseSystem, in(exactly(s)), s, 0, 0, impl.OK)
	}
}

// checkContinuations takes all lines of at most some tokens behind a beginning, and looks at the first error of each.
// What stands behind an error does not matter, so only lines that can be continued are made longer.
func checkContinuations(t *testing.T, before, tokens, blank, after string, most int) (count int) {
	t.Helper()
	lines := []string{before}
	for range most {
		var longer []string
		for _, line := range lines {
			for _, token := range strings.Fields(tokens) {
				next := line + blank + token
				checkSource(t, next+after)
				count++
				first := strings.Count(before, "\n")
				if at, i, ok := firstErrorOfSource(next); ok || at > first || i == len(next)-strings.LastIndex(next, "\n")-1 {
					longer = append(longer, next)
				}
			}
		}
		lines = longer
	}
	return count
}

func TestPromise7FirstErrorsAreThoseOfTheDefinition(t *testing.T) {
	for _, c := range []struct {
		before, tokens, blank, after string
		most                         int
	}{
		// Processes, with p as a name of a definition and of an action.
		{"proc p 0 =", "0 p tau sum 3 8 + . ( ) [ ] , v0 $", " ", "\nrun p", 5},
		{"proc p 0 =", "0 p + . ( )", " ", "\nrun p", 8},
		{"proc tau 1 =a.", "0 tau sum 7 . ( ) ,", "", "\nrun tau(1)", 6},
		{"proc p 0=", "p ( , ) . 1 +", "", "\nrun p", 7},
		// Expressions, at whose ends a process goes on.
		{"proc p 1 = [", "v0 1 64 v29 a < <= ! ( ) ] ,", "", "]p.p(v0)\nrun p(1)", 4},
		{"proc p 1 = p(", "v0 1 - ! ( ) , ] .", " ", ").p(1)\nrun p(1)", 6},
		{"proc p 1 = p.p(", "v0 1 - ! ( ) , ] .", " ", ")\nrun p(1)", 6},
		// The beginnings of all lines.
		{"", "proc run meet p tau abcdefghij abcdefghijk 0 3 4 64 00 = , |", " ", "", 5},
		{"proc p 0 = 0\n", "run p q 1 64 01 , ( ) | .", " ", "\nallow a", 6},
		{"proc p 0 = 0\nrun p\n", "meet allow hide run proc a b tau abcdefghijk 1 ,", " ", "", 5},
		{"proc p 0 = 0\nrun p\nallow a\n", "meet allow hide run proc a b tau 1", " ", "", 4},
		{"proc p 0 = 0\nrun p\nhide a\n", "meet allow hide run proc a", " ", "", 2},
	} {
		t.Run(c.before+c.tokens, func(t *testing.T) {
			t.Parallel()
			if count := checkContinuations(t, c.before, c.tokens, c.blank, c.after, c.most); count < 6 {
				t.Error("too few texts:", count)
			}
		})
	}
}

// TestPromise7OrdersOfLines takes all short sequences of lines, some of them with errors.
func TestPromise7OrdersOfLines(t *testing.T) {
	texts := []string{"proc p 0 = a.p", "run p", "meet a b c", "allow a", "hide c", "", "  ", " proc p", "run q"}
	lists := [][]string{nil}
	codes := map[int64]int{}
	for range 6 {
		var longer [][]string
		for _, list := range lists {
			for _, text := range texts {
				next := append(slices.Clone(list), text)
				source := strings.Join(next, "\n")
				codes[checkSource(t, source)]++
				if line, _, ok := firstErrorOfSource(source); ok || line == len(next) {
					longer = append(longer, next)
				}
			}
		}
		lists = longer
	}
	if len(codes) != 4 {
		t.Error(codes)
	}
}

// spoiledSource returns a text with some random changes.
func spoiledSource(r *rand.Rand, text string) string {
	pieces := []string{"a", "p", "q", "tau", "sum", "0", "1", "8", "64", "01", "v0", "v29", "<=", "run", "proc", "abcdefghijk"}
	for _, c := range "().,+|[]=!<$\n " {
		pieces = append(pieces, string(c))
	}
	for range 1 + r.IntN(2) {
		tokens := lexemesWithBlanks(text)
		i := r.IntN(len(tokens))
		switch r.IntN(5) {
		case 0:
			tokens = slices.Delete(tokens, i, i+1)
		case 1:
			tokens = slices.Insert(tokens, i, pieces[r.IntN(len(pieces))])
		case 2:
			tokens[i] = pieces[r.IntN(len(pieces))]
		case 3:
			tokens = slices.Insert(tokens, i, tokens[r.IntN(len(tokens))])
		case 4:
			k := r.IntN(len(tokens))
			tokens[i], tokens[k] = tokens[k], tokens[i]
		}
		text = strings.Join(tokens, "")
		if text == "" {
			return "a"
		}
	}
	return text
}

// lexemesWithBlanks divides a text so that nothing is lost.
func lexemesWithBlanks(text string) []string {
	var tokens []string
	for text != "" {
		token := sourceLexeme.FindString(text)
		if token == "" {
			token = text[:1]
		}
		tokens = append(tokens, token)
		text = text[len(token):]
	}
	return tokens
}

func TestPromise7SpoiledTexts(t *testing.T) {
	systems := sourceSystems(150)
	for seed := range uint64(8) {
		t.Run("", func(t *testing.T) {
			t.Parallel()
			r := rand.New(rand.NewPCG(25, seed))
			codes := map[int64]int{}
			for range 800 {
				text := loosely(r, systems[r.IntN(len(systems))])
				codes[checkSource(t, text)]++
				codes[checkSource(t, spoiledSource(r, text))]++
			}
			for _, code := range []int64{impl.OK, impl.ErrSyntax, impl.ErrNotFound, impl.ErrFormat} {
				if codes[code] < 2 {
					t.Error("too few texts with code", code, codes)
				}
			}
		})
	}
}

// TestPromise7ErrorsAtEachByte puts a byte that begins no token before each byte of a text, and takes away its end.
func TestPromise7ErrorsAtEachByte(t *testing.T) {
	t.Parallel()
	r := rand.New(rand.NewPCG(27, 28))
	for _, s := range sourceSystems(6) {
		text := loosely(r, s)
		for i := range len(text) + 1 {
			checkSource(t, text[:i]+"$"+text[i:])
			checkSource(t, text[:i])
			checkSource(t, text[:i]+"\n"+text[i:])
			checkSource(t, text[:i]+" "+text[i:])
		}
	}
}

func TestPromise7NamesOfDefinitionsCanBeTakenBack(t *testing.T) {
	t.Parallel()
	for _, s := range sourceSystems(40) {
		for k, d := range s.Definitions {
			for _, name := range append(oddNames(), "p", "q", "fresh") {
				other := slices.ContainsFunc(s.Definitions, func(o impl.Definition) bool { return o.Name == name && o.Name != d.Name })
				if other {
					expect(t, impl.RenameDefinition, in(s, k, name), nil, impl.ErrExists)
					continue
				}
				want := copied(s)
				want.Definitions[k].Name = name
				expect(t, impl.RenameDefinition, in(s, k, name), want, impl.OK)
				expect(t, impl.RenameDefinition, in(want, k, d.Name), s, impl.OK)
				checkParsed(t, exactly(want), want)
			}
		}
	}
}

// namesOfActions returns all names of actions in a system.
func namesOfActions(s impl.System) map[string]bool {
	names := map[string]bool{}
	for _, d := range s.Definitions {
		for _, p := range d.Body {
			if p.Kind == impl.PartAction && p.Name != "tau" {
				names[p.Name] = true
			}
		}
	}
	for _, m := range s.Meetings {
		names[m.Left], names[m.Right], names[m.Result] = true, true, true
	}
	for _, name := range slices.Concat(s.Allowed, s.Hidden) {
		names[name] = true
	}
	return names
}

func TestPromise7NamesOfActionsCanBeTakenBack(t *testing.T) {
	t.Parallel()
	exchanged := 0
	for _, s := range sourceSystems(60) {
		known := namesOfActions(s)
		for _, from := range []string{"a", "b", "c", "e", "sum", "proc", "get", "put", "out", "other"} {
			for _, to := range []string{"a", "a0", "bb", "sum", "z", "put", from} {
				if from != to && known[to] {
					expect(t, impl.RenameAction, in(s, from, to), nil, impl.ErrExists)
					continue
				}
				of := map[string]string{"": "", "tau": "tau"}
				for name := range known {
					of[name] = name
				}
				of[from] = to
				want := renamedActions(s, of)
				exchanged += exchangesNames(s, want)
				expect(t, impl.RenameAction, in(s, from, to), want, impl.OK)
				expect(t, impl.RenameAction, in(want, to, from), s, impl.OK)
				checkParsed(t, exactly(want), want)
			}
		}
	}
	if exchanged < 20 {
		t.Error("too few meetings whose names are exchanged:", exchanged)
	}
}

// exchangesNames counts the meetings whose Left has become a Right, in a system whose actions have other names.
func exchangesNames(s, renamed impl.System) (count int) {
	for _, m := range s.Meetings {
		stays := func(n impl.Meeting) bool { return n.Left == m.Left || n.Right == m.Right }
		if !slices.ContainsFunc(renamed.Meetings, stays) {
			count++
		}
	}
	return count
}

func TestPromise7ComponentsCanBeTakenBack(t *testing.T) {
	r := rand.New(rand.NewPCG(29, 30))
	for _, s := range sourceSystems(60) {
		last := len(s.Components)
		for k, d := range s.Definitions {
			c := impl.Component{Definition: int64(k), Values: randomValues(r, int(d.Parameters))}
			if last == impl.MaxComponents {
				expect(t, impl.AddComponent, in(s, c), nil, impl.ErrFull)
				continue
			}
			want := copied(s)
			want.Components = append(want.Components, c)
			expect(t, impl.AddComponent, in(s, c), want, impl.OK)
			expect(t, impl.RemoveComponent, in(want, last), s, impl.OK)
			checkParsed(t, exactly(want), want)
		}
		for k := range s.Components {
			want := copied(s)
			want.Components = slices.Delete(want.Components, k, k+1)
			if last == 1 {
				expect(t, impl.RemoveComponent, in(s, k), nil, impl.ErrState)
			} else {
				expect(t, impl.RemoveComponent, in(s, k), want, impl.OK)
			}
		}
	}
}
