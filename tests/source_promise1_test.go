package tests

import (
	"strings"
	"sync"
	"testing"

	"loop.example/g01075/impl"
)

// extremeSources returns texts that are as deep, as long or as wide as a source text can be.
func extremeSources() []string {
	head := "proc p 0 = "
	return []string{
		head + strings.Repeat("(", 15980), head + strings.Repeat("(", 7990) + "0" + strings.Repeat(")", 7990),
		head + strings.Repeat("(", 3990) + "0" + strings.Repeat("+0)", 3990) + "\nrun p",
		head + strings.Repeat("0+", 7980) + "0\nrun p", head + strings.Repeat("a.", 7980) + "0\nrun p", head + strings.Repeat("[0]", 5320) + "0\nrun p",
		head + strings.Repeat("sum 1.", 2660) + "0\nrun p",
		head + "[" + strings.Repeat("!", 15970) + "0]0\nrun p", head + "[" + strings.Repeat("0+", 7980) + "0]0\nrun p",
		head + "[" + strings.Repeat("(", 7980) + "0" + strings.Repeat(")", 7980) + "]0\nrun p",
		head + "a.p(" + strings.Repeat("0,", 7980) + "0)\nrun p", head + strings.Repeat("a.p+", 3980) + "0\nrun p", head + strings.Repeat("a.q+", 3980) + "0\nrun p",
		head + strings.Repeat("a", 15980), head + strings.Repeat("9", 15980),
		strings.Repeat("proc p 0=0\n", 1450) + "run p", head + "0\nrun p" + strings.Repeat("|p", 7980), head + "0\nrun p(" + strings.Repeat("1,", 7980) + "1)",
		head + "0\nrun p\n" + strings.Repeat("meet a b c\n", 1400) + "allow a",
		head + "0\nrun p\nallow" + strings.Repeat(" a", 7980), head + "0\nrun p\nhide" + strings.Repeat(" a", 7980), strings.Repeat("\n", 16000),
		strings.Repeat(" ", 16000), strings.Repeat("\xff", 16000), strings.Repeat("proc", 4000),
		strings.Repeat("(", 1000000), strings.Repeat("\n", 1000000),
	}
}

func TestPromise1ExtremeSources(t *testing.T) {
	for _, text := range extremeSources() {
		for _, f := range []any{impl.ParseSystem, impl.IsSource, impl.CanonicalSource} {
			checkZeroValues(t, f, in(text), call(t, f, text))
		}
	}
}

// TestPromise1SourcesAreTheCallers changes results, which must change neither the argument nor what later calls return.
func TestPromise1SourcesAreTheCallers(t *testing.T) {
	given := copied(example())
	given.Components = given.Components[:2]
	text := exactly(given)
	for range 2 {
		parsed, _, _, _ := impl.ParseSystem(text)
		named, _ := impl.RenameDefinition(given, 1, "send")
		other, _ := impl.RenameAction(given, "put", "put")
		more, _ := impl.AddComponent(given, impl.Component{Definition: 3, Values: []int64{1}})
		more, _ = impl.RemoveComponent(more, 2)
		for i, s := range []impl.System{parsed, named, other, more} {
			if !impl.SameSystem(s, given) {
				t.Fatalf("result %d: %+v", i, s)
			}
		}
		lines, _ := impl.SystemLines(given)
		for _, s := range []impl.System{parsed, named, other, more} {
			clearSystem(s)
		}
		clear(lines)
		if exactly(given) != text {
			t.Fatalf("%+v", given)
		}
	}
}

// clearSystem empties all that a system holds.
func clearSystem(s impl.System) {
	for _, d := range s.Definitions {
		for _, p := range d.Body {
			for _, e := range p.Arguments {
				clear(e)
			}
			clear(p.Arguments)
		}
		clear(d.Body)
	}
	for _, c := range s.Components {
		clear(c.Values)
	}
	clear(s.Definitions)
	clear(s.Components)
	clear(s.Meetings)
	clear(s.Allowed)
	clear(s.Hidden)
}

// TestPromise1SourcesAtTheSameTime makes calls from several goroutines, which can only agree if nothing is kept.
func TestPromise1SourcesAtTheSameTime(t *testing.T) {
	systems := sourceSystems(20)
	var all sync.WaitGroup
	for k := range 8 {
		all.Go(func() {
			for i := range 200 {
				s := systems[(i+k)%len(systems)]
				text := impl.SystemText(s)
				parsed, _, _, code := impl.ParseSystem(text)
				_, line, at, broken := impl.ParseSystem(text + "\n$")
				if !impl.SameSystem(parsed, s) || code != impl.OK || line != int64(strings.Count(text, "\n")+1) || at != 0 || broken != impl.ErrSyntax {
					t.Error(text, code, line, at, broken)
				}
			}
		})
	}
	all.Wait()
}
