package tests

import (
	"fmt"
	"slices"
	"strings"
	"testing"

	"loop.example/g01075/impl"
)

// bodySystem is a system of one component at the definition p, whose body is given.
func bodySystem(body ...impl.Part) impl.System {
	return impl.System{Definitions: defs(0, body...), Components: []impl.Component{{}}}
}

// bodySource returns a source text for a process, which is that of a definition without parameters.
func bodySource(process string) string { return "proc p 0 = " + process + "\nrun p" }

// exampleLines are the lines of the example.
func exampleLines() []string {
	return []string{
		"proc crash 1 = [v0]crash(v0).crash(v0-1)",
		"proc send 0 = put(1).send + put(2).send",
		"proc hold 0 = sum 3.get(v0).pass(v0).hold",
		"proc add 1 = sum 7.([v1<4]take(v1).tau.add(v0+v1) + show(v0,v1).0)",
		"run send | hold | add(5)",
		"meet get put in",
		"meet pass take out",
		"allow in out show",
		"hide in",
	}
}

// TestExamplesOfChapter6 takes the examples of the document.
func TestExamplesOfChapter6(t *testing.T) {
	line := "proc p 1 = sum 3.[v0<v1]a(v1).p(v1) + tau.0"
	list := defs(1, choicePart(), sumPart(3), guardPart(op(impl.OpLess, vr(0), vr(1))), actPart("a", vr(1)), callPart(0, vr(1)), actPart("tau"), stopPart())
	expect(t, impl.DefinitionText, in(list, 0), line)
	s := impl.System{Definitions: list, Components: []impl.Component{{Values: []int64{63}}}}
	expect(t, impl.SystemText, in(s), line+"\nrun p(63)")
	expect(t, impl.ParseSystem, in(line+"\nrun p(63)"), s, 0, 0, impl.OK)
	expect(t, impl.ParseSystem, in("proc p 0 = a.(p)"), nil, 0, 15, impl.ErrSyntax)
	expect(t, impl.ParseSystem, in(bodySource("a.(p)")), nil, 0, 15, impl.ErrSyntax)
}

func TestTextsOfTheExample(t *testing.T) {
	lines := exampleLines()
	expect(t, impl.SystemLines, in(example()), lines, impl.OK)
	expect(t, impl.SystemText, in(example()), strings.Join(lines, "\n"))
	for k := range example().Definitions {
		expect(t, impl.DefinitionText, in(example().Definitions, k), lines[k])
	}
	expect(t, impl.ParseSystem, in(strings.Join(lines, "\n")), example(), 0, 0, impl.OK)
	expect(t, impl.IsSource, in(strings.Join(lines, "\n")), true)
	// Allowed and Hidden need not have names, and then have no lines.
	s := example()
	s.Allowed = nil
	expect(t, impl.SystemLines, in(s), slices.Delete(exampleLines(), 7, 8), impl.OK)
	s.Hidden = nil
	expect(t, impl.SystemLines, in(s), lines[:7], impl.OK)
	s.Meetings = nil
	expect(t, impl.SystemLines, in(s), lines[:5], impl.OK)
}

func TestTextsOfInvalidSystems(t *testing.T) {
	for _, s := range invalidSystems() {
		expect(t, impl.SystemLines, in(s), nil, impl.ErrInvalid)
		expect(t, impl.SystemText, in(s), "")
	}
	for _, list := range invalidDefinitions() {
		for k := range int64(4) {
			expect(t, impl.DefinitionText, in(list, k), "")
		}
	}
	for _, k := range noIndices(4) {
		expect(t, impl.DefinitionText, in(example().Definitions, k), "")
	}
	expect(t, impl.DefinitionText, in(nil, 0), "")
}

// formsOfProcesses returns bodies, and for each its text and other texts of it.
func formsOfProcesses() map[string][]impl.Part {
	stop, choice, a, b := stopPart(), choicePart(), actPart("a"), actPart("b")
	return map[string][]impl.Part{
		"0": {stop}, "0 = (0) = ( ( 0 ))": {stop},
		"a.0 = a . 0 = a.(0) = (a.(0))": {a, stop},
		"a.p = a . p = (a.p)":           {a, callPart(0)},
		"tau.tau.p = tau.(tau.p)":       {actPart("tau"), actPart("tau"), callPart(0)},
		"a(63).0 = a ( 63 ) . 0":        {actPart("a", num(63)), stop},
		"a(1,2*3).b.0 = a(1,(2*3)).b.0": {actPart("a", num(1), op(impl.OpMul, num(2), num(3))), b, stop},
		// A choice groups from the right; parentheses are needed only around one that is the first part of another one.
		"0 + 0 = 0+0 = (0)+(0) = (0+0)":                        {choice, stop, stop},
		"0 + 0 + 0 = 0 + (0 + 0) = 0+((0+0))":                  {choice, stop, choice, stop, stop},
		"(0 + 0) + 0 = (0+0)+0 = ((0+0)+0)":                    {choice, choice, stop, stop, stop},
		"(0 + 0) + 0 + 0 = (0 + 0) + (0 + 0)":                  {choice, choice, stop, stop, choice, stop, stop},
		"((0 + 0) + 0) + 0":                                    {choice, choice, choice, stop, stop, stop, stop},
		"a.0 + b.0 = (a.0) + (b.0)":                            {choice, a, stop, b, stop},
		"a.p + b.p = (a.p)+b.p":                                {choice, a, callPart(0), b, callPart(0)},
		"a.(0 + 0) = a.((0+0)) = (a.(0+0))":                    {a, choice, stop, stop},
		"a.(b.0 + a.b.p) + 0":                                  {choice, a, choice, b, stop, a, b, callPart(0), stop},
		"(a.(0 + 0) + 0) + 0":                                  {choice, choice, a, choice, stop, stop, stop, stop},
		"[1]0 = [ 1 ] 0 = [(1)](0)":                            {guardPart(num(1)), stop},
		"[1](0 + 0)":                                           {guardPart(num(1)), choice, stop, stop},
		"[1]0 + 0 = ([1]0)+0":                                  {choice, guardPart(num(1)), stop, stop},
		"[1][2]a.p = [1]([2]a.p)":                              {guardPart(num(1)), guardPart(num(2)), a, callPart(0)},
		"sum 1.0 = sum 1 . 0 = sum   1.(0)":                    {sumPart(1), stop},
		"sum 7.(0 + 0)":                                        {sumPart(7), choice, stop, stop},
		"sum 7.0 + 0 = (sum 7.0) + 0":                          {choice, sumPart(7), stop, stop},
		"sum 7.sum 1.a(v0,v1).p":                               {sumPart(7), sumPart(1), actPart("a", vr(0), vr(1)), callPart(0)},
		"sum 2.[v0<=1]a.0 = sum 2.([v0 <= 1](a.0))":            {sumPart(2), guardPart(op(impl.OpAtMost, vr(0), num(1))), a, stop},
		"sum.0 = sum . 0 = sum.(0)":                            {actPart("sum"), stop},
		"sum(1).0 = sum (1).0 = sum(1) . 0":                    {actPart("sum", num(1)), stop},
		"sum.sum.sum 3.sum(v0).p = sum.sum.sum   3.sum (v0).p": {actPart("sum"), actPart("sum"), sumPart(3), actPart("sum", vr(0)), callPart(0)},
		"sum 1.sum.sum 1.0":                                    {sumPart(1), actPart("sum"), sumPart(1), stop},
		"sum3.0":                                               {actPart("sum3"), stop},
		"v0.v1(1).p":                                           {actPart("v0"), actPart("v1", num(1)), callPart(0)},
		"proc.run.meet.allow.hide.p":                           {actPart("proc"), actPart("run"), actPart("meet"), actPart("allow"), actPart("hide"), callPart(0)},
		"abcdefghij.p":                                         {actPart("abcdefghij"), callPart(0)},
		// The name of an action may be that of a definition.
		"p.p = p . p":             {actPart("p"), callPart(0)},
		"p.p(1).p = p.(p(1).p)":   {actPart("p"), actPart("p", num(1)), callPart(0)},
		"p.p(1,2).p.0":            {actPart("p"), actPart("p", num(1), num(2)), actPart("p"), stop},
		"a.p + p.0 = (a.p)+(p.0)": {choice, a, callPart(0), actPart("p"), stop},
	}
}

func TestProcessesAsText(t *testing.T) {
	for form, body := range formsOfProcesses() {
		texts := strings.Split(form, " = ")
		s := bodySystem(body...)
		expect(t, impl.DefinitionText, in(s.Definitions, 0), "proc p 0 = "+texts[0])
		for _, text := range texts {
			expect(t, impl.ParseSystem, in(bodySource(text)), s, 0, 0, impl.OK)
			expect(t, impl.CanonicalSource, in(bodySource(text)), bodySource(texts[0]), impl.OK)
			checkSource(t, bodySource(text))
		}
	}
}

// TestWordsBehindActions: a word and arguments are an action if a point follows, and otherwise a call.
func TestWordsBehindActions(t *testing.T) {
	a := actPart("a")
	one := [][]impl.Term{num(1)}
	three := [][]impl.Term{num(1), num(2), num(3)}
	for _, c := range []struct {
		process string
		body    []impl.Part
	}{
		{"a.tau", []impl.Part{a, callPart(1)}},
		{"a.tau.tau", []impl.Part{a, actPart("tau"), callPart(1)}},
		{"a.tau.0", []impl.Part{a, actPart("tau"), stopPart()}},
		{"a.(tau.tau)", []impl.Part{a, actPart("tau"), callPart(1)}},
		{"a.sum(1)", []impl.Part{a, callPart(2, one...)}},
		{"a.sum(1).sum(1)", []impl.Part{a, actPart("sum", one...), callPart(2, one...)}},
		{"a.sum 1.a.sum(1)", []impl.Part{a, sumPart(1), a, callPart(2, one...)}},
		{"tau.q(1,2,3)", []impl.Part{actPart("tau"), callPart(3, three...)}},
		{"a.q.q(1,2,3)", []impl.Part{a, actPart("q"), callPart(3, three...)}},
		{"a.q(1,2).q(1,2,3)", []impl.Part{a, actPart("q", num(1), num(2)), callPart(3, three...)}},
		{"q.q(1,2,3) + q(1).0", []impl.Part{choicePart(), actPart("q"), callPart(3, three...), actPart("q", one...), stopPart()}},
		{"(a.tau) + a.p", []impl.Part{choicePart(), a, callPart(1), a, callPart(0)}},
	} {
		s := bodySystem(c.body...)
		s.Definitions = append(s.Definitions, def("tau", 0, stopPart()), def("sum", 1, stopPart()), def("q", 3, stopPart()))
		text := "proc p 0 = " + c.process + "\nproc tau 0 = 0\nproc sum 1 = 0\nproc q 3 = 0\nrun p"
		expect(t, impl.ParseSystem, in(text), s, 0, 0, impl.OK)
		checkSource(t, text)
	}
}

// TestLinesOfSystems parses systems whose lines have all forms, and prints them.
func TestLinesOfSystems(t *testing.T) {
	stop := []impl.Part{stopPart()}
	p, q := def("p", 0, stop...), def("q", 3, stop...)
	for _, c := range []struct {
		text, canonical string
		s               impl.System
	}{
		{"proc p 0=0\nrun p", "proc p 0 = 0\nrun p", impl.System{Definitions: []impl.Definition{p}, Components: []impl.Component{{}}}},
		{"  proc  p  0  =  0  \n  run  p  ", "proc p 0 = 0\nrun p", impl.System{Definitions: []impl.Definition{p}, Components: []impl.Component{{}}}},
		{"proc proc 0=0\nrun proc", "proc proc 0 = 0\nrun proc", impl.System{Definitions: []impl.Definition{def("proc", 0, stop...)}, Components: []impl.Component{{}}}},
		{"proc run 0=0\nrun run|run", "proc run 0 = 0\nrun run | run", impl.System{Definitions: []impl.Definition{def("run", 0, stop...)}, Components: make([]impl.Component, 2)}},
		{"proc p 0=0\nproc q 3=0\nrun q(0,63,7)|p|q ( 1 , 2 , 3 )", "proc p 0 = 0\nproc q 3 = 0\nrun q(0,63,7) | p | q(1,2,3)",
			impl.System{Definitions: []impl.Definition{p, q}, Components: []impl.Component{{Definition: 1, Values: []int64{0, 63, 7}}, {}, {Definition: 1, Values: []int64{1, 2, 3}}}}},
		{"proc p 0=0\nrun p\nmeet a a b\n meet a  meet c\nallow  a\nhide b  hide", "proc p 0 = 0\nrun p\nmeet a a b\nmeet a meet c\nallow a\nhide b hide",
			impl.System{Definitions: []impl.Definition{p}, Components: []impl.Component{{}}, Meetings: meetings("a a b", "a meet c"), Allowed: []string{"a"}, Hidden: []string{"b", "hide"}}},
		{"proc p 0=0\nrun p\nallow a allow b hide", "proc p 0 = 0\nrun p\nallow a allow b hide",
			impl.System{Definitions: []impl.Definition{p}, Components: []impl.Component{{}}, Allowed: []string{"a", "allow", "b", "hide"}}},
		{"proc p 0=0\nrun p\nhide a1 a2", "proc p 0 = 0\nrun p\nhide a1 a2",
			impl.System{Definitions: []impl.Definition{p}, Components: []impl.Component{{}}, Hidden: []string{"a1", "a2"}}},
		{"proc p 0=0\nrun p\nmeet a b c", "proc p 0 = 0\nrun p\nmeet a b c",
			impl.System{Definitions: []impl.Definition{p}, Components: []impl.Component{{}}, Meetings: meetings("a b c")}},
	} {
		expect(t, impl.ParseSystem, in(c.text), c.s, 0, 0, impl.OK)
		expect(t, impl.CanonicalSource, in(c.text), c.canonical, impl.OK)
		expect(t, impl.SystemText, in(c.s), c.canonical)
		expect(t, impl.IsSource, in(c.text), true)
		checkSource(t, c.text)
	}
}

// expectError parses a text in which the first error is marked by an `@`.
func expectError(t *testing.T, marked string, code int64) {
	t.Helper()
	i := strings.Index(marked, "@")
	text := marked[:i] + marked[i+1:]
	line, at := strings.Count(marked[:i], "\n"), i-strings.LastIndex(marked[:i], "\n")-1
	expect(t, impl.ParseSystem, in(text), nil, line, at, code)
	expect(t, impl.IsSource, in(text), false)
	expect(t, impl.CanonicalSource, in(text), nil, code)
	checkSource(t, text)
}

func TestFirstErrorsOfProcessLines(t *testing.T) {
	for _, marked := range []string{
		"@", " @", "     @", "@0", "@=", " @(", "@$", "@x", " @p 0 = 0", "@proc1 p 0 = 0", "@procs p 0 = 0", "@Proc p 0 = 0", "@process0000 p 0 = 0", "@proc0 = 0",
		"proc@", "proc  @", "proc @0", "proc @= 0", "proc @(p) 0 = 0", "proc @P 0 = 0", "proc @_p 0 = 0", "proc @abcdefghijk 0 = 0", "proc @64 = 0",
		"proc p@", "proc p @", "proc p @= 0", "proc p0 @= 0", "proc p@(0) = 0", "proc p @q 0 = 0", "proc p @v0 = 0", "proc p @-1 = 0",
		"proc p @4 = 0", "proc p @63 = 0", "proc p @64 = 0", "proc p @00 = 0", "proc p @01 = 0", "proc p @10 = 0", "proc p @99999999999999999999 = 0", "proc p@, 0 = 0",
		"proc p 0@", "proc p 0 @", "proc p 0 @0", "proc p 0 @0 = 0", "proc p 0@a = 0", "proc p 0 @+ 0", "proc p 0@: 0",
		"proc p 0 =@", "proc p 0 = @", "proc p 0 =@=0", "proc p 0 = run @p",
	} {
		expectError(t, marked, impl.ErrSyntax)
		expectError(t, marked+"\nrun p", impl.ErrSyntax)
		expectError(t, "proc q 1 = a(v0).q(v0)\n"+marked+"\nrun q(1)\n)", impl.ErrSyntax)
	}
}

func TestFirstErrorsOfProcesses(t *testing.T) {
	for _, process := range []string{
		"@", "  @", "@1", "@63", "@64", "@00", "@01.0", "@.0", "@+ 0", "@)", "@]", "@,", "@|", "@=", "@!0", "@*", "@$", "@\t0", "@\r", "@\x00", "@\xff", "@é.0", "@A.0", "@_",
		"0@a", "0 @a", "0@.0", "0 @0", "0 @1", "0@(0)", "0@[1]0", "0@)", "0@]", "0@,0", "0@|0", "0@=", "0@\r", "0@$", "0 +@", "0 + @", "0 + @+ 0", "0 +@)", "0 + 0 @0", "0+0@.", "0 + @1",
		"a@", "a @", "a@+0", "a @0", "a @b.0", "a@[1]0", "a@)", "a@,", "a@$", "a@=0", "a@:0", "p@", "p @+ 0", "tau@", "tau @0", "@abcdefghijk", "@abcdefghijk.0",
		"a.@", "a. @", "a.@.0", "a.@+ 0", "a.@)", "a.@1", "a.@64", "a.@00", "a.@$", "a.@\xff", "a.@abcdefghijk", "a.@abcdefghijk.0", "a.@abcdefghijk(1)", "a.@B", "tau.@", "a.b.@",
		"a.0@.0", "a.0@b", "a.0 @p", "a.p @p", "a.p @0", "a.p@[1]0", "a.p(1)@(2)", "a.p(1)@)", "a.p@)", "a.p@,q", "a.p@=0", "a.p@$", "a.p + p@", "a.p + @", "a.b.p @q",
		// Calls stand directly behind the point of an action, and nowhere else.
		"a.(p@)", "a.((p@))", "(p@)", "a.(p @+ 0)", "a.(0 + p@)", "[1]p@", "[1]p @+ 0", "sum 3.p@", "sum 3.p@)", "sum 3.p(v0)@", "sum 3.(p@)", "(a.p + p(1)@)", "a.[1]p@", "a.sum 2.p@",
		// What has arguments that no action has is a call, behind which there is no point.
		"a.tau(1)@.0", "a.tau(1,2)@.p", "a.b(1,2,3)@.0", "a.b(1,2,3,4) @. 0", "a.sum(1,2,3)@.0", "tau.tau(0)@.0", "a.(tau@(1).0)", "a.(b(1,2@,3).0)",
		"(@", "( @", "(@)", "(@]", "(@+0)", "(0@", "(0 @", "(0@]", "(0 @0)", "(0@,0)", "(0)@0", "(0)@.0", "(0)@(0)", "(0)@)", "(0)@a", "((0)@", "((0) @", "((0@",
		"(0 + @)", "(0+0@", "((0)+(0)@", "(a.0@",
	} {
		expectError(t, bodySource(process), impl.ErrSyntax)
	}
}

func TestFirstErrorsOfArguments(t *testing.T) {
	for _, process := range []string{
		"a(@", "a( @", "a(@)", "a(@).0", "a(@,1).0", "a(1@", "a(1 @", "a(1)@", "a(1) @", "a(1)@0", "a(1)@b", "a(1)@(2)", "a(1)@)", "a(1)@+ 0", "a(1)@,", "a(1)@=", "a(1)@]",
		"a(1,@", "a(1,@)", "a(1,@,2)", "a(1,2@", "a(1,2@,3).0", "a(1,2 @,", "a(1,2)@", "a(1,2)@+0", "a(1,2)@(", "tau@(1).0", "tau @(", "tau@()", "sum(@)", "sum(@).0", "sum(1,2@,3).0",
		"a(1@].0", "a(1@;2).0", "a(1 @2).0", "a(1@.0", "a((1)@.0", "a((1@,2)).0", "a((1@]", "a(1)@).0",
		"a(@+1).0", "a(1+@).0", "a(1+@,2).0", "a(!@).0", "a(!@,", "a((@)", "a(1+@+1).0", "a(1<@<2).0", "a(1<=@=2).0", "a(1< @=2).0", "a(1=@<2).0", "a(1@>2).0", "a(1=@=2)",
		"a(@64).0", "a(1,@64).0", "a(@01).0", "a(1+@00).0", "a(@99999999999999999999).0", "a(@v29).0", "a(1,@v29).0", "a(@v).0", "a(@v00).0", "a(@v01).0", "a(@b).0",
		"a(1@b).0", "a(v1@b).0",
		"a(v0@v1).0", "a(@sum 3).0", "a(@tau).0", "a(@$).0", "a(1@\xff).0", "a(@[1]).0", "a(v0@.v1).0", "a(v0@:v1).0", "a(@x0).0", "a(@vv0).0", "a(10@v0).0",
		"a.p(@", "a.p(@)", "a.p(@,", "a.p(1@", "a.p(1 @2)", "a.p(1,@)", "a.p(1,2,@)", "a.p(1,2,3@", "a.p(1,2,3@].0", "a.p(@64)", "a.p(1,2,@v29)", "a.p(@q)",
		"a.p(1,@a.0)", "a.p((1)@", "a.p(1+@)",
		"a.tau(@)", "a.tau(1@", "a.sum(@)", "a.sum(1,2@",
		"[@", "[ @", "[@]0", "[1@", "[1 @", "[1]@", "[1] @", "[1]@+0", "[1]@)", "[1]@]0", "[1]@.0", "[1]@,", "[1@)0", "[1@,2]0", "[1@.0", "[1 @1]0", "[1@[", "[1](0@",
		"[(1@]0", "[(1)@)]0", "[(@)]0", "[1@;]0",
		"[@+1]0", "[1+@]0", "[!@]0", "[@64]0", "[@01]0", "[@00]0", "[@v29]0", "[@v]0", "[@v00]0", "[@a]0", "[v0@a]0", "[v0@v1]0", "[v0 @v1]0", "[v0<@]0",
		"[v0<@<=1]0", "[v0=@=1]0", "[@[1]]0", "[v0@\t]0", "[@sum]0",
		"[@tau]0", "[1]p@", "[1]@64", "[1]tau@", "[1]@1", "[1]@00", "a.[@]0", "a.[1@)0", "sum 3.[@]0", "sum 3.[v0@",
	} {
		expectError(t, bodySource(process), impl.ErrSyntax)
	}
}

// TestFirstErrorsOfSums: the word begins a sum only if a digit follows.
func TestFirstErrorsOfSums(t *testing.T) {
	for _, process := range []string{
		"sum@", "sum  @", "sum@+ 0", "sum @+ 0", "sum@)", "sum @v0.0", "sum @a.0", "sum@[1]0", "sum @[1]0", "sum @$", "sum@,", "sum3@", "sum3 @3.0", "sum0@", "sums@",
		"sum @0.0", "sum @8.0", "sum @9.0", "sum @10.0", "sum @63.0", "sum @64.0", "sum @03.0", "sum @00.0", "sum @77777777777777777777.0", "sum    @8.0", "sum @8",
		"sum 1@", "sum 1 @", "sum 1@a", "sum 1@(0)", "sum 1@)", "sum 1@,0", "sum 1@[1]0", "sum 1 @1.0", "sum 1 @0", "sum 1@+0", "sum 1@=", "sum 1.@", "sum 1. @",
		"sum 1.@.0", "sum 1.@1", "sum 1.@1.0", "sum 1.@+0", "sum 1.@)",
		"sum 1.sum@", "sum 1.sum 1@", "sum 1.sum @8.0", "sum 1.0@.0", "sum 1.a@", "sum 1.0 + sum@", "a.sum @0.0", "a.sum @8.0", "a.sum 3@", "a.sum 3@)", "a.sum 3.@",
		"a.sum 3.p@", "a.sum @v0", "a.sum @p", "a.sum@[1]0", "a.sum.sum @8.0",
		"(sum@)", "(sum 1@)", "(sum 1.0@", "sum(1)@", "sum(1) @3", "sum(1) @+ 0", "sum(@)",
	} {
		expectError(t, bodySource(process), impl.ErrSyntax)
	}
}

func TestFirstErrorsOfOtherLines(t *testing.T) {
	start := "proc p 0 = a.p\nproc q 2 = 0\n"
	for _, line := range []string{
		"run@", "run  @", "run @|", "run @0", "run @(", "run @p1234567890", "run @P", "run @,", "run @64", "@runp", "@run1 p", "@r", "@running0000", "@Run p",
		"run p@,", "run p@.", "run p @p", "run p @0", "run p@)", "run p@=", "run p@+p", "run p@$", "run p@\r", "run p |@", "run p | @", "run p | @|", "run p | @0",
		"run p|@|", "run p | p @q", "run p | p@)",
		"run p(@", "run p(@)", "run p( @)", "run p(@,1)", "run p(1@", "run p(1 @", "run p(1 @2)", "run p(1,@)", "run p(1,@", "run p(1,@,2)", "run p(1@|",
		"run p(1)@(2)", "run p(1)@)", "run p(1) @q", "run p(1)@1", "run p(1)@.0",
		"run p(@64)", "run p(0,@64)", "run p(@00)", "run p(@07)", "run p(@-1)", "run p(@v0)", "run p(@a)", "run p(1@+1)", "run p(@(1))", "run p(@!0)", "run p(1@])",
		"run p(@99999999999999999999)",
	} {
		expectError(t, start+line, impl.ErrSyntax)
		expectError(t, start+line+"\nallow a", impl.ErrSyntax)
	}
	start += "run p\n"
	for _, line := range []string{
		"meet@", "meet @", "meet a@", "meet a @", "meet a b@", "meet a b  @", "meet a b c@.", "meet a b c @d", "meet a b c @1", "meet @tau b c", "meet a @tau c",
		"meet a b @tau", "meet @1 b c", "meet a @1 c", "meet a b @1",
		"meet a@(1) b c", "meet a@, b c", "meet a @B c", "meet a b @abcdefghijk", "meet @abcdefghijk b c", "meet a @abcdefghijk c", "meet a b@|c", "@meets a b c",
		"@meet1", "meet a b c@\r", "meet a b c@+",
		"allow@", "allow   @", "allow @1", "allow @tau", "allow a @tau", "allow a b @tau c", "allow a @1", "allow a@,b", "allow a@.", "allow a@(1)",
		"allow @abcdefghijk", "allow a @abcdefghijk", "allow a @B", "@allows a", "allow a@\t",
		"hide@", "hide   @", "hide @1", "hide @tau", "hide a @tau", "hide a b @tau c", "hide a @1", "hide a@,b", "hide a@.", "hide a@(1)", "hide @abcdefghijk",
		"hide a @abcdefghijk", "hide a @B", "@hides a", "hide a@\t",
	} {
		expectError(t, start+line, impl.ErrSyntax)
		expectError(t, start+line+"\n\n$", impl.ErrSyntax)
	}
}

// TestFirstErrorsInTheOrderOfLines takes lines that are missing, come twice or in another order.
func TestFirstErrorsInTheOrderOfLines(t *testing.T) {
	for _, marked := range []string{
		"proc p 0 = 0\n@", "proc p 0 = 0\n  @", "@\nproc p 0 = 0\nrun p", "proc p 0 = 0\n@\nrun p", "proc p 0 = 0\n @\nproc q 0 = 0\nrun p", "@\n", "@\n\n\n",
		"@meet a b c", "@allow a", "@hide a", "proc p 0 = 0\n@meet a b c\nrun p", "proc p 0 = 0\n@allow a\nrun p", "proc p 0 = 0\n  @hide a\nrun p", "proc p 0 = 0\n@p\nrun p",
		"proc p 0 = 0\nrun p\n@", "proc p 0 = 0\nrun p\n   @", "proc p 0 = 0\nrun p\n@\nallow a", "proc p 0 = 0\nrun p\n@run p",
		"proc p 0 = 0\nrun p\n  @proc q 0 = 0", "run p\n@proc p 0 = 0", "proc p 0 = 0\nrun p\n@x",
		"proc p 0 = 0\nrun p\nmeet a b c\n@run p", "proc p 0 = 0\nrun p\nmeet a b c\n@proc q 0 = 0", "proc p 0 = 0\nrun p\nmeet a b c\n@",
		"proc p 0 = 0\nrun p\nallow a\n@allow b", "proc p 0 = 0\nrun p\nallow a\n@meet a b c", "proc p 0 = 0\nrun p\nallow a\n@run p",
		"proc p 0 = 0\nrun p\nallow a\n@proc q 0 = 0", "proc p 0 = 0\nrun p\nallow a\n  @",
		"proc p 0 = 0\nrun p\nhide a\n@hide b", "proc p 0 = 0\nrun p\nhide a\n@allow b", "proc p 0 = 0\nrun p\nhide a\n@meet a b c",
		"proc p 0 = 0\nrun p\nhide a\n@run p", "proc p 0 = 0\nrun p\nhide a\n@proc q 0 = 0",
		// Behind a hide line no line may stand, not even an empty one; the error is at what would be its first token.
		"proc p 0 = 0\nrun p\nhide a\n@", "proc p 0 = 0\nrun p\nallow a\nhide a\n@", "proc p 0 = 0\nrun p\nhide a\n  @hide b", "proc p 0 = 0\nrun p\nhide a\n  @",
		"proc p 0 = 0\nrun p\nhide a\n@$", "proc p 0 = 0\nrun p\nhide a\n @64",
		// The first line with an error counts, and in it the first error.
		"proc p 0 = a.@\n)\n", "proc p 0 = 0\nrun p @q )\n$", "proc p 0 = 0\n        @$\n$", "proc p @4 = a.(p)\nrun", "proc p 0 = a.(p@) + 64", "proc p 0 = 0\nrun p(@v0\nrun p",
	} {
		expectError(t, marked, impl.ErrSyntax)
	}
	// Without a run line, the error is in the line behind the last one.
	for lines := 1; lines < 8; lines++ {
		text := strings.Repeat("proc p 0 = a.p\n", lines)
		expect(t, impl.ParseSystem, in(text[:len(text)-1]), nil, lines, 0, impl.ErrSyntax)
		expect(t, impl.ParseSystem, in(text), nil, lines, 0, impl.ErrSyntax)
		expect(t, impl.ParseSystem, in(text+"  "), nil, lines, 2, impl.ErrSyntax)
		expect(t, impl.CanonicalSource, in(text[:len(text)-1]), nil, impl.ErrSyntax)
	}
	expect(t, impl.ParseSystem, in(""), nil, 0, 0, impl.ErrSyntax)
}

func TestNamesThatAreNotFound(t *testing.T) {
	for _, marked := range []string{
		"run @p", "run   @p", "run @p | q", "proc p 0 = 0\nrun @q", "proc p 0 = 0\nrun p | @q", "proc p 0 = 0\nrun p |  @pp | q", "proc pp 0 = 0\nrun @p",
		"proc p 0 = 0\nrun p(1) | @q(1)",
		"proc p 0 = a.@q\nrun p", "proc p 0 = a.  @q \nrun p", "proc p 0 = a.@a\nrun p", "proc p 0 = a.@p0\nrun p", "proc p 0 = a.@q\nrun q",
		"proc p 0 = a.p + b.@q + a.r\nrun s", "proc p 0 = a.(b.@b(1) + a.b(1))\nrun p",
		"proc p 0 = a.@q(1,2,3)\nrun p", "proc p 0 = a.@tau\nrun p", "proc p 0 = a.@tau(1)\nrun p", "proc p 0 = a.@sum\nrun p", "proc p 0 = a.sum.@sum(1)\nrun p",
		"proc p 0 = sum 1.a.@sum\nrun p", "proc p 0 = a.@proc\nrun p",
		"proc p 0 = a.q\nproc q 0 = a.@r\nrun x", "proc p 0 = a.q\nproc q 0 = a.p\nrun p | q | @r", "proc p 0 = p.p\nproc q 0 = q.q\nproc r 0 = [1]a(3).(b.q + c.@s)\nrun p",
		// Behind it all there may be more that is not valid.
		"proc p 0 = 0\nproc p 0 = 0\nrun @q", "proc p 0 = sum 1.sum 1.sum 1.sum 1.sum 1.sum 1.sum 1.a.@q\nrun p(1)\nallow a a", "proc p 0 = a(v28).@q\nrun p",
		"proc p 0 = a.p(1)\nrun @q | q | q | q",
	} {
		expectError(t, marked, impl.ErrNotFound)
	}
	// Names of definitions in later lines are found, those of actions are not, and an error of syntax comes first.
	expect(t, impl.IsSource, in("proc p 0 = a.q\nproc q 0 = b.p\nrun q | p"), true)
	expectError(t, "proc p 0 = a.q\nrun q\nallow @1", impl.ErrSyntax)
	expectError(t, "proc p 0 = a.q + b@\nrun q", impl.ErrSyntax)
	expectError(t, "proc p 0 = a.q\nproc q 0 = b@", impl.ErrSyntax)
	expect(t, impl.ParseSystem, in("proc p 0 = a.q"), nil, 1, 0, impl.ErrSyntax)
}

// invalidSources returns texts of systems that are not valid.
func invalidSources() []string {
	more := func(n int) string { return strings.Repeat("proc p 0 = 0\n", n) }
	return []string{
		more(2) + "run p", "proc p 0 = 0\nproc q 0 = 0\nproc p 1 = a.p(1)\nrun p",
		"proc p 0 = 0\nproc q 0 = 0\nproc r 0 = 0\nproc s 0 = 0\nproc t 0 = 0\nrun t", "proc p 0 = 0\nproc q 0 = 0\nproc r 0 = 0\nproc s 0 = 0\nproc t 0 = a.t\nrun p",
		bodySource(strings.Repeat("a.", 20) + "0"), bodySource(strings.Repeat("0+", 10) + "0"), bodySource("[v0]0"), bodySource("a(v0).0"),
		bodySource("sum 1.a(v1).0"), bodySource("(sum 1.0)+a(v0).0"),
		bodySource("[v28]0"), bodySource("a.p(1)"), bodySource("a.p(1,2,3,4,5)"), bodySource(strings.Repeat("sum 1.", 7) + "0"),
		"proc p 3 = " + strings.Repeat("sum 1.", 4) + "0\nrun p(1,2,3)",
		"proc p 1 = a.p\nrun p(1)", "proc p 1 = a.p(1,2)\nrun p(1)", "proc p 1 = [v1]0\nrun p(1)", "proc p 1 = a.p(v1)\nrun p(1)",
		bodySource("[" + strings.Repeat("!", 15) + "0]0"), bodySource("[" + strings.Repeat("0+", 7) + "!0]0"), bodySource("a(" + strings.Repeat("!", 60) + "0).0"),
		bodySource("a(" + strings.Repeat("0+", 300) + "0).0"),
		"proc p 0 = 0\nrun p | p | p | p", "proc p 0 = 0\nrun p(1)", "proc p 1 = 0\nrun p", "proc p 1 = 0\nrun p(1,2)", "proc p 3 = 0\nrun p(1,2)",
		"proc p 0 = 0\nrun p" + strings.Repeat("|p", 100),
		"proc p 0 = 0\nrun p\nmeet b a c", "proc p 0 = 0\nrun p\nmeet a b c\nmeet a b d", "proc p 0 = 0\nrun p\nmeet b b c\nmeet a b c",
		"proc p 0 = 0\nrun p\nmeet a b a", "proc p 0 = 0\nrun p\nmeet a b c\nmeet c c d",
		"proc p 0 = 0\nrun p\nmeet a a z\nmeet a b z\nmeet a c z\nmeet a d z\nmeet a e z\nmeet a f z\nmeet a g z",
		"proc p 0 = 0\nrun p\nallow a a", "proc p 0 = 0\nrun p\nallow b a", "proc p 0 = 0\nrun p\nallow " + strings.Join(manyNames(13), " "),
		"proc p 0 = 0\nrun p\nhide a a", "proc p 0 = 0\nrun p\nhide b a", "proc p 0 = 0\nrun p\nhide " + strings.Join(manyNames(13), " "), "proc p 0 = 0\nrun p\nallow a b\nhide a b a",
	}
}

func TestSourcesOfSystemsThatAreNotValid(t *testing.T) {
	for _, text := range invalidSources() {
		expect(t, impl.ParseSystem, in(text), nil, 0, 0, impl.ErrFormat)
		expect(t, impl.CanonicalSource, in(text), nil, impl.ErrFormat)
		expect(t, impl.IsSource, in(text), false)
		checkSource(t, text)
		// A name that is not found comes first, and an error of syntax before it.
		line := strings.Count(text[:strings.Index(text, "run ")], "\n")
		missing := strings.Replace(text, "run ", "run none | ", 1)
		expect(t, impl.ParseSystem, in(missing), nil, line, 4, impl.ErrNotFound)
		expect(t, impl.ParseSystem, in(missing+"\n"), nil, strings.Count(missing, "\n")+1, 0, impl.ErrSyntax)
	}
}

// TestLimitsOfSources reaches each limit exactly; what passes it by one is refused above.
func TestLimitsOfSources(t *testing.T) {
	for _, text := range []string{
		"proc p 0 = 0\nproc q 0 = a.s\nproc r 0 = 0\nproc s 0 = a.p\nrun s",
		bodySource(strings.Repeat("a.", 19) + "0"), bodySource(strings.Repeat("(0+", 9) + "a.0" + strings.Repeat(")", 9)), bodySource(strings.Repeat("sum 7.", 6) + "a(v0,v5).0"),
		"proc p 3 = " + strings.Repeat("sum 1.", 3) + "a(v0,v5).p(v3,v4,v5)\nrun p(63,0,63)",
		"proc abcdefghij 0 = z123456789.abcdefghij\nrun abcdefghij\nmeet a b z123456789\nallow z123456789\nhide z123456789",
		bodySource("[" + strings.Repeat("!", 14) + "0]0"), bodySource("[" + strings.Repeat("0+", 7) + "0]0"),
		bodySource("[" + strings.Repeat("(", 1000) + "0" + strings.Repeat(")", 1000) + "]0"),
		"proc p 0 = 0\nrun p | p | p", bodySource(strings.Repeat("(", 7000) + "0" + strings.Repeat(")", 7000)),
		"proc p 0 = 0\nrun p\nmeet a a z\nmeet a b z\nmeet a c z\nmeet a d z\nmeet a e z\nmeet a f z",
		"proc p 0 = 0\nrun p\nallow " + strings.Join(manyNames(12), " ") + "\nhide " + strings.Join(manyNames(12), " "),
		bodySource("[ 0 " + strings.Repeat(" ", 500) + " + 1 ]0"),
	} {
		s, line, at, code := impl.ParseSystem(text)
		if code != impl.OK || line != 0 || at != 0 || !impl.ValidSystem(s) {
			t.Errorf("%.300q: %d, %d, %d", text, line, at, code)
		}
		expect(t, impl.IsSource, in(text), true)
		expect(t, impl.CanonicalSource, in(text), exactly(s), impl.OK)
	}
}

// TestLongSources: a text of MaxSource bytes is parsed, and a longer one is refused whatever it says.
func TestLongSources(t *testing.T) {
	for _, text := range []string{"proc p 0 = 0\nrun p", "proc p 0 = a.q", "proc p 0 = a.(p)", "proc p 0 = a.q\nrun p", "proc p 0 = 0\nrun p(1)", "", "$"} {
		want, line, at, code := meaningOf(text + " ")
		if strings.Contains(text, "run") {
			longest := text + strings.Repeat(" ", impl.MaxSource-len(text))
			expect(t, impl.ParseSystem, in(longest), want, line, at, code)
			expect(t, impl.IsSource, in(longest), code == impl.OK)
		}
		for _, n := range []int{impl.MaxSource + 1, impl.MaxSource + 2, 100000} {
			for _, more := range []string{" ", "\n", "a"} {
				long := text + strings.Repeat(more, n-len(text))
				expect(t, impl.ParseSystem, in(long), nil, 0, 0, impl.ErrRange)
				expect(t, impl.IsSource, in(long), false)
				expect(t, impl.CanonicalSource, in(long), nil, impl.ErrRange)
			}
		}
	}
	expect(t, impl.ParseSystem, in(strings.Repeat(" ", impl.MaxSource)), nil, 0, impl.MaxSource, impl.ErrSyntax)
	expect(t, impl.ParseSystem, in(strings.Repeat("\n", impl.MaxSource)), nil, 0, 0, impl.ErrSyntax)
	end := bodySource("0")
	expect(t, impl.ParseSystem, in(end+strings.Repeat(" ", impl.MaxSource-len(end)-1)+"$"), nil, 1, impl.MaxSource-len("proc p 0 = 0\n")-1, impl.ErrSyntax)
}

// largestSystem has the most parts and the longest names and expressions that a system may have.
func largestSystem() impl.System {
	name := func(c string, k int) string { return strings.Repeat(c, 9) + fmt.Sprint(k) }
	e := vr(5)
	for range 7 {
		e = op(impl.OpAtMost, num(63), e)
	}
	var s impl.System
	for k := range 4 {
		body := []impl.Part{sumPart(7), sumPart(7), sumPart(7)}
		for range 5 {
			body = append(body, choicePart(), actPart(name("a", k), e, e), callPart(0, e, e, e))
		}
		s.Definitions = append(s.Definitions, def(name("d", k), 3, append(body, actPart("a", e, e), callPart(3, e, e, e))...))
	}
	for k := range int64(3) {
		s.Components = append(s.Components, impl.Component{Definition: k, Values: repeated(3, 63)})
	}
	for k := range 6 {
		s.Meetings = append(s.Meetings, impl.Meeting{Left: name("l", k), Right: name("r", k), Result: name("z", k)})
	}
	for k := range 10 {
		s.Allowed = append(s.Allowed, name("a", k))
	}
	s.Hidden = s.Allowed
	return s
}

func TestLargestSystem(t *testing.T) {
	s := largestSystem()
	text := exactly(s)
	expect(t, impl.ValidSystem, in(s), true)
	expect(t, impl.SystemText, in(s), text)
	expect(t, impl.ParseSystem, in(text), s, 0, 0, impl.OK)
	if len(text) > impl.MaxSource {
		t.Error(len(text))
	}
}
