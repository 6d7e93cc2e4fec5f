package tests

import (
	"math"
	"slices"
	"testing"

	"loop.example/g01075/impl"
)

func TestStepConstants(t *testing.T) {
	if impl.MaxSteps != 200 {
		t.Error(impl.MaxSteps)
	}
}

func TestValidPoint(t *testing.T) {
	list := example().Definitions
	for k, d := range list {
		for part := range d.Body {
			scope := int(scopeOf(d, part))
			isCall := d.Body[part].Kind == impl.PartCall
			for n := range 6 {
				expect(t, impl.ValidPoint, in(list, pt(int64(k), int64(part), repeated(n, 63)...)), n == scope && !isCall)
			}
			for i := range scope {
				for _, wrong := range []int64{-1, 64, math.MinInt64, math.MaxInt64} {
					values := repeated(scope, 0)
					values[i] = wrong
					expect(t, impl.ValidPoint, in(list, pt(int64(k), int64(part), values...)), false)
				}
			}
		}
		for _, part := range []int64{-1, int64(len(d.Body)), int64(len(d.Body)) + 1, math.MinInt64, math.MaxInt64} {
			for n := range 3 {
				expect(t, impl.ValidPoint, in(list, pt(int64(k), part, repeated(n, 0)...)), false)
			}
		}
	}
	for _, k := range []int64{-1, 4, math.MinInt64, math.MaxInt64} {
		for n := range 3 {
			expect(t, impl.ValidPoint, in(list, pt(k, 0, repeated(n, 0)...)), false)
		}
	}
	expect(t, impl.ValidPoint, in(list, pt(1, 0, repeated(1000, 0)...)), false)
	expect(t, impl.ValidPoint, in(definitionsOf(t, "proc p 3 = sum 7.sum 7.sum 7.0"), pt(0, 3, 0, 63, 1, 63, 8, 63)), true)
	// The other definitions must be valid as well.
	for _, list := range invalidDefinitions() {
		for k := range int64(4) {
			expect(t, impl.ValidPoint, in(list, pt(k, 0)), false)
			expect(t, impl.ValidPoint, in(list, pt(k, 0, 1)), false)
		}
	}
}

func TestStepsOfStopsAndActions(t *testing.T) {
	list := definitionsOf(t, "proc p 2 = a(v1).b.tau.c(v0,v1+1).0", "proc q 0 = 0")
	expectSteps(t, list, pt(0, 0, 3, 4), "a(4) p:1:3,4")
	expectSteps(t, list, pt(0, 1, 3, 4), "b p:2:3,4")
	expectSteps(t, list, pt(0, 2, 3, 4), "tau p:3:3,4")
	expectSteps(t, list, pt(0, 3, 3, 4), "c(3,5) p:4:3,4")
	expectSteps(t, list, pt(0, 3, 0, 63), "c(0,0) p:4:0,63")
	expectSteps(t, list, pt(0, 4, 3, 4))
	expectSteps(t, list, pt(1, 0))
}

func TestStepsOfCalls(t *testing.T) {
	list := definitionsOf(t, "proc p 1 = a.q(v0,v0*v0) + tau.r", "proc q 2 = b(v0,v1).p(v1-v0)", "proc r 0 = sum 1.c.r")
	expectSteps(t, list, pt(0, 0, 3), "a q:0:3,9", "tau r:0:-")
	expectSteps(t, list, pt(1, 0, 3, 9), "b(3,9) p:0:6")
	expectSteps(t, list, pt(1, 0, 9, 3), "b(9,3) p:0:58")
	expectSteps(t, list, pt(2, 0), "c r:0:-")
	expectSteps(t, list, pt(2, 1, 1), "c r:0:-")
	// The values of the caller do not stay: as many as the called definition has parameters are left.
	list = definitionsOf(t, "proc p 3 = sum 7.a.q", "proc q 0 = b.p(1,2,3)")
	expectSteps(t, list, pt(0, 0, 9, 8, 7), "a q:0:-")
	expectSteps(t, list, pt(1, 0), "b p:0:1,2,3")
	// A definition is told from an action of the same name, and may be named tau.
	list = definitionsOf(t, "proc a 0 = a.tau", "proc tau 0 = tau.a")
	expectSteps(t, list, pt(0, 0), "a tau:0:-")
	expectSteps(t, list, pt(1, 0), "tau a:0:-")
}

func TestStepsOfChoices(t *testing.T) {
	list := definitionsOf(t, "proc p 0 = (c.0 + a.0) + ((b.p + 0) + d.0)")
	expectSteps(t, list, pt(0, 0), "c p:3:-", "a p:5:-", "b p:0:-", "d p:12:-")
	expectSteps(t, list, pt(0, 1), "c p:3:-", "a p:5:-")
	expectSteps(t, list, pt(0, 6), "b p:0:-", "d p:12:-")
	expectSteps(t, list, pt(0, 7), "b p:0:-")
	expectSteps(t, definitionsOf(t, "proc p 0 = 0 + 0"), pt(0, 0))
}

func TestStepsOfGuards(t *testing.T) {
	list := definitionsOf(t, "proc p 1 = [v0]a.0 + [!v0]b.0 + [v0<5][2<v0]c.0 + [0]d.0 + [63]e.0")
	expectSteps(t, list, pt(0, 0, 0), "b p:7:0", "e p:19:0")
	// Each value other than 0 lets the part go on.
	for _, v := range []int64{1, 2, 32, 63} {
		expectSteps(t, list, pt(0, 1, v), stepText("a p:3:", v))
		expectSteps(t, list, pt(0, 5, v))
	}
	expectSteps(t, list, pt(0, 0, 3), "a p:3:3", "c p:12:3", "e p:19:3")
	expectSteps(t, list, pt(0, 0, 2), "a p:3:2", "e p:19:2")
	expectSteps(t, list, pt(0, 0, 5), "a p:3:5", "e p:19:5")
	expectSteps(t, definitionsOf(t, "proc p 1 = [v0](a.0 + [v0=2]sum 1.a.0)"), pt(0, 0, 2), "a p:3:2", "a p:7:2,0", "a p:7:2,1")
}

func stepText(front string, value int64) string { return front + impl.Decimal(value) }

func TestStepsOfSums(t *testing.T) {
	list := definitionsOf(t, "proc p 1 = sum 1.sum 2.a(v1,v2).p(v0) + b.0")
	expectSteps(t, list, pt(0, 0, 9), "a(0,0) p:0:9", "a(0,1) p:0:9", "a(0,2) p:0:9", "a(1,0) p:0:9", "a(1,1) p:0:9", "a(1,2) p:0:9", "b p:6:9")
	expectSteps(t, list, pt(0, 2, 9, 1), "a(1,0) p:0:9", "a(1,1) p:0:9", "a(1,2) p:0:9")
	// A value in a point may be greater than the Number of its sum.
	expectSteps(t, list, pt(0, 3, 9, 40, 63), "a(40,63) p:0:9")
	list = definitionsOf(t, "proc p 1 = sum 1.a.sum 1.b.0")
	expectSteps(t, list, pt(0, 0, 5), "a p:2:5,0", "a p:2:5,1")
	expectSteps(t, list, pt(0, 2, 5, 1), "b p:4:5,1,0", "b p:4:5,1,1")
	expectSteps(t, list, pt(0, 3, 5, 1, 0), "b p:4:5,1,0")
	// Two sums beside each other have the same variable.
	list = definitionsOf(t, "proc p 0 = sum 1.a(v0).0 + sum 2.[v0]b(v0).p")
	expectSteps(t, list, pt(0, 0), "a(0) p:3:0", "a(1) p:3:1", "b(1) p:0:-", "b(2) p:0:-")
	// The second branch of a choice has the value of the sum around both, not that of a sum inside of the first one.
	list = definitionsOf(t, "proc p 0 = sum 1.(sum 1.a(v0,v1).p + b(v0).p)")
	expectSteps(t, list, pt(0, 0), "a(0,0) p:0:-", "a(0,1) p:0:-", "b(0) p:0:-", "a(1,0) p:0:-", "a(1,1) p:0:-", "b(1) p:0:-")
	expectSteps(t, definitionsOf(t, "proc p 0 = sum 7.0"), pt(0, 0))
	expectSteps(t, definitionsOf(t, "proc p 0 = sum 7.[v0<2]sum 3.[v0<v1&v1<3]a(v0,v1).p"), pt(0, 0), "a(0,1) p:0:-", "a(0,2) p:0:-", "a(1,2) p:0:-")
}

func TestStepsOfEqualSteps(t *testing.T) {
	list := definitionsOf(t, "proc p 1 = a(v0).p(0) + b.p(0) + a(2).p(0) + a(2).p(1) + b.p(v0-v0)")
	expectSteps(t, list, pt(0, 0, 2), "a(2) p:0:0", "b p:0:0", "a(2) p:0:1")
	expectSteps(t, list, pt(0, 0, 3), "a(3) p:0:0", "b p:0:0", "a(2) p:0:0", "a(2) p:0:1")
	// Points at different parts differ even if nothing else does, as do those with different values.
	expectSteps(t, definitionsOf(t, "proc p 0 = a.0 + a.0"), pt(0, 0), "a p:2:-", "a p:4:-")
	expectSteps(t, definitionsOf(t, "proc p 0 = sum 2.a.0"), pt(0, 0), "a p:2:0", "a p:2:1", "a p:2:2")
	expectSteps(t, definitionsOf(t, "proc p 0 = a.p + a.q", "proc q 0 = 0"), pt(0, 0), "a p:0:-", "a q:0:-")
	expectSteps(t, definitionsOf(t, "proc p 0 = a.q(0,1) + a.q(1,0) + a.q(0,1)", "proc q 2 = 0"), pt(0, 0), "a q:0:0,1", "a q:0:1,0")
	// Of different values of a sum, the first one with which a step occurs gives its place.
	expectSteps(t, definitionsOf(t, "proc p 0 = sum 7.a(v0*32).p"), pt(0, 0), "a(0) p:0:-", "a(32) p:0:-")
	expectSteps(t, definitionsOf(t, "proc p 0 = sum 3.sum 3.a(v0+v1).p"), pt(0, 0), "a(0) p:0:-", "a(1) p:0:-", "a(2) p:0:-", "a(3) p:0:-", "a(4) p:0:-", "a(5) p:0:-", "a(6) p:0:-")
	// Labels with the same name differ by their values, also by how many there are.
	expectSteps(t, definitionsOf(t, "proc p 0 = a.p + a(0).p + a(0,0).p + a(1).p + a(1,0).p + aa.p + a(0).p"), pt(0, 0),
		"a p:0:-", "a(0) p:0:-", "a(0,0) p:0:-", "a(1) p:0:-", "a(1,0) p:0:-", "aa p:0:-")
	expectSteps(t, definitionsOf(t, "proc p 0 = a(0,1).p + a(1,0).p"), pt(0, 0), "a(0,1) p:0:-", "a(1,0) p:0:-")
	expectSteps(t, definitionsOf(t, "proc p 0 = tau.p + tau.p + taus.p"), pt(0, 0), "tau p:0:-", "taus p:0:-")
	expectSteps(t, definitionsOf(t, "proc p 0 = a(1,11).p + a(11,1).p"), pt(0, 0), "a(1,11) p:0:-", "a(11,1) p:0:-")
}

// TestStepsOfLimit has numbers of steps of MaxSteps and of one more, counted behind the removal of equal ones.
func TestStepsOfLimit(t *testing.T) {
	for _, c := range []struct {
		process string
		want    int
	}{
		{"sum 7.sum 4.sum 4.a.0", 200},
		{"sum 7.sum 4.sum 4.a.0 + b.0", -1},
		{"b.0 + sum 7.sum 4.sum 4.a.0", -1},
		{"sum 7.sum 4.sum 4.a.0 + [0]b.0", 200},
		{"sum 7.sum 4.sum 4.a(v0*8+v1,v2).p", 200},
		{"sum 7.sum 4.sum 4.(a(v0*8+v1,v2).p + a(v0*8+v1,v2).p)", 200},
		{"sum 7.sum 4.sum 4.a(v0*8+v1,v2).p + sum 7.sum 4.sum 4.a(v0*8+v1,v2).p", 200},
		{"sum 7.sum 4.sum 4.a(v0*8+v1,v2).p + a(60,4).p + a(0,0).p", 200},
		{"sum 7.sum 4.sum 4.a(v0*8+v1,v2).p + a(61,0).p", -1},
		{"sum 7.sum 4.sum 4.(a(v0*8+v1,v2).p + a(v0*8+v1,v2).p) + a(0,5).p", -1},
		{"sum 4.sum 4.sum 1.sum 4.a.0", -1},
		{"sum 1.sum 1.sum 4.sum 4.[v2+v3](a.0 + b.0)", 192},
		{"sum 7.sum 4.sum 4.(a.0 + [v0+v1+v2=0]b.0)", -1},
		{"sum 1.sum 1.sum 1.sum 4.sum 4.a.0", 200},
		{"sum 7.sum 7.sum 7.sum 7.sum 7.sum 7.a.p", 1},
		{"sum 7.sum 7.sum 7.sum 7.sum 7.sum 7.[v0+v1+v2+v3+v4+v5=42]a.0", 1},
		{"sum 7.sum 7.sum 7.sum 7.sum 7.sum 7.a.0", -1},
		{"sum 7.sum 7.sum 7.sum 7.sum 7.sum 7.0", 0},
	} {
		expectStepCount(t, definitionsOf(t, "proc p 0 = "+c.process), pt(0, 0), c.want)
	}
}

func TestStepsOfErrors(t *testing.T) {
	many := definitionsOf(t, "proc p 1 = sum 7.sum 7.sum 7.a.p(v0)")
	expectStepCount(t, many, pt(0, 3, 1, 1, 1, 1), 1)
	expectStepCount(t, many, pt(0, 1, 0, 0), 1)
	few := definitionsOf(t, "proc p 1 = sum 7.sum 7.sum 7.a.0")
	expectStepCount(t, few, pt(0, 0, 1), -1)
	expectStepCount(t, few, pt(0, 1, 1, 7), 64)
	for _, list := range [][]impl.Definition{many, few} {
		for _, p := range []impl.Point{
			pt(-1, 0), pt(2, 0), pt(0, -1, 1), pt(0, 5, 1, 1, 1, 1), pt(0, 0), pt(0, 0, 1, 1), pt(0, 0, 64), pt(0, 0, -1), pt(0, 3, 1), pt(0, 1, 1), pt(1, 0, 0),
			pt(math.MinInt64, math.MinInt64), pt(math.MaxInt64, math.MaxInt64), pt(0, 0, repeated(1000, 0)...),
		} {
			expect(t, impl.StepsOf, in(list, p), nil, impl.ErrInvalid)
			expect(t, impl.ValidPoint, in(list, p), false)
		}
	}
	// A call is no place to be at, with or without the values that are in scope there.
	for _, p := range []impl.Point{pt(0, 4), pt(0, 4, 1), pt(0, 4, 1, 1, 1, 1)} {
		expect(t, impl.StepsOf, in(many, p), nil, impl.ErrInvalid)
	}
	for _, list := range invalidDefinitions() {
		expect(t, impl.StepsOf, in(list, pt(0, 0)), nil, impl.ErrInvalid)
		expect(t, impl.StepsOf, in(list, pt(1, 0)), nil, impl.ErrInvalid)
		expect(t, impl.StepsOf, in(list, pt(-1, 0)), nil, impl.ErrInvalid)
	}
	// Definitions that are not valid go before too many steps, and so do points.
	list := slices.Clone(few)
	list[1].Name = "p"
	expect(t, impl.StepsOf, in(list, pt(0, 0, 1)), nil, impl.ErrInvalid)
}
