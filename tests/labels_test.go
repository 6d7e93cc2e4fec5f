package tests

import (
	"math"
	"regexp"
	"strings"
	"testing"

	"loop.example/g01075/impl"
)

func TestIsAction(t *testing.T) {
	for _, s := range []string{"a", "send", "tau1", "ta", "taut", "abcdefghij"} {
		expect(t, impl.IsAction, in(s), true)
	}
	for _, s := range []string{"", "tau", "1a", "A", "abcdefghijk", "a(1)", "a()", " a", "tau "} {
		expect(t, impl.IsAction, in(s), false)
	}
}

func expectLabel(t *testing.T, s, name string, values []int64) {
	t.Helper()
	expect(t, impl.IsLabel, in(s), true)
	expect(t, impl.LabelName, in(s), name)
	expect(t, impl.LabelValues, in(s), values, true)
	expect(t, impl.LabelText, in(name, values), s)
}

func expectNoLabel(t *testing.T, s string) {
	t.Helper()
	expect(t, impl.IsLabel, in(s), false)
	expect(t, impl.LabelName, in(s), "")
	expect(t, impl.LabelValues, in(s), nil, false)
}

func TestLabels(t *testing.T) {
	expectLabel(t, "send(1,0)", "send", []int64{1, 0})
	expectLabel(t, "tau", "tau", nil)
	expectLabel(t, "a", "a", nil)
	expectLabel(t, "a(0)", "a", []int64{0})
	expectLabel(t, "a(63)", "a", []int64{63})
	expectLabel(t, "a(63,63)", "a", []int64{63, 63})
	expectLabel(t, "tau1(5)", "tau1", []int64{5})
	expectLabel(t, "abcdefghij(10,9)", "abcdefghij", []int64{10, 9})
}

func TestTextsThatAreNoLabels(t *testing.T) {
	texts := []string{
		"", "A", "1", "1a", "abcdefghijk", "abcdefghijk(0)", "š", "š(1)", "a\xff", "a\xff(1)",
		"tau()", "tau(0)", "tau(0,0)", "tau(1)", "tau ", " tau", "Tau",
		"a()", "a(,)", "a(1,)", "a(,1)", "a(1,,2)", "a(1,2,)", "a(1,2,3)", "a(1,2,3,4)",
		"a(64)", "a(64,0)", "a(0,64)", "a(-1)", "a(0,-1)", "a(-0)", "a(1000000000001)", "a(18446744073709551617)",
		"a(01)", "a(00)", "a(1,02)", "a(+1)", "a(1,+2)", "a(0x1)", "a(1_0)", "a(v)", "a(١)",
		"a( 1)", "a(1 )", "a(1, 2)", "a(1 ,2)", "a (1)", "a(1) ", " a(1)", "a\n", "a(1)\n", "a(1\n)",
		"a(", "a)", "a(1", "a1)", "a(1,2", "a((1)", "a(1))", "a(1)(2)", "a(1)b", "(1)", "()", "(a)", "a[1]", "a(1;2)", "a(-)",
		"a(" + strings.Repeat("1,", 5000) + "1)", strings.Repeat("a", 5000), strings.Repeat("(", 5000),
	}
	for _, s := range texts {
		expectNoLabel(t, s)
	}
}

func TestLabelTextRefuses(t *testing.T) {
	for _, name := range []string{"", "A", "1a", "abcdefghijk", "a ", "a(1)", "a(", "š"} {
		for _, values := range [][]int64{nil, {0}, {0, 0}} {
			expect(t, impl.LabelText, in(name, values), "")
		}
	}
	for _, values := range [][]int64{{-1}, {64}, {0, -1}, {0, 64}, {64, 0}, {math.MinInt64}, {math.MaxInt64}, {0, 0, 0}, repeated(1000, 0)} {
		expect(t, impl.LabelText, in("a", values), "")
		expect(t, impl.LabelText, in("tau", values), "")
	}
	expect(t, impl.LabelText, in("tau", []int64{0}), "")
	expect(t, impl.LabelText, in("tau", []int64{1, 2}), "")
}

func TestPromise2LabelsAreReadBack(t *testing.T) {
	for _, name := range []string{"a", "z9", "tau1", "abcdefghij"} {
		expectLabel(t, name, name, nil)
		for x := range int64(impl.Modulus) {
			expectLabel(t, name+"("+impl.Decimal(x)+")", name, []int64{x})
			for y := range int64(impl.Modulus) {
				s := name + "(" + impl.Decimal(x) + "," + impl.Decimal(y) + ")"
				if values, ok := impl.LabelValues(s); !ok || !same(values, []int64{x, y}) {
					t.Error(s, values, ok)
				}
				if impl.LabelText(impl.LabelName(s), []int64{x, y}) != s {
					t.Error(s)
				}
			}
		}
	}
}

// labelForm is the form of labels, other than that tau has no values.
var labelForm = regexp.MustCompile(`\A[a-z][a-z0-9]{0,9}(\(([0-9]|[1-5][0-9]|6[0-3])(,([0-9]|[1-5][0-9]|6[0-3]))?\))?\z`)

func TestPromise2TextsAreLabelsExactlyInTheirForm(t *testing.T) {
	texts := []string{"", "tau", "tau(", "a(6", "a(63,", "aaaaaaaaa", "aaaaaaaaa("}
	letters := "a16(),- "
	for from, round := 0, 0; round < 4; round++ {
		end := len(texts)
		for _, s := range texts[from:end] {
			for i := range len(letters) {
				texts = append(texts, s+letters[i:i+1])
			}
		}
		from = end
	}
	for _, s := range texts {
		want := labelForm.MatchString(s) && !strings.HasPrefix(s, "tau(")
		values, ok := impl.LabelValues(s)
		if impl.IsLabel(s) != want || ok != want || (impl.LabelName(s) != "") != want {
			t.Errorf("whether %q is a label is not %v", s, want)
		}
		if want && impl.LabelText(impl.LabelName(s), values) != s {
			t.Errorf("%q is not read back", s)
		}
	}
}

func TestPromise2ComparingIsAntisymmetric(t *testing.T) {
	lists := [][]int64{nil}
	numbers := []int64{math.MinInt64, -1, 0, 1, math.MaxInt64}
	for _, x := range numbers {
		lists = append(lists, []int64{x})
		for _, y := range numbers {
			lists = append(lists, []int64{x, y}, []int64{x, y, x})
		}
	}
	for _, a := range lists {
		for _, b := range lists {
			there, back := impl.CompareLists(a, b), impl.CompareLists(b, a)
			if there != -back || there < -1 || there > 1 || (there == 0) != same(a, b) {
				t.Error(a, b, there, back)
			}
		}
	}
}
