package tests

import (
	"math"
	"strings"
	"testing"

	"loop.example/g01075/impl"
)

func TestBasicsConstants(t *testing.T) {
	codes := []int64{impl.OK, impl.ErrInvalid, impl.ErrRange, impl.ErrNotFound, impl.ErrExists, impl.ErrFull,
		impl.ErrState, impl.ErrOrder, impl.ErrSyntax, impl.ErrFormat, impl.ErrChecksum, impl.ErrTruncated}
	if !same(codes, counted(12)) {
		t.Error("codes", codes)
	}
	limits := []int64{impl.MaxName, impl.MaxList, impl.MaxValue, impl.CrcStart, impl.Modulus}
	if !same(limits, []int64{10, 64, 1000000000000, 65535, 64}) {
		t.Error("limits", limits)
	}
}

func TestCodeName(t *testing.T) {
	names := strings.Fields("ok invalid range not-found exists full state order syntax format checksum truncated")
	for code, name := range names {
		expect(t, impl.CodeName, in(code), name)
	}
	for _, code := range []int64{-1, 12, 256, 1 << 32, math.MinInt64, math.MaxInt64} {
		expect(t, impl.CodeName, in(code), "")
	}
}

func TestIsName(t *testing.T) {
	for _, s := range []string{"a", "z", "a0", "z9", "tau", "sum", "abcdefghij", "a123456789"} {
		expect(t, impl.IsName, in(s), true)
	}
	for _, s := range []string{"", "0", "9a", "abcdefghijk", "A", "aB", "a_", "a-b", "a b", " a", "a ", "a\n", "a\x00",
		"`", "{", "a`", "a{", "a/", "a:", "š", "aš", "aé", "a١", "\xff", "a\xff", "a\xe1", strings.Repeat("a", 1000)} {
		expect(t, impl.IsName, in(s), false)
	}
}

func TestDecimal(t *testing.T) {
	for n, s := range map[int64]string{0: "0", 7: "7", -7: "-7", 10: "10", -120: "-120", 1000000000000: "1000000000000",
		math.MaxInt64: "9223372036854775807", math.MinInt64: "-9223372036854775808"} {
		expect(t, impl.Decimal, in(n), s)
	}
}

func TestReadDecimal(t *testing.T) {
	for _, n := range []int64{0, 1, -1, 9, 10, -10, 63, 64, impl.MaxValue, 99999999999999999, 100000000000000000,
		999999999999999999, -100000000000000000, -999999999999999999} {
		expect(t, impl.ReadDecimal, in(impl.Decimal(n)), n, true)
	}
	for _, n := range []int64{1000000000000000000, -1000000000000000000, math.MaxInt64, math.MinInt64} {
		expect(t, impl.ReadDecimal, in(impl.Decimal(n)), 0, false)
	}
	for _, s := range []string{"", "-", "--1", "-0", "00", "01", "-01", "+1", "+0", " 1", "1 ", "1\n", "1a", "a", "0x1", "1_0",
		"1.0", "1e3", "1-", "١", "12345678901234567890123", "000000000000000000", "0000000000000000001", "-\xff"} {
		expect(t, impl.ReadDecimal, in(s), 0, false)
	}
}

func TestSplitWords(t *testing.T) {
	for s, words := range map[string][]string{
		"":               nil,
		" ":              nil,
		"   ":            nil,
		"a":              {"a"},
		" a  bc ":        {"a", "bc"},
		"a b c":          {"a", "b", "c"},
		"a\tb\nc\rd":     {"a\tb\nc\rd"},
		"\t \n":          {"\t", "\n"},
		"a\u00a0b\u2003": {"a\u00a0b\u2003"},
		"\xff \xfe":      {"\xff", "\xfe"},
		"é é":            {"é", "é"},
	} {
		expect(t, impl.SplitWords, in(s), words)
	}
}

func TestListText(t *testing.T) {
	for s, list := range map[string][]int64{
		"-":                            nil,
		"0":                            {0},
		"-1":                           {-1},
		"3,0,-1":                       {3, 0, -1},
		"5,5,5":                        {5, 5, 5},
		"1000000000000,-1000000000000": {impl.MaxValue, -impl.MaxValue},
		strings.Repeat("7,", 63) + "7": repeated(64, 7),
	} {
		expect(t, impl.ListText, in(list), s)
		expect(t, impl.ReadList, in(s), list, true)
	}
	for _, list := range [][]int64{repeated(65, 7), repeated(1000, 0), {impl.MaxValue + 1}, {-impl.MaxValue - 1},
		{0, math.MinInt64}, {math.MaxInt64, 0}} {
		expect(t, impl.ListText, in(list), "")
	}
}

func TestReadListRefuses(t *testing.T) {
	for _, s := range []string{"", ",", "1,", ",1", "1,,2", "1, 2", " 1", "1 ", "1;2", "01", "1,02", "-0", "+1", "--", "-,1", "1,-",
		"1000000000001", "-1000000000001", "999999999999999999", "0,9223372036854775807", "a", "1\n", "[1]",
		strings.Repeat("7,", 64) + "7", strings.Repeat(",", 5000)} {
		expect(t, impl.ReadList, in(s), nil, false)
	}
}

// crcByDivision divides the bits of s behind the start by the polynomial, as a check of Crc16 in another way.
func crcByDivision(s string, start int64) int64 {
	var bits []int64
	for i := range len(s) {
		for k := 7; k >= 0; k-- {
			bits = append(bits, int64(s[i])>>k&1)
		}
	}
	bits = append(bits, make([]int64, 16)...)
	for k := range 16 {
		bits[k] ^= start >> (15 - k) & 1
	}
	for i := range len(bits) - 16 {
		if bits[i] == 1 {
			for k := range 17 {
				bits[i+k] ^= 0x11021 >> (16 - k) & 1
			}
		}
	}
	check := int64(0)
	for _, b := range bits[len(bits)-16:] {
		check = check*2 + b
	}
	return check
}

func TestCrc16(t *testing.T) {
	expect(t, impl.Crc16, in("123456789", impl.CrcStart), 10673)
	all := make([]byte, 256)
	for i := range all {
		all[i] = byte(i)
	}
	for _, s := range []string{"", "\x00", "a", "\x80", "\xff\xff\xff", "é", string(all), strings.Repeat("ab", 5000)} {
		for _, start := range []int64{0, 1, 4129, 32768, 65534, 65535} {
			expect(t, impl.Crc16, in(s, start), crcByDivision(s, start))
			expect(t, impl.Crc16, in("xy"+s, start), impl.Crc16(s, impl.Crc16("xy", start)))
		}
		for _, start := range []int64{-1, 65536, math.MinInt64, math.MaxInt64, 1 << 32} {
			expect(t, impl.Crc16, in(s, start), 0)
		}
	}
	expect(t, impl.Crc16, in("", 65535), 65535)
	expect(t, impl.Crc16, in("", 0), 0)
}

func TestCompareLists(t *testing.T) {
	ascending := [][]int64{nil, {math.MinInt64}, {math.MinInt64, math.MaxInt64}, {-1}, {0}, {0, -1}, {0, 0}, {0, 0, 0}, {0, 1},
		{1}, {1, -5, 9}, {2}, {2, 0}, append(repeated(100, 2), 1), repeated(101, 2), {math.MaxInt64}, {math.MaxInt64, 0}}
	for i, a := range ascending {
		for k, b := range ascending {
			want := 0
			if i < k {
				want = -1
			} else if i > k {
				want = 1
			}
			expect(t, impl.CompareLists, in(a, b), want)
		}
	}
}
