package impl

import (
	"cmp"
	"slices"
	"strconv"
	"strings"
)

// The error codes of the package.
const (
	OK           = 0
	ErrInvalid   = 1
	ErrRange     = 2
	ErrNotFound  = 3
	ErrExists    = 4
	ErrFull      = 5
	ErrState     = 6
	ErrOrder     = 7
	ErrSyntax    = 8
	ErrFormat    = 9
	ErrChecksum  = 10
	ErrTruncated = 11
)

// The limits of names, lists and of numbers in texts.
const (
	MaxName  = 10
	MaxList  = 64
	MaxValue = 1000000000000
)

// Modulus is the number of values of data.
const Modulus = 64

// CrcStart is the usual start of Crc16.
const CrcStart = 65535

// The numbers and texts that the document fixes without a name.
const (
	maxDigits     = 18
	maxArguments  = 2
	emptyList     = "-"
	tauLabel      = "tau"
	crcMost       = 65535
	crcPolynomial = 4129
)

var codeNames = [...]string{
	"ok", "invalid", "range", "not-found", "exists", "full",
	"state", "order", "syntax", "format", "checksum", "truncated",
}

// CodeName returns the name of an error code.
func CodeName(code int64) string {
	if code < OK || code > ErrTruncated {
		return ""
	}
	return codeNames[code]
}

// IsName reports whether s is a name.
func IsName(s string) bool {
	if len(s) < 1 || len(s) > MaxName {
		return false
	}
	for i, r := range s {
		if !isSmallLetter(r) && (i == 0 || !isDigit(r)) {
			return false
		}
	}
	return true
}

func isSmallLetter(r rune) bool { return 'a' <= r && r <= 'z' }

func isDigit(r rune) bool { return '0' <= r && r <= '9' }

// Decimal returns the decimal form of n.
func Decimal(n int64) string { return strconv.FormatInt(n, 10) }

// ReadDecimal returns the number with the decimal form s.
func ReadDecimal(s string) (int64, bool) {
	if len(strings.TrimPrefix(s, "-")) > maxDigits {
		return 0, false
	}
	n, err := strconv.ParseInt(s, 10, 64)
	// ParseInt also takes a plus sign and leading zeros, which Decimal never writes.
	if err != nil || Decimal(n) != s {
		return 0, false
	}
	return n, true
}

// SplitWords returns the parts of a line between blanks.
func SplitWords(s string) []string {
	// strings.Fields would also split at tabs and newlines, which are no blanks.
	return strings.FieldsFunc(s, func(r rune) bool { return r == ' ' })
}

// ListText returns the text of a list of numbers.
func ListText(list []int64) string {
	if len(list) > MaxList || slices.ContainsFunc(list, outsideMaxValue) {
		return ""
	}
	if len(list) == 0 {
		return emptyList
	}
	return joinNumbers(list, ",")
}

func outsideMaxValue(n int64) bool { return n < -MaxValue || n > MaxValue }

func joinNumbers(list []int64, separator string) string {
	return strings.Join(mapEach(list, Decimal), separator)
}

// mapEach returns the list of what a function returns for each element of a list.
func mapEach[T, R any](list []T, result func(T) R) []R {
	results := make([]R, len(list))
	for i, x := range list {
		results[i] = result(x)
	}
	return results
}

// ReadList returns the list with the text s.
func ReadList(s string) ([]int64, bool) {
	if s == emptyList {
		return nil, true
	}
	list, ok := splitNumbers(s, ",")
	if !ok || ListText(list) != s {
		return nil, false
	}
	return list, true
}

// splitNumbers undoes joinNumbers for every list but the empty one.
func splitNumbers(s, separator string) ([]int64, bool) {
	words := strings.Split(s, separator)
	list := make([]int64, len(words))
	for i, word := range words {
		n, ok := ReadDecimal(word)
		if !ok {
			return nil, false
		}
		list[i] = n
	}
	return list, true
}

// Crc16 returns the check value of s.
func Crc16(s string, start int64) int64 {
	if start < 0 || start > crcMost {
		return 0
	}
	check := start
	for i := range len(s) {
		check = crcByte(check, s[i])
	}
	return check
}

func crcByte(check int64, b byte) int64 {
	check ^= int64(b) * 256
	for range 8 {
		check *= 2
		if check > crcMost {
			check = check&crcMost ^ crcPolynomial
		}
	}
	return check
}

// CompareLists compares two lists lexicographically.
func CompareLists(a, b []int64) int64 {
	for i := range minimum(len(a), len(b)) {
		if a[i] != b[i] {
			return int64(cmp.Compare(a[i], b[i]))
		}
	}
	return int64(cmp.Compare(len(a), len(b)))
}

func minimum[T cmp.Ordered](a, b T) T {
	if b < a {
		return b
	}
	return a
}

// IsAction reports whether s is the name of an action.
func IsAction(s string) bool { return IsName(s) && s != tauLabel }

// IsLabel reports whether s is a label.
func IsLabel(s string) bool {
	_, _, ok := readLabel(s)
	return ok
}

// LabelName returns the name of a label.
func LabelName(s string) string {
	name, _, _ := readLabel(s)
	return name
}

// LabelValues returns the values of a label.
func LabelValues(s string) ([]int64, bool) {
	_, values, ok := readLabel(s)
	return values, ok
}

func readLabel(s string) (string, []int64, bool) {
	name, list, open := strings.Cut(s, "(")
	var values []int64
	if open {
		var ok bool
		if values, ok = splitNumbers(strings.TrimSuffix(list, ")"), ","); !ok {
			return "", nil, false
		}
	}
	// Only the printed form is a label, so whatever was taken too leniently is refused here.
	if text := LabelText(name, values); text == "" || text != s {
		return "", nil, false
	}
	return name, values, true
}

// LabelText returns the label with a name and values.
func LabelText(name string, values []int64) string {
	if len(values) == 0 && name == tauLabel {
		return tauLabel
	}
	if !IsAction(name) || len(values) > maxArguments || slices.ContainsFunc(values, outsideModulus) {
		return ""
	}
	text := []byte(name)
	mark := '('
	for _, v := range values {
		text = strconv.AppendInt(append(text, byte(mark)), v, 10)
		mark = ','
	}
	if len(values) > 0 {
		text = append(text, ')')
	}
	return string(text)
}

func outsideModulus(v int64) bool { return v < 0 || v >= Modulus }
