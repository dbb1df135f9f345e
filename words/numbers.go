package words

import (
	"strconv"
	"strings"

	"polder/api"
)

// Digits returns the decimal form of n.
func Digits(n int64) string {
	return strconv.FormatInt(n, 10)
}

// Int returns the integer from min to max whose decimal form is s.
func Int(s string, min, max int64) (int64, api.Errno) {
	if min > max {
		return 0, api.ErrArg
	}
	if !decimal(s) {
		return 0, api.ErrForm
	}
	n, err := strconv.ParseInt(s, 10, 64)
	if err != nil || n < min || n > max { // a decimal form that ParseInt refuses is too large for it
		return 0, api.ErrRange
	}
	return n, api.OK
}

// decimal reports whether s is the decimal form of an integer of any size.
func decimal(s string) bool {
	size, negative := strings.CutPrefix(s, "-")
	return natural(size) && !(negative && size == "0")
}

// natural reports whether s is the decimal form of an integer of any size that is not negative.
func natural(s string) bool {
	return s != "" && (s == "0" || s[0] != '0') && all(s, digit)
}

// before reports whether a is shorter than b, or as long and before b in byte order. Naturals of any size are so ordered by their decimal forms, too.
func before(a, b string) bool {
	return len(a) < len(b) || len(a) == len(b) && a < b
}
