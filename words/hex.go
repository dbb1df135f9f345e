package words

import "polder/api"

var hexDigits = [16]byte{'0', '1', '2', '3', '4', '5', '6', '7', '8', '9', 'a', 'b', 'c', 'd', 'e', 'f'}

// Hex returns the hexadecimal form of b.
func Hex(b []byte) (string, api.Errno) {
	if len(b) > api.MaxHex {
		return "", api.ErrLong
	}
	s := make([]byte, 0, 2*len(b))
	for _, c := range b {
		s = append(s, hexDigits[c>>4], hexDigits[c&15])
	}
	return string(s), api.OK
}

// ParseHex returns the bytes whose hexadecimal form is s.
func ParseHex(s string) ([]byte, api.Errno) {
	if len(s) > 2*api.MaxHex {
		return nil, api.ErrLong
	}
	if len(s)%2 != 0 {
		return nil, api.ErrForm
	}
	b := make([]byte, 0, len(s)/2)
	for i := 0; i < len(s); i += 2 {
		high, low := hexValue(s[i]), hexValue(s[i+1])
		if high < 0 || low < 0 {
			return nil, api.ErrForm
		}
		b = append(b, byte(high<<4|low))
	}
	return b, api.OK
}

// hexValue returns the value of the digit c, or -1 if it is none.
func hexValue(c byte) int {
	for value, d := range hexDigits {
		if d == c {
			return value
		}
	}
	return -1
}
