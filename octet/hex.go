package octet

const digits = "0123456789abcdef"

// Hex answers two digits for each byte of s.
func Hex(s string) string {
	out := make([]byte, 0, 2*len(s))
	for _, b := range []byte(s) {
		out = append(out, digits[b>>4], digits[b&15])
	}
	return string(out)
}

// Unhex answers the bytes whose digits s has; false, if it isn't such.
func Unhex(s string) (string, bool) {
	if len(s)%2 != 0 {
		return "", false
	}
	out := make([]byte, 0, len(s)/2)
	for i := 0; i < len(s); i += 2 {
		high, isHigh := digit(s[i])
		low, isLow := digit(s[i+1])
		if !isHigh || !isLow {
			return "", false
		}
		out = append(out, high<<4|low)
	}
	return string(out), true
}

func digit(b byte) (byte, bool) {
	switch {
	case '0' <= b && b <= '9':
		return b - '0', true
	case 'a' <= b && b <= 'f':
		return b - 'a' + 10, true
	}
	return 0, false
}
