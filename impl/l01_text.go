package impl

import "strconv"

const (
	MaxInputLen      = 20000
	MaxUint          = 1000000000
	MaxLineLen       = 600
	MaxFieldsPerLine = 24
)

const hexDigits = "0123456789abcdef"

func EncodeHex(s string) (string, bool) {
	if len(s) > MaxInputLen {
		return "", false
	}
	text := make([]byte, 0, 2*len(s))
	// By index, because a range over the string would decode runes.
	for i := range len(s) {
		text = append(text, hexDigits[s[i]>>4], hexDigits[s[i]&15])
	}
	return string(text), true
}

func DecodeHex(s string) (string, bool) {
	if len(s)%2 != 0 || len(s)/2 > MaxInputLen {
		return "", false
	}
	decoded := make([]byte, 0, len(s)/2)
	for i := 0; i < len(s); i += 2 {
		high, highOk := hexValue(s[i])
		low, lowOk := hexValue(s[i+1])
		if !highOk || !lowOk {
			return "", false
		}
		decoded = append(decoded, high<<4|low)
	}
	return string(decoded), true
}

// hexValue knows no capital letters: EncodeHex writes none, so a text with one
// is the encoding of no string.
func hexValue(digit byte) (byte, bool) {
	switch {
	case '0' <= digit && digit <= '9':
		return digit - '0', true
	case 'a' <= digit && digit <= 'f':
		return digit - 'a' + 10, true
	}
	return 0, false
}

func FormatInt(n int) string {
	return strconv.Itoa(n)
}

func ParseUint(s string) (int, bool) {
	n, err := strconv.Atoi(s)
	if err != nil || n < 0 || n > MaxUint {
		return 0, false
	}
	// Atoi also takes leading zeros and a plus sign, which FormatInt never writes.
	if FormatInt(n) != s {
		return 0, false
	}
	return n, true
}

func SplitFields(line string) ([]string, bool) {
	if len(line) > MaxLineLen {
		return nil, false
	}
	var fields []string
	start, end := 0, 0
scan:
	for end < len(line) {
		switch b := line[end]; {
		case b < ' ' || b > '~':
			break scan
		case b == ' ':
			fields = appendField(fields, line[start:end])
			start = end + 1
		}
		end++
	}
	if end < len(line) {
		return nil, false
	}
	fields = appendField(fields, line[start:])
	if len(fields) > MaxFieldsPerLine {
		return nil, false
	}
	return fields, true
}

// appendField leaves out the empty runs between neighbouring spaces and at both
// ends of a line, which are no fields.
func appendField(fields []string, field string) []string {
	if field == "" {
		return fields
	}
	return append(fields, field)
}

// Clamp applies low last, so that low wins if high is less than low.
func Clamp(n int, low int, high int) int {
	return max(low, min(n, high))
}
