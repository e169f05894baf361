package tests

import (
	"math"
	"slices"
	"strings"
	"testing"

	"loop.example/g00992/impl"
)

// The limits are written as numbers in these tests, not as the program's
// constants, so that a changed constant is noticed.

func allBytes() string {
	var b strings.Builder
	for i := range 256 {
		b.WriteByte(byte(i))
	}
	return b.String()
}

func TestTextLimits(t *testing.T) {
	if impl.MaxInputLen != 20000 || impl.MaxUint != 1000000000 {
		t.Error("limits of strings and numbers:", impl.MaxInputLen, impl.MaxUint)
	}
	if impl.MaxLineLen != 600 || impl.MaxFieldsPerLine != 24 {
		t.Error("limits of lines:", impl.MaxLineLen, impl.MaxFieldsPerLine)
	}
}

func TestEncodeHex(t *testing.T) {
	cases := []struct{ s, want string }{
		{"az", "617a"},
		{"", ""},
		{"\x00", "00"},
		{"\x0f\xf0", "0ff0"},
		{"\xff\n ~", "ff0a207e"},
		{"\u00e9", "c3a9"},
		{"\xc3", "c3"},
	}
	for _, c := range cases {
		if got, ok := impl.EncodeHex(c.s); !ok || got != c.want {
			t.Errorf("EncodeHex(%q) = %q, %v; want %q, true", c.s, got, ok, c.want)
		}
	}
}

func TestEncodeHexLimit(t *testing.T) {
	got, ok := impl.EncodeHex(strings.Repeat("a", 20000))
	if want := strings.Repeat("61", 20000); !ok || got != want {
		t.Error("20000 bytes are rejected or encoded wrongly:", len(got), ok)
	}
	if got, ok := impl.EncodeHex(strings.Repeat("a", 20001)); ok || got != "" {
		t.Error("20001 bytes are accepted:", len(got), ok)
	}
}

func TestDecodeHex(t *testing.T) {
	cases := []struct{ s, want string }{
		{"617a", "az"},
		{"", ""},
		{"00", "\x00"},
		{"0ff0", "\x0f\xf0"},
		{"0123456789abcdef", "\x01\x23\x45\x67\x89\xab\xcd\xef"},
		{"c3", "\xc3"},
	}
	for _, c := range cases {
		if got, ok := impl.DecodeHex(c.s); !ok || got != c.want {
			t.Errorf("DecodeHex(%q) = %q, %v; want %q, true", c.s, got, ok, c.want)
		}
	}
}

func TestDecodeHexRejects(t *testing.T) {
	for _, s := range []string{
		"6", "617", "617a6", "g", // odd length
		"6A", "A6", "FF", "617A", "Ab", // capital letters
		"0g", "g0", "617g", "g17a", "zz", "0x61", "0x",
		" 61 ", "6 1 ", "61\n0", "-1", "+1", "0\x00", "\u00e9", "\xff\xff",
	} {
		if got, ok := impl.DecodeHex(s); ok || got != "" {
			t.Errorf("DecodeHex(%q) = %q, %v; want \"\", false", s, got, ok)
		}
	}
}

// TestDecodeHexEachByte tries every byte as the high and as the low half.
func TestDecodeHexEachByte(t *testing.T) {
	for i := range 256 {
		b := string([]byte{byte(i)})
		value := strings.Index("0123456789abcdef", b)
		high, highOk := impl.DecodeHex(b + "0")
		low, lowOk := impl.DecodeHex("0" + b)
		if value < 0 {
			if highOk || lowOk || high != "" || low != "" {
				t.Errorf("byte %d is taken for a digit: %q %v, %q %v", i, high, highOk, low, lowOk)
			}
			continue
		}
		if !highOk || !lowOk || high != string([]byte{byte(16 * value)}) || low != string([]byte{byte(value)}) {
			t.Errorf("digit %q: %q %v, %q %v", b, high, highOk, low, lowOk)
		}
	}
}

func TestDecodeHexLimit(t *testing.T) {
	got, ok := impl.DecodeHex(strings.Repeat("61", 20000))
	if !ok || got != strings.Repeat("a", 20000) {
		t.Error("a result of 20000 bytes is rejected or wrong:", len(got), ok)
	}
	for _, n := range []int{40001, 40002, 80000} {
		if got, ok := impl.DecodeHex(strings.Repeat("6", n)); ok || got != "" {
			t.Error("a hexadecimal text is accepted that is too long:", n, len(got), ok)
		}
	}
}

func TestHexRoundTrip(t *testing.T) {
	list := []string{"", "a", "az", "\x00\x00", allBytes(), strings.Repeat(allBytes(), 78)}
	for i := range 256 {
		list = append(list, string([]byte{byte(i)}), string([]byte{byte(i), byte(255 - i)}))
	}
	for _, s := range list {
		text, ok := impl.EncodeHex(s)
		if !ok || len(text) != 2*len(s) || text != strings.ToLower(text) {
			t.Fatalf("EncodeHex(%q) = %q, %v", s, text, ok)
		}
		if got, ok := impl.DecodeHex(text); !ok || got != s {
			t.Errorf("DecodeHex(%q) = %q, %v; want %q, true", text, got, ok, s)
		}
	}
}

func TestFormatInt(t *testing.T) {
	cases := []struct {
		n    int
		want string
	}{
		{0, "0"}, {1, "1"}, {-1, "-1"}, {-5, "-5"}, {9, "9"}, {10, "10"}, {-10, "-10"},
		{100, "100"}, {-1007, "-1007"}, {1000000000, "1000000000"},
		{1234567890123456789, "1234567890123456789"},
		{math.MaxInt, "9223372036854775807"},
		{math.MinInt, "-9223372036854775808"},
		{math.MinInt + 1, "-9223372036854775807"},
	}
	for _, c := range cases {
		if got := impl.FormatInt(c.n); got != c.want {
			t.Errorf("FormatInt(%d) = %q; want %q", c.n, got, c.want)
		}
	}
}

func TestParseUint(t *testing.T) {
	cases := []struct {
		s    string
		want int
	}{
		{"0", 0}, {"1", 1}, {"9", 9}, {"10", 10}, {"100", 100}, {"123456789", 123456789},
		{"999999999", 999999999}, {"1000000000", 1000000000},
	}
	for _, c := range cases {
		if got, ok := impl.ParseUint(c.s); !ok || got != c.want {
			t.Errorf("ParseUint(%q) = %d, %v; want %d, true", c.s, got, ok, c.want)
		}
	}
}

func TestParseUintRejects(t *testing.T) {
	for _, s := range []string{
		"",
		"00", "01", "000", "007", "0000000001", "01000000000", strings.Repeat("0", 600) + "1",
		"-0", "-1", "-01", "-1000000000", "+0", "+1", "-", "+", "--1",
		"1000000001", "1000000010", "2000000000", "9999999999", "10000000000",
		"9223372036854775807", "9223372036854775808", "-9223372036854775808",
		"4294967297", "18446744073709551616", "18446744073709551617", strings.Repeat("9", 700),
		" 1", "1 ", "1 2", "1\n", "\t1", "1\x00", "/", ":", "1/", "1:", "a", "1a", "a1",
		"1.0", "1e3", "1_000", "0x1", "0b1", "0o7", "\u0661", "\uff11", "\xb1",
	} {
		if got, ok := impl.ParseUint(s); ok || got != 0 {
			t.Errorf("ParseUint(%q) = %d, %v; want 0, false", s, got, ok)
		}
	}
}

func TestDecimalRoundTrip(t *testing.T) {
	list := []int{0, 999999, 1000000, 999999999, 1000000000}
	for n := 1; n < 1000000000; n = 3*n + 1 {
		list = append(list, n)
	}
	for n := range 1200 {
		list = append(list, n)
	}
	for _, n := range list {
		s := impl.FormatInt(n)
		if got, ok := impl.ParseUint(s); !ok || got != n {
			t.Errorf("ParseUint(%q) = %d, %v; want %d, true", s, got, ok, n)
		}
		if got, ok := impl.ParseUint("0" + s); ok || got != 0 {
			t.Errorf("ParseUint(%q) = %d, %v; want 0, false", "0"+s, got, ok)
		}
		if got, ok := impl.ParseUint(impl.FormatInt(-n - 1)); ok || got != 0 {
			t.Errorf("ParseUint of %d = %d, %v; want 0, false", -n-1, got, ok)
		}
	}
}

func TestSplitFields(t *testing.T) {
	cases := []struct {
		line string
		want []string
	}{
		{"", nil},
		{" ", nil},
		{"     ", nil},
		{"a", []string{"a"}},
		{"days 1", []string{"days", "1"}},
		{" days  1 ", []string{"days", "1"}},
		{"   copy 0    5 1 2   ", []string{"copy", "0", "5", "1", "2"}},
		{"a a a", []string{"a", "a", "a"}},
		{"b a", []string{"b", "a"}},
		{"!~ \"x,y\"", []string{"!~", "\"x,y\""}},
	}
	for _, c := range cases {
		if got, ok := impl.SplitFields(c.line); !ok || !slices.Equal(got, c.want) {
			t.Errorf("SplitFields(%q) = %q, %v; want %q, true", c.line, got, ok, c.want)
		}
	}
}

// TestSplitFieldsEachByte puts every byte alone, first, between and last.
func TestSplitFieldsEachByte(t *testing.T) {
	for i := range 256 {
		b := string([]byte{byte(i)})
		for _, line := range []string{b, b + "ab", "a" + b + "b", "ab" + b, "a " + b + " b", "  " + b} {
			got, ok := impl.SplitFields(line)
			if i < 32 || i > 126 {
				if ok || len(got) != 0 {
					t.Errorf("SplitFields(%q) = %q, %v; want nil, false", line, got, ok)
				}
				continue
			}
			if want := strings.Fields(line); !ok || !slices.Equal(got, want) {
				t.Errorf("SplitFields(%q) = %q, %v; want %q, true", line, got, ok, want)
			}
		}
	}
}

func TestSplitFieldsLineLimit(t *testing.T) {
	long := strings.Repeat("x", 600)
	if got, ok := impl.SplitFields(long); !ok || !slices.Equal(got, []string{long}) {
		t.Error("a line of 600 bytes is rejected or split wrongly:", len(got), ok)
	}
	if got, ok := impl.SplitFields(strings.Repeat(" ", 600)); !ok || len(got) != 0 {
		t.Error("600 spaces:", got, ok)
	}
	tooLong := []string{long + "x", long + " ", strings.Repeat(" ", 601), "a" + strings.Repeat(" ", 599) + "b", strings.Repeat("x", 5000)}
	for _, line := range tooLong {
		if got, ok := impl.SplitFields(line); ok || len(got) != 0 {
			t.Error("a line is accepted that is too long:", len(line), len(got), ok)
		}
	}
}

func TestSplitFieldsFieldLimit(t *testing.T) {
	for _, space := range []string{" ", "   "} {
		for n := range 30 {
			line := strings.Repeat("x"+space, n)
			want := slices.Repeat([]string{"x"}, n)
			for _, l := range []string{line, space + line, strings.TrimRight(line, " ")} {
				got, ok := impl.SplitFields(l)
				if n <= 24 && (!ok || !slices.Equal(got, want)) {
					t.Errorf("%d fields: SplitFields(%q) = %q, %v", n, l, got, ok)
				}
				if n > 24 && (ok || len(got) != 0) {
					t.Errorf("%d fields: SplitFields(%q) = %q, %v; want nil, false", n, l, got, ok)
				}
			}
		}
	}
}

func TestSplitFieldsIsNew(t *testing.T) {
	first, _ := impl.SplitFields("a b")
	second, _ := impl.SplitFields("a b")
	if len(first) != 2 || len(second) != 2 {
		t.Fatal("unexpected fields", first, second)
	}
	first[0] = "changed"
	_ = append(first[:1], "changed")
	if !slices.Equal(second, []string{"a", "b"}) {
		t.Error("two results share memory:", second)
	}
}

func TestClamp(t *testing.T) {
	cases := []struct{ n, low, high, want int }{
		{9, 1, 5, 5}, {-9, 1, 5, 1}, {3, 1, 5, 3},
		{1, 1, 5, 1}, {5, 1, 5, 5}, {0, 1, 5, 1}, {6, 1, 5, 5},
		{-7, -5, -2, -5}, {0, -5, -2, -2}, {-3, -5, -2, -3},
		{4, 4, 4, 4}, {3, 4, 4, 4}, {5, 4, 4, 4},
		// The high end is less than the low end.
		{0, 5, 1, 5}, {1, 5, 1, 5}, {3, 5, 1, 5}, {5, 5, 1, 5}, {9, 5, 1, 5},
		{0, 1, -1, 1}, {7, math.MaxInt, math.MinInt, math.MaxInt},
		{math.MaxInt, -5, 5, 5}, {math.MinInt, -5, 5, -5},
		{math.MaxInt, math.MinInt, math.MaxInt, math.MaxInt},
		{math.MinInt, math.MinInt, math.MaxInt, math.MinInt},
		{0, math.MinInt, math.MaxInt, 0},
	}
	for _, c := range cases {
		if got := impl.Clamp(c.n, c.low, c.high); got != c.want {
			t.Errorf("Clamp(%d, %d, %d) = %d; want %d", c.n, c.low, c.high, got, c.want)
		}
	}
}

func TestClampIsInRange(t *testing.T) {
	for n := -6; n <= 6; n++ {
		for low := -6; low <= 6; low++ {
			for high := -6; high <= 6; high++ {
				got := impl.Clamp(n, low, high)
				switch {
				case high < low && got != low:
					t.Errorf("Clamp(%d, %d, %d) = %d; want %d", n, low, high, got, low)
				case high >= low && (got < low || got > high):
					t.Errorf("Clamp(%d, %d, %d) = %d is not in the range", n, low, high, got)
				case low <= n && n <= high && got != n:
					t.Errorf("Clamp(%d, %d, %d) = %d; want %d", n, low, high, got, n)
				}
			}
		}
	}
}
