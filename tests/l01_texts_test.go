package tests

import (
	"math"
	"math/big"
	"math/rand"
	"slices"
	"strings"
	"testing"

	"loop.example/g00417/impl"
)

// encoded writes a number in UTF-8 with the given number of bytes, shortest or not,
// code point or not, by the bit layout alone.
func encoded(c int, size int) string {
	if size == 1 {
		return string([]byte{byte(c)})
	}
	out := make([]byte, size)
	for i := size - 1; i > 0; i-- {
		out[i] = byte(0x80 | c&0x3f)
		c >>= 6
	}
	out[0] = byte(0xff<<(8-size)) | byte(c)
	return string(out)
}

func shortest(c int) string {
	switch {
	case c < 0x80:
		return encoded(c, 1)
	case c < 0x800:
		return encoded(c, 2)
	case c < 0x10000:
		return encoded(c, 3)
	}
	return encoded(c, 4)
}

// sampleTexts are valid texts, with code points of each size and the edges between them.
func sampleTexts() []string {
	list := []string{
		"", "a", "abc", "abcabc", "aé語", "éab", "\x01\x7f", "\u0080\u07ff\u0800\uffff",
		"\ud7ff\ue000", "\U00010000\U0010ffff", "\ufffd", "a\ufffdb", "\ufeffx", "\u00a0\u2028",
		" \t\r\n", "\"\\", "e\u0301", strings.Repeat("a", impl.MaxText),
		strings.Repeat("\u00e9", impl.MaxText/2), strings.Repeat("\U0001f600", impl.MaxText/4),
		strings.Repeat("語", 333) + "a",
	}
	random := rand.New(rand.NewSource(1))
	alphabet := []string{"a", "b", "é", "語", "\U0001f600", "Z", "\n"}
	for size := range 60 {
		var b strings.Builder
		for range size {
			b.WriteString(alphabet[random.Intn(len(alphabet))])
		}
		list = append(list, b.String())
	}
	return list
}

// notTexts are strings that no function may take for a text.
func notTexts() []string {
	return []string{
		"\x00", "a\x00", "\x00a", "a\x00b",
		"\x80", "\xbf", "a\x80", "\xff", "\xfe", "é\xff", "\xffa", "\xf8\x88\x80\x80\x80",
		"\xc0\x80", "\xc1\xbf", "\xe0\x80\x80", "\xe0\x9f\xbf", "\xf0\x80\x80\x80", "\xf0\x8f\xbf\xbf",
		"\xc3", "\xc3a", "\xe8\xaa", "\xe8\xaaa", "\xf0\x9f\x98", "\xf0\x9f\x98a", "\xef\xbf",
		"\xc3\xc3", "\xe8a\x9e",
		"\xed\xa0\x80", "\xed\xaf\xbf", "\xed\xb0\x80", "\xed\xbf\xbf",
		"\xed\xa0\xbd\xed\xb8\x80",
		"\xf4\x90\x80\x80", "\xf5\x80\x80\x80", "\xf7\xbf\xbf\xbf",
		strings.Repeat("a", impl.MaxText+1), strings.Repeat("é", impl.MaxText/2) + "a",
		strings.Repeat("語", 334), strings.Repeat("a", impl.MaxText-1) + "\xff",
		strings.Repeat("a", impl.MaxText-1) + "é", strings.Repeat("a", 1000000),
	}
}

func TestTextsAreRecognized(t *testing.T) {
	for _, s := range sampleTexts() {
		if !impl.TextOk(s) {
			t.Errorf("TextOk(%q) is false", s)
		}
	}
	for _, s := range notTexts() {
		if impl.TextOk(s) {
			t.Errorf("TextOk(%q) is true", s)
		}
	}
}

func TestStringsThatAreNotTexts(t *testing.T) {
	for _, s := range notTexts() {
		if list, ok := impl.Runes(s); ok || len(list) != 0 {
			t.Errorf("Runes(%q) = %v, %v", s, list, ok)
		}
		if n := impl.Length(s); n != -1 {
			t.Errorf("Length(%q) = %d", s, n)
		}
		if got := impl.Part(s, 1, 1) + impl.Part(s, 0, math.MaxInt) + impl.Part(s, 1, 0); got != "" {
			t.Errorf("Part(%q) = %q", s, got)
		}
		if impl.Find(s, "a") != 0 || impl.Find(s, s) != 0 || impl.Find(s, "") != 0 || impl.Find("aé", s) != 0 {
			t.Errorf("Find with %q is not 0", s)
		}
		if got := impl.Upper(s) + impl.Lower(s) + impl.Quote(s); got != "" {
			t.Errorf("Upper, Lower or Quote of %q: %q", s, got)
		}
	}
}

func TestBytesOfCodePointAreNotFoundInside(t *testing.T) {
	if impl.Find("é", "\xa9") != 0 || impl.Find("é", "\xc3") != 0 {
		t.Fatal("a part of a code point is found")
	}
}

func TestEveryCodePoint(t *testing.T) {
	for c := 1; c <= 1114111; c++ {
		if c == 55296 {
			c = 57344
		}
		want := shortest(c)
		s, ok := impl.TextOf([]int{c})
		if !ok || s != want {
			t.Fatalf("TextOf(%d) = %q, %v", c, s, ok)
		}
		list, ok := impl.Runes(want)
		if !ok || len(list) != 1 || list[0] != c {
			t.Fatalf("Runes(%q) = %v, %v", want, list, ok)
		}
	}
}

func TestEdgesOfCodePoints(t *testing.T) {
	for _, c := range []int{1, 9, 127, 128, 2047, 2048, 55295, 57344, 65533, 65535, 65536, 1114111} {
		s, ok := impl.TextOf([]int{97, c})
		if !ok || s != "a"+shortest(c) || !impl.TextOk(s) {
			t.Errorf("TextOf of 97 and %d = %q, %v", c, s, ok)
		}
	}
	wrong := []int{
		0, -1, -97, 55296, 56319, 56320, 57343, 1114112, 2097151, math.MinInt, math.MaxInt,
		1<<32 + 97, -1<<32 + 97, 1 << 32, 1 << 31, math.MinInt32, math.MaxInt32,
	}
	for _, c := range wrong {
		for _, list := range [][]int{{c}, {97, c}, {c, 97}, {97, c, 98}} {
			if s, ok := impl.TextOf(list); ok || s != "" {
				t.Errorf("TextOf(%v) = %q, %v", list, s, ok)
			}
		}
	}
}

func TestEncodingsOfOtherNumbers(t *testing.T) {
	for _, c := range []int{0, 55296, 56000, 57343, 1114112, 2097151} {
		if s := shortest(c); impl.TextOk(s) || impl.TextOk("a"+s+"b") {
			t.Errorf("the encoding of %d is a text", c)
		}
	}
	for _, c := range []int{0, 1, 97, 127, 128, 2047, 2048, 65535} {
		for size := len(shortest(c)) + 1; size <= 4; size++ {
			if s := encoded(c, size); impl.TextOk(s) {
				t.Errorf("%d in %d bytes is a text", c, size)
			}
		}
	}
	for _, c := range []int{128, 2047, 2048, 8364, 65535, 65536, 1114111} {
		whole := shortest(c)
		for n := 1; n < len(whole); n++ {
			if impl.TextOk(whole[:n]) || impl.TextOk(whole[:n]+"a") || impl.TextOk(whole[n:]) {
				t.Errorf("%d of the bytes of %d are a text", n, c)
			}
		}
	}
}

// ofShortest reads s by the definition: encodings of code points, one after the other.
func ofShortest(s string) bool {
	for s != "" {
		size := 0
		for n := 1; n <= 4 && n <= len(s); n++ {
			c := decoded(s[:n])
			if c >= 1 && c <= 1114111 && (c < 55296 || c > 57343) && shortest(c) == s[:n] {
				size = n
			}
		}
		if size == 0 {
			return false
		}
		s = s[size:]
	}
	return true
}

func decoded(s string) int {
	if len(s) == 1 {
		return int(s[0])
	}
	c := int(s[0]) & (0x7f >> len(s))
	for i := 1; i < len(s); i++ {
		c = c<<6 | int(s[i])&0x3f
	}
	return c
}

func TestTextOkByDefinition(t *testing.T) {
	for a := range 256 {
		for b := range 256 {
			for _, s := range []string{string([]byte{byte(a)}), string([]byte{byte(a), byte(b)}), string([]byte{byte(a), byte(b), 0x80}), string([]byte{byte(a), byte(b), 0xbf, 0xbf})} {
				if impl.TextOk(s) != ofShortest(s) {
					t.Fatalf("TextOk(%q) = %v", s, impl.TextOk(s))
				}
			}
		}
	}
	random := rand.New(rand.NewSource(2))
	bytes := []byte{0, 1, 'a', 0x7f, 0x80, 0x8f, 0x90, 0x9f, 0xa0, 0xbf, 0xc1, 0xc2, 0xdf, 0xe0, 0xe1, 0xed, 0xef, 0xf0, 0xf4, 0xf5, 0xff}
	for range 200000 {
		raw := make([]byte, random.Intn(7))
		for i := range raw {
			raw[i] = bytes[random.Intn(len(bytes))]
		}
		if s := string(raw); impl.TextOk(s) != ofShortest(s) {
			t.Fatalf("TextOk(%q) = %v", s, impl.TextOk(s))
		}
	}
}

func TestP2TextOfItsCodePoints(t *testing.T) {
	for _, s := range sampleTexts() {
		list, ok := impl.Runes(s)
		if !ok {
			t.Fatalf("Runes(%q) is false", s)
		}
		again, ok := impl.TextOf(list)
		if !ok || again != s {
			t.Errorf("the text of the code points of %q is %q, %v", s, again, ok)
		}
		if impl.Length(s) != len(list) {
			t.Errorf("Length(%q) = %d of %d", s, impl.Length(s), len(list))
		}
		for i, c := range list {
			if impl.Part(s, i+1, 1) != shortest(c) {
				t.Errorf("code point %d of %q is not %d", i+1, s, c)
			}
		}
	}
}

func TestLimitOfTextOf(t *testing.T) {
	for _, c := range []int{97, 233, 35486, 128512} {
		size := len(shortest(c))
		list := slices.Repeat([]int{c}, impl.MaxText/size)
		rest := impl.MaxText % size
		list = append(list, slices.Repeat([]int{98}, rest)...)
		s, ok := impl.TextOf(list)
		if !ok || len(s) != impl.MaxText {
			t.Errorf("%d: %d bytes, %v", c, len(s), ok)
		}
		if s, ok := impl.TextOf(append(list, 97)); ok || s != "" {
			t.Errorf("%d: MaxText + 1 bytes are accepted", c)
		}
	}
	wide := append(slices.Repeat([]int{97}, impl.MaxText-1), 233)
	if s, ok := impl.TextOf(wide); ok || s != "" {
		t.Error("MaxText code points of MaxText + 1 bytes are accepted")
	}
	if s, ok := impl.TextOf(slices.Repeat([]int{128512}, 251)); ok || s != "" {
		t.Error("251 code points of four bytes are accepted")
	}
	if s, ok := impl.TextOf(nil); !ok || s != "" {
		t.Error("the empty list is rejected")
	}
	if s, ok := impl.TextOf([]int{}); !ok || s != "" {
		t.Error("the empty list is rejected")
	}
}

func TestTextOfLeavesItsListAlone(t *testing.T) {
	list := []int{104, 233, 0, -5}
	before := slices.Clone(list)
	if s, ok := impl.TextOf(list[:2]); !ok || s != "hé" {
		t.Fatalf("%q, %v: elements behind the length are read", s, ok)
	}
	impl.TextOf(list)
	if !slices.Equal(list, before) {
		t.Fatalf("the list is changed to %v", list)
	}
}

func TestResultsOfRunesAreNew(t *testing.T) {
	first, _ := impl.Runes("abc")
	first[0] = 0
	if again, ok := impl.Runes("abc"); !ok || again[0] != 97 {
		t.Fatalf("the second list is %v", again)
	}
}

func TestLength(t *testing.T) {
	cases := map[string]int{
		"": 0, "a": 1, "a\u00e9\u8a9e": 3, "\U0001f600": 1, "e\u0301": 2, "\r\n": 2,
		strings.Repeat("a", impl.MaxText):            impl.MaxText,
		strings.Repeat("é", impl.MaxText/2):          impl.MaxText / 2,
		strings.Repeat("\U0001f600", impl.MaxText/4): impl.MaxText / 4,
	}
	for s, want := range cases {
		if got := impl.Length(s); got != want {
			t.Errorf("Length(%q) = %d, not %d", s, got, want)
		}
	}
}

// partOf is Part by its definition, with numbers that do not overflow.
func partOf(s string, from int, count int) string {
	begin := big.NewInt(int64(from))
	end := new(big.Int).Add(begin, big.NewInt(int64(count)))
	out := ""
	for i, c := range []rune(s) {
		n := big.NewInt(int64(i + 1))
		if n.Cmp(begin) >= 0 && n.Cmp(end) < 0 {
			out += string(c)
		}
	}
	return out
}

func TestPartByDefinition(t *testing.T) {
	numbers := []int{
		math.MinInt, math.MinInt + 1, math.MinInt + 2, math.MinInt + 5, math.MinInt / 2,
		-1000, -6, -5, -4, -3, -2, -1, 0, 1, 2, 3, 4, 5, 6, 7, 8, 999, 1000, 1001,
		math.MaxInt / 2, math.MaxInt - 5, math.MaxInt - 4, math.MaxInt - 3, math.MaxInt - 2, math.MaxInt - 1, math.MaxInt,
	}
	for _, s := range []string{"", "a", "abc", "aé語\U0001f600z", "ééééé", "abcdef"} {
		for _, from := range numbers {
			for _, count := range numbers {
				if got, want := impl.Part(s, from, count), partOf(s, from, count); got != want {
					t.Fatalf("Part(%q, %d, %d) = %q, not %q", s, from, count, got, want)
				}
			}
		}
	}
}

func TestPartExamples(t *testing.T) {
	if got := impl.Part("abcdef", 2, 3); got != "bcd" {
		t.Error(got)
	}
	if got := impl.Part("abc", -1, 3); got != "a" {
		t.Error(got)
	}
	whole := strings.Repeat("a", impl.MaxText)
	if impl.Part(whole, 1, impl.MaxText) != whole || impl.Part(whole, math.MinInt+2, math.MaxInt) != "" {
		t.Error("parts of a text of MaxText bytes")
	}
	if impl.Part(whole, -math.MaxInt, math.MaxInt) != "" || impl.Part(whole, 2-math.MaxInt, math.MaxInt) != "a" {
		t.Error("from + count is 0 or 2")
	}
}

func TestP2FirstAndRemainingCodePoints(t *testing.T) {
	for _, s := range sampleTexts() {
		length := impl.Length(s)
		counts := []int{0, 1, 2, 3, length - 1, length, length + 1, length + 7, impl.MaxText, math.MaxInt - 1}
		for _, n := range counts {
			if n < 0 {
				continue
			}
			first, rest := impl.Part(s, 1, n), impl.Part(s, n+1, math.MaxInt)
			if first+rest != s || impl.Part(s, n+1, impl.MaxText) != rest {
				t.Errorf("%q at %d: %q and %q", s, n, first, rest)
			}
			if impl.Length(first) != min(n, length) {
				t.Errorf("the first %d of %q are %d", n, s, impl.Length(first))
			}
		}
		if impl.Part(s, 1, math.MaxInt) != s {
			t.Errorf("the first of %q are not all of it", s)
		}
	}
}

func TestFindExamples(t *testing.T) {
	cases := []struct {
		s, t string
		want int
	}{
		{"\u00e9ab", "ab", 2}, {"ab", "", 0}, {"", "", 0}, {"", "a", 0}, {"a", "ab", 0}, {"ab", "ab", 1},
		{"ab", "c", 0}, {"aab", "ab", 2}, {"aaab", "aab", 2}, {"abab", "ab", 1}, {"xyab", "b", 4},
		{"語é語é", "é語", 2}, {"\U0001f600\U0001f601", "\U0001f601", 2}, {"aA", "A", 2}, {"ab", "abc", 0},
		{strings.Repeat("a", 999) + "b", "ab", 999}, {strings.Repeat("é", 499) + "bc", "c", 501},
		{strings.Repeat("a", 1000), strings.Repeat("a", 1000), 1},
	}
	for _, c := range cases {
		if got := impl.Find(c.s, c.t); got != c.want {
			t.Errorf("Find(%q, %q) = %d, not %d", c.s, c.t, got, c.want)
		}
	}
}

func TestP2WhatIsFoundOccursThereFirst(t *testing.T) {
	parts := []string{"a", "b", "ab", "ba", "aa", "é", "aé", "語", "éa\U0001f600", "\n", "abab", "Z語"}
	for _, s := range sampleTexts() {
		length := impl.Length(s)
		for _, p := range append(parts, impl.Part(s, length/2, 3), impl.Part(s, length, 1), s) {
			want, size := 0, impl.Length(p)
			for n := length - size + 1; n >= 1 && size > 0; n-- {
				if impl.Part(s, n, size) == p {
					want = n
				}
			}
			if got := impl.Find(s, p); got != want {
				t.Errorf("Find(%q, %q) = %d, not %d", s, p, got, want)
			}
		}
	}
}

func TestUpperAndLower(t *testing.T) {
	cases := []struct{ s, upper, lower string }{
		{"", "", ""}, {"a\u00e9z1", "A\u00e9Z1", "a\u00e9z1"}, {"ABc", "ABC", "abc"},
		{"@[`{", "@[`{", "@[`{"}, {"AZaz", "AZAZ", "azaz"}, {"Ààßıſ\u212a", "Ààßıſ\u212a", "Ààßıſ\u212a"},
		{"\U00010400x", "\U00010400X", "\U00010400x"},
		{strings.Repeat("mN", 500), strings.Repeat("MN", 500), strings.Repeat("mn", 500)},
	}
	for _, c := range cases {
		if got := impl.Upper(c.s); got != c.upper {
			t.Errorf("Upper(%q) = %q", c.s, got)
		}
		if got := impl.Lower(c.s); got != c.lower {
			t.Errorf("Lower(%q) = %q", c.s, got)
		}
	}
	for c := 1; c < 1024; c++ {
		upper, lower := c, c
		if c >= 97 && c <= 122 {
			upper = c - 32
		}
		if c >= 65 && c <= 90 {
			lower = c + 32
		}
		if impl.Upper(shortest(c)) != shortest(upper) || impl.Lower(shortest(c)) != shortest(lower) {
			t.Errorf("the letter %d", c)
		}
	}
}

func TestNumText(t *testing.T) {
	cases := map[int]string{
		0: "0", 1: "1", -1: "-1", 9: "9", 10: "10", -10: "-10", 100: "100", 1234567890: "1234567890",
		math.MaxInt: "9223372036854775807", math.MinInt: "-9223372036854775808",
		math.MaxInt - 7: "9223372036854775800", math.MinInt + 8: "-9223372036854775800",
	}
	for n, want := range cases {
		if got := impl.NumText(n); got != want {
			t.Errorf("NumText(%d) = %q", n, got)
		}
	}
	for n := -2000; n <= 2000; n++ {
		if got := impl.NumText(n); got != big.NewInt(int64(n)).String() {
			t.Errorf("NumText(%d) = %q", n, got)
		}
	}
}

func TestQuote(t *testing.T) {
	cases := map[string]string{
		"": `""`, "a": `"a"`, "\"": `"\""`, "\\": `"\\"`, "\n": `"\n"`, "\t": `"\t"`, "\r": `"\r"`,
		"a\"b\\\n": `"a\"b\\\n"`, "é語\U0001f600": "\"é語\U0001f600\"", "\\n": `"\\n"`, "'/": `"'/"`,
		"\x01\x08\x0b\x0c\x1f\x7f\u0080\ufffd": "\"\x01\x08\x0b\x0c\x1f\x7f\u0080\ufffd\"",
	}
	for s, want := range cases {
		if got := impl.Quote(s); got != want {
			t.Errorf("Quote(%q) = %q", s, got)
		}
	}
}

func TestQuoteOfTheLongestTexts(t *testing.T) {
	plain := strings.Repeat("a", impl.MaxText)
	if impl.Quote(plain) != "\""+plain+"\"" {
		t.Error("a text of MaxText letters")
	}
	escapes := map[string]string{"\"": `\"`, "\\": `\\`, "\n": `\n`, "\t": `\t`, "\r": `\r`}
	for c, escape := range escapes {
		want := "\"" + strings.Repeat(escape, impl.MaxText) + "\""
		if impl.Quote(strings.Repeat(c, impl.MaxText)) != want {
			t.Errorf("a text of MaxText times %q", c)
		}
	}
}
