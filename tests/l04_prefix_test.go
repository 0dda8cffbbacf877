package tests

import (
	"math"
	"math/rand"
	"slices"
	"strings"
	"testing"

	"loop.example/g00417/impl"
)

// fourBlanks are the blanks, each as a text.
func fourBlanks() []string { return []string{" ", "\t", "\n", "\r"} }

// otherBlanks are texts that are blank to a reader or in Unicode, but not in the language.
func otherBlanks() []string {
	return []string{"\v", "\f", "\b", "\x1f", "\x0e", "\u0085", "\u00a0", "\u1680", "\u2003", "\u2028", "\u200b", "\u3000", "\ufeff"}
}

// leadingBlanks is the number of blanks before everything else.
func leadingBlanks(s string) int {
	return len(s) - len(strings.TrimLeft(s, " \t\n\r"))
}

// prefixEndOf tries every string that begins behind the leading blanks, the longest one first.
func prefixEndOf(s string) int {
	start := leadingBlanks(s)
	for end := len(s); end > start; end-- {
		if _, code := impl.DecRead(s[start:end]); code != impl.NumForm {
			return end
		}
	}
	return 0
}

// checkPrefix holds the three functions against their definitions, for a text whose PrefixEnd is known.
func checkPrefix(t *testing.T, s string, end int) {
	t.Helper()
	if got := impl.PrefixEnd(s); got != end {
		t.Fatalf("PrefixEnd(%q) is %d, not %d", s, got, end)
	}
	want, wantCode := impl.Dec{}, impl.NumOK
	if end > 0 {
		want, wantCode = impl.DecRead(s[leadingBlanks(s):end])
	}
	got, code := impl.Prefix(s)
	checkDec(t, "Prefix("+s+")", got, code, want, wantCode)
	looks := end > 0 && wantCode == impl.NumOK && leadingBlanks(s[end:]) == len(s)-end
	if got := impl.Looks(s); got != looks {
		t.Fatalf("Looks(%q) is %v", s, got)
	}
}

func TestBlanks(t *testing.T) {
	for c := -10; c <= 70000; c++ {
		want := c == 32 || c == 9 || c == 10 || c == 13
		if impl.IsBlank(c) != want {
			t.Errorf("IsBlank(%d) is %v", c, !want)
		}
	}
	for _, c := range []int{
		8, 11, 12, 14, 31, 33, 0, 133, 160, 5760, 8192, 8203, 8232, 8239, 12288, 65279, 1114111, 1114112,
		-1, -9, -10, -13, -32, math.MinInt, math.MinInt + 32, math.MaxInt, math.MaxInt - 32,
		// blanks, if they were cut to 8, 16 or 32 bits
		256 + 32, 65536 + 10, 1<<32 + 9, 1<<32 + 13, 1<<40 + 32, math.MinInt + 10,
	} {
		if impl.IsBlank(c) {
			t.Errorf("IsBlank(%d) is true", c)
		}
	}
}

func TestExamplesOfPrefixes(t *testing.T) {
	if end := impl.PrefixEnd("  12.5kg"); end != 6 {
		t.Error("PrefixEnd of 12.5kg behind two spaces is", end)
	}
	got, code := impl.Prefix("  12.5kg")
	checkDec(t, "Prefix of 12.5kg", got, code, impl.Dec{Dig: "125", Exp: -1}, impl.NumOK)
	if end := impl.PrefixEnd("1e+"); end != 1 {
		t.Error("PrefixEnd of 1e+ is", end)
	}
	if !impl.Looks(" 1e5\n") || impl.Looks("1e100") {
		t.Error("Looks of 1e5 or 1e100")
	}
}

// prefixCase is a text, its PrefixEnd and the text of its Prefix.
type prefixCase struct {
	s    string
	end  int
	want string
}

func checkPrefixCases(t *testing.T, list []prefixCase) {
	t.Helper()
	for _, c := range list {
		if got := impl.PrefixEnd(c.s); got != c.end {
			t.Errorf("PrefixEnd(%q) is %d, not %d", c.s, got, c.end)
		}
		got, code := impl.Prefix(c.s)
		if text := impl.DecText(got); text != c.want || code != impl.NumOK {
			t.Errorf("Prefix(%q) is %s, %d, not %s", c.s, text, code, c.want)
		}
	}
}

func TestTextsWithoutNumber(t *testing.T) {
	for _, s := range []string{
		"", " ", "\t", "\n", "\r", " \t\n\r \t\n\r", strings.Repeat(" ", impl.MaxText), strings.Repeat("\r\n", impl.MaxText/2),
		"+", "-", ".", "+.", "-.", " +", "- ", " . ", "\t-.\n", "..", "..5", "+..5", "++1", "--1", "+-1", "-+1", "+ 1", "- 1", ". 5", "-. 5",
		"e", "E", "e5", "E5", "+e5", "-e5", ".e5", "-.E5", "e+5", "e.5", " e5", ".+5", ".-5", "+.+5",
		"x", "x1", "kg 5", "inf", "nan", "$5", "(5)", "_1", ",5", "/5", ":5", "'5'", "\"5\"",
		"\u00e91", "\u8a9e12", "\U0001f6001", "\u0661", "\uff11", "\u22121", "\u00bd", "-\u00e91", ".\u00e91", "\ufffd1", strings.Repeat("x", impl.MaxText), strings.Repeat("\u00e9", impl.MaxText/2),
		strings.Repeat(" ", impl.MaxText-1) + "-", strings.Repeat(" ", impl.MaxText-1) + ".", strings.Repeat(" ", impl.MaxText-2) + "-.", strings.Repeat(".", impl.MaxText), strings.Repeat("-", impl.MaxText),
	} {
		if end := impl.PrefixEnd(s); end != 0 {
			t.Errorf("PrefixEnd(%q) is %d, not 0", s, end)
		}
		if got, code := impl.Prefix(s); got != (impl.Dec{}) || code != impl.NumOK {
			t.Errorf("Prefix(%q) is %+v, %d", s, got, code)
		}
		if impl.Looks(s) {
			t.Errorf("Looks(%q) is true", s)
		}
	}
	for _, blank := range otherBlanks() {
		checkPrefixCases(t, []prefixCase{{blank, 0, "0"}, {blank + "1", 0, "0"}, {" " + blank + " 1", 0, "0"}})
	}
}

func TestDigitsAndPeriods(t *testing.T) {
	checkPrefixCases(t, []prefixCase{
		{"0", 1, "0"}, {"7", 1, "7"}, {"42", 2, "42"}, {"007", 3, "7"}, {"+42", 3, "42"}, {"-42", 3, "-42"}, {"-0", 2, "0"}, {"1234567890", 10, "1234567890"},
		// a period before, between and behind the digits
		{".5", 2, "0.5"}, {"12.34", 5, "12.34"}, {"5.", 2, "5"}, {"-.5", 3, "-0.5"}, {"+5.", 3, "5"}, {"-1.5", 4, "-1.5"}, {"0.0", 3, "0"}, {"5.x", 2, "5"}, {".5x", 2, "0.5"}, {"5. ", 2, "5"},
		// two periods
		{"1..2", 2, "1"}, {"1.2.3", 3, "1.2"}, {"1..", 2, "1"}, {".1.", 2, "0.1"}, {".1.2", 2, "0.1"}, {"-1.5.", 4, "-1.5"}, {"1.2..3", 3, "1.2"},
		// a sign behind the number
		{"1+", 1, "1"}, {"1-", 1, "1"}, {"1+1", 1, "1"}, {"1.-5", 2, "1"}, {"1.5-2", 3, "1.5"}, {".5+", 2, "0.5"}, {"-1-1", 2, "-1"}, {"+1+1", 2, "1"},
		// something else behind it
		{"12kg", 2, "12"}, {"1a", 1, "1"}, {"0x10", 1, "0"}, {"1_000", 1, "1"}, {"1,5", 1, "1"}, {"1/2", 1, "1"}, {"1:2", 1, "1"}, {"1f", 1, "1"}, {"1p5", 1, "1"}, {"1 2", 1, "1"}, {"1 .5", 1, "1"},
	})
}

func TestExponentsOfPrefixes(t *testing.T) {
	checkPrefixCases(t, []prefixCase{
		// no digits behind the letter or its sign
		{"1e", 1, "1"}, {"1E", 1, "1"}, {"1e+", 1, "1"}, {"1e-", 1, "1"}, {"1E+", 1, "1"}, {"1E-", 1, "1"}, {"1.e", 2, "1"}, {"1.5e", 3, "1.5"}, {".5E-", 2, "0.5"}, {"-12.5e+", 5, "-12.5"},
		{"1e+x", 1, "1"}, {"1ex", 1, "1"}, {"1e 5", 1, "1"}, {"1e+ 5", 1, "1"}, {"1 e5", 1, "1"}, {"1e.5", 1, "1"}, {"1e+.5", 1, "1"}, {"1e.", 1, "1"}, {"1e++5", 1, "1"}, {"1e+-5", 1, "1"}, {"1ee5", 1, "1"}, {"1eE5", 1, "1"},
		{"1e\u00e9", 1, "1"}, {"1e\u0665", 1, "1"}, {"1e-\uff15", 1, "1"}, {"1euro", 1, "1"}, {"12east", 2, "12"},
		// digits
		{"1e5", 3, "100000"}, {"1E5", 3, "100000"}, {"1e+5", 4, "100000"}, {"1E+5", 4, "100000"}, {"1e-5", 4, "0.00001"}, {"1E-5", 4, "0.00001"}, {"-.5e1", 5, "-5"}, {"-.5e1 ", 5, "-5"}, {"5.e1", 4, "50"}, {"+1.5e03", 7, "1500"}, {"0e5", 3, "0"},
		// a second period, a letter or a sign behind the exponent
		{"1e5.", 3, "100000"}, {"1e5.5", 3, "100000"}, {"1.5e1.", 5, "15"}, {"1e5e5", 3, "100000"}, {"1e5E", 3, "100000"}, {"1e5x", 3, "100000"}, {"1e-5kg", 4, "0.00001"}, {"1e5+1", 3, "100000"}, {"1e+5-", 4, "100000"}, {"1e5 5", 3, "100000"},
		{"1e5\u00e9", 3, "100000"},
	})
}

func TestBlanksAndOtherCodePointsAroundNumbers(t *testing.T) {
	checkPrefixCases(t, []prefixCase{
		{"  12.5kg", 6, "12.5"}, {"\t\n\r 7", 5, "7"}, {"   -1e2 ", 7, "-100"}, {"\r\n.5.", 4, "0.5"}, {" \u00e9 12", 0, "0"}, {"\n1e+", 2, "1"}, {" 1 \u00e9", 2, "1"},
		{"12\u00e9", 2, "12"}, {"12.\u8a9e", 3, "12"}, {"-.5\U0001f600", 3, "-0.5"}, {" 5\u0661", 2, "5"}, {"5\uff11", 1, "5"}, {"5\ufffd", 1, "5"}, {"5\u00a0", 1, "5"}, {"5\u200b", 1, "5"}, {"1\u00b2", 1, "1"}, {"1\u00e95", 1, "1"},
	})
	for _, blank := range fourBlanks() {
		checkPrefixCases(t, []prefixCase{
			{blank + "12", 3, "12"}, {"12" + blank, 2, "12"}, {"1" + blank + "2", 1, "1"}, {"-" + blank + "2", 0, "0"}, {"1." + blank + "5", 2, "1"}, {"1e" + blank + "5", 1, "1"}, {"1e-" + blank + "5", 1, "1"},
			{blank + blank + "x" + blank + "1", 0, "0"},
		})
	}
}

func TestLooks(t *testing.T) {
	for _, s := range []string{
		"0", "7", "-1", "+1.5", ".5", "5.", "1e5", "1E-5", " 1", "1 ", " 1e5\n", "\t1\r\n", "12.50   ", "-.5e1 ", "007", "1\t \n\r", "1e99", "1e-99", "1e-100", " 0e99999999999999999999 ", "-0",
	} {
		if !impl.Looks(s) {
			t.Errorf("Looks(%q) is false", s)
		}
	}
	for _, s := range []string{
		"1 2", "1 x", "1x", "1 .", "1 -", "1\n2\n", "1 \u00a0", "1\u00a0", "1 \u200b", "1\u200b ", "1\v", "1\f", "1\x01", "1..", "1.2.3", "1e", "1e ", "1e+", "1e5.", "1 e5", "1-", "12kg", " 12 kg", "1 \u00e9", "\u00e9", "x 1",
		"", " ", "\n\n", "-", ".", "- ", "+.", "e5", "- 1", "\u00a01", "\v1",
		"1e100", " 1e100", "1e100 ", "-1e100\n", "1e99999999999999999999", powerOfTen(100), "10e99",
	} {
		if impl.Looks(s) {
			t.Errorf("Looks(%q) is true", s)
		}
	}
}

func TestPrefixesThatAreTooGreat(t *testing.T) {
	for _, number := range []string{
		"1e100", "-1e100", "+10E+99", "1e9999", "1e10000", "-.1e101", "1e9223372036854775807", "1e9223372036854775808", "1e18446744073709551616", "1e18446744073709551621", "9e" + nines(900),
		powerOfTen(100), nines(900), "-" + nines(100) + ".5", nines(20) + "5e80",
	} {
		for _, before := range []string{"", " ", "\r\n"} {
			for _, behind := range []string{"", " ", "\n", "kg", ".5.", " 1", "e", "e+", "\u00e9"} {
				// A period continues a number that has none and no exponent.
				if behind == ".5." && !strings.ContainsAny(number, ".eE") {
					continue
				}
				s := before + number + behind
				if got, want := impl.PrefixEnd(s), len(before)+len(number); got != want {
					t.Errorf("PrefixEnd(%q) is %d, not %d", s, got, want)
				}
				got, code := impl.Prefix(s)
				checkCode(t, "Prefix("+s+")", got, code, impl.NumOver)
				if impl.Looks(s) {
					t.Errorf("Looks(%q) is true", s)
				}
			}
		}
	}
}

func TestPrefixesThatAreTooSmall(t *testing.T) {
	for _, number := range []string{
		"1e-100", "-1e-100", "9.9E-100", "1e-9999", "1e-10000", "1e-9223372036854775808", "1e-9223372036854775809", "-5e-18446744073709551616", "5e-" + nines(900), "0." + strings.Repeat("0", 99) + "1",
	} {
		checkPrefixCases(t, []prefixCase{
			{number, len(number), "0"}, {" " + number, len(number) + 1, "0"}, {number + "kg", len(number), "0"}, {"\n" + number + " 1", len(number) + 1, "0"},
		})
		if !impl.Looks(number) || !impl.Looks(" "+number+"\r") || impl.Looks(number+"kg") || impl.Looks(number+" 1") {
			t.Errorf("Looks of %s", number)
		}
	}
}

func TestPrefixesOfTheLongestTexts(t *testing.T) {
	zeros, spaces := strings.Repeat("0", impl.MaxText), strings.Repeat(" ", impl.MaxText)
	for _, c := range []struct {
		s    string
		end  int
		want string
	}{
		// all of it is the number, or all but the last bytes
		{zeros, impl.MaxText, "0"}, {zeros[1:] + "7", impl.MaxText, "7"}, {"-" + zeros[2:] + "7", impl.MaxText, "-7"}, {"7." + zeros[2:], impl.MaxText, "7"}, {zeros[2:] + "7.", impl.MaxText, "7"}, {"." + zeros[2:] + "1", impl.MaxText, "0"},
		{"7e" + zeros[2:], impl.MaxText, "7"}, {"1e-" + zeros[4:] + "2", impl.MaxText, "0.01"}, {nines(impl.MaxText-5) + "e-995", impl.MaxText, "1"},
		{zeros[1:] + "x", impl.MaxText - 1, "0"}, {zeros[2:] + "7e", impl.MaxText - 1, "7"}, {zeros[3:] + "7e-", impl.MaxText - 2, "7"}, {zeros[2:] + "\u00e9", impl.MaxText - 2, "0"}, {zeros[1:] + " ", impl.MaxText - 1, "0"},
		// blanks, and a number up to the last byte
		{spaces, 0, "0"}, {spaces[1:] + "7", impl.MaxText, "7"}, {spaces[4:] + "-1.5", impl.MaxText, "-1.5"}, {spaces[2:] + "7.", impl.MaxText, "7"}, {spaces[3:] + "1e2", impl.MaxText, "100"}, {spaces[3:] + "1e+", impl.MaxText - 2, "1"}, {spaces[500:] + zeros[501:] + "7", impl.MaxText, "7"},
		{spaces[500:] + "7" + spaces[501:], 501, "7"}, {"7" + spaces[1:], 1, "7"}, {"7" + spaces[2:] + "7", 1, "7"},
	} {
		if len(c.s) != impl.MaxText {
			t.Fatalf("%q has %d bytes", c.s, len(c.s))
		}
		checkPrefixCases(t, []prefixCase{{c.s, c.end, c.want}})
		checkPrefix(t, c.s, c.end)
		checkNoText(t, c.s+" ")
		checkNoText(t, " "+c.s)
		checkNoText(t, c.s+"0")
	}
}

// checkNoText wants what the functions return for a string that is not a text.
func checkNoText(t *testing.T, s string) {
	t.Helper()
	if end := impl.PrefixEnd(s); end != -1 {
		t.Errorf("PrefixEnd(%.40q) of %d bytes is %d, not -1", s, len(s), end)
	}
	got, code := impl.Prefix(s)
	if got != (impl.Dec{}) || code != impl.NumForm {
		t.Errorf("Prefix(%.40q) of %d bytes is %+v, %d", s, len(s), got, code)
	}
	if impl.Looks(s) {
		t.Errorf("Looks(%.40q) of %d bytes is true", s, len(s))
	}
}

func TestPrefixesOfStringsThatAreNotTexts(t *testing.T) {
	for _, s := range notTexts() {
		for _, other := range []string{
			s, s + "12", "12" + s, "1" + s + "2", " 12 " + s, s + " 12", " " + s + " 12", "-" + s + "5", "1." + s + "5", "1e" + s, "1e" + s + "5", "1e5" + s, "1e100" + s, "12 x" + s, "  " + s, s + "\n",
		} {
			checkNoText(t, other)
		}
	}
	for _, s := range []string{nines(impl.MaxText + 1), "1" + strings.Repeat(" ", impl.MaxText), strings.Repeat(" ", impl.MaxText) + "1", strings.Repeat(" ", impl.MaxText+1), "1" + strings.Repeat("x", impl.MaxText), "1" + strings.Repeat(" ", 1000000)} {
		checkNoText(t, s)
	}
}

func TestPrefixesOfEveryCodePoint(t *testing.T) {
	for c := 1; c <= 1114111; c++ {
		if c >= 55296 && c <= 57343 {
			continue
		}
		one := shortest(c)
		blank := slices.Contains(fourBlanks(), one)
		digit := c >= '0' && c <= '9'
		if got := impl.Looks("1" + one); got != (blank || digit || c == '.') {
			t.Fatalf("Looks of 1 and %d is %v", c, got)
		}
		if got := impl.Looks(one + "1"); got != (blank || digit || strings.Contains("+-.", one)) {
			t.Fatalf("Looks of %d and 1 is %v", c, got)
		}
		if got := impl.PrefixEnd(one + "1"); got != 0 && c > 127 {
			t.Fatalf("PrefixEnd of %d and 1 is %d", c, got)
		}
		if got := impl.PrefixEnd("1" + one + "1"); (got == 1) == (digit || strings.Contains(".eE", one)) {
			t.Fatalf("PrefixEnd of 1, %d and 1 is %d", c, got)
		}
	}
}

// TestPrefixesOfAllShortTexts tries every text of up to seven symbols that numbers and their neighbours are made of.
func TestPrefixesOfAllShortTexts(t *testing.T) {
	symbols := []string{"0", "7", ".", "e", "-", " "}
	texts := []string{""}
	for range 7 {
		var longer []string
		for _, s := range texts {
			for _, symbol := range symbols {
				longer = append(longer, s+symbol)
			}
		}
		for _, s := range longer {
			checkPrefix(t, s, prefixEndOf(s))
		}
		texts = longer
	}
}

func TestPrefixesOfRandomTexts(t *testing.T) {
	random := rand.New(rand.NewSource(6))
	symbols := []string{"0", "1", "9", "99", "123456789", "+", "-", ".", "e", "E", "e+", "e-", "e1", " ", "\t", "\n", "\r", "x", "\u00e9", "\U0001f600", "\u00a0"}
	for range 100000 {
		var b strings.Builder
		for range random.Intn(3) {
			b.WriteString(fourBlanks()[random.Intn(4)])
		}
		for range random.Intn(14) {
			b.WriteString(symbols[random.Intn(len(symbols))])
		}
		checkPrefix(t, b.String(), prefixEndOf(b.String()))
	}
}

// blanksOf is a text of count blanks of all kinds.
func blanksOf(random *rand.Rand, count int) string {
	var b strings.Builder
	for range count {
		b.WriteString(fourBlanks()[random.Intn(4)])
	}
	return b.String()
}

// checkLooksLike wants the text of a, with blanks around it, to look like a.
func checkLooksLike(t *testing.T, a impl.Dec, before string, behind string) {
	t.Helper()
	text := impl.DecText(a)
	s := before + text + behind
	if !impl.Looks(s) {
		t.Fatalf("Looks(%q) is false", s)
	}
	got, code := impl.Prefix(s)
	checkDec(t, "Prefix("+s+")", got, code, a, impl.NumOK)
	if end := impl.PrefixEnd(s); end != len(before)+len(text) {
		t.Fatalf("PrefixEnd(%q) is %d", s, end)
	}
}

func TestP5TextWithEachBlankLooksLikeItsNumber(t *testing.T) {
	around := append([]string{""}, fourBlanks()...)
	for _, a := range sampleDecs() {
		for _, before := range around {
			for _, behind := range around {
				checkLooksLike(t, a, before, behind)
				checkLooksLike(t, a, before+before, behind+behind+behind)
			}
		}
	}
}

func TestP5TextOfAnyNumberAndMagnitudeLooksLikeIt(t *testing.T) {
	random := rand.New(rand.NewSource(7))
	for size := 1; size <= impl.MaxDig; size++ {
		for magnitude := -impl.MaxE; magnitude <= impl.MaxE; magnitude++ {
			a := randomDec(random, size)
			a.Exp = magnitude - size + 1
			checkLooksLike(t, a, blanksOf(random, random.Intn(5)), blanksOf(random, random.Intn(5)))
		}
	}
}

func TestP5TextLooksLikeItsNumberWithBlanksUpToMaxText(t *testing.T) {
	random := rand.New(rand.NewSource(8))
	for _, a := range sampleDecs() {
		room := impl.MaxText - len(impl.DecText(a))
		for _, before := range []int{0, 1, random.Intn(room), room - 1, room} {
			first, last := blanksOf(random, before), blanksOf(random, room-before)
			checkLooksLike(t, a, first, last)
			checkNoText(t, first+impl.DecText(a)+last+" ")
		}
	}
}
