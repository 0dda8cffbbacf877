package tests

import (
	"math"
	"math/big"
	"math/rand"
	"strconv"
	"strings"
	"testing"

	"loop.example/g00417/impl"
)

// tenTo is 10^n, for n of either sign.
func tenTo(n int) *big.Rat {
	power := new(big.Int).Exp(big.NewInt(10), big.NewInt(int64(max(n, -n))), nil)
	if n < 0 {
		return new(big.Rat).SetFrac(big.NewInt(1), power)
	}
	return new(big.Rat).SetInt(power)
}

// exactOf is the number that a valid Dec denotes.
func exactOf(a impl.Dec) *big.Rat {
	out := new(big.Rat)
	if a == (impl.Dec{}) {
		return out
	}
	digits, _ := new(big.Int).SetString(a.Dig, 10)
	out.Mul(out.SetInt(digits), tenTo(a.Exp))
	if a.Neg {
		out.Neg(out)
	}
	return out
}

// magnitudeOf is the greatest n with 10^n at most size, which is positive.
func magnitudeOf(size *big.Rat) int {
	n := len(size.Num().String()) - len(size.Denom().String())
	if tenTo(n).Cmp(size) > 0 {
		n--
	}
	return n
}

// normal is what normalizing the exact number yields, by the definition.
func normal(number *big.Rat) (impl.Dec, int) {
	if number.Sign() == 0 {
		return impl.Dec{}, impl.NumOK
	}
	size := new(big.Rat).Abs(number)
	exp := magnitudeOf(size) - impl.MaxDig + 1
	scaled := new(big.Rat).Mul(size, tenTo(-exp))
	digits, rest := new(big.Int).QuoRem(scaled.Num(), scaled.Denom(), new(big.Int))
	half := rest.Lsh(rest, 1).Cmp(scaled.Denom())
	if half > 0 || half == 0 && digits.Bit(0) == 1 {
		digits.Add(digits, big.NewInt(1))
	}
	text := digits.String()
	magnitude := exp + len(text) - 1
	short := strings.TrimRight(text, "0")
	switch {
	case magnitude > impl.MaxE:
		return impl.Dec{}, impl.NumOver
	case magnitude < -impl.MaxE:
		return impl.Dec{}, impl.NumOK
	}
	return impl.Dec{Neg: number.Sign() < 0, Dig: short, Exp: magnitude - len(short) + 1}, impl.NumOK
}

// number reads a text that denotes a number within the limits.
func number(t *testing.T, s string) impl.Dec {
	t.Helper()
	a, code := impl.DecRead(s)
	if code != impl.NumOK {
		t.Fatalf("DecRead(%q) returns the code %d", s, code)
	}
	return a
}

// checkDec holds a result against a wanted one.
func checkDec(t *testing.T, what string, got impl.Dec, code int, want impl.Dec, wantCode int) {
	t.Helper()
	if got != want || code != wantCode {
		t.Fatalf("%s is %+v, %d, not %+v, %d", what, got, code, want, wantCode)
	}
}

// checkCode wants a code other than NumOK, and nothing else.
func checkCode(t *testing.T, what string, got impl.Dec, code int, want int) {
	t.Helper()
	if got != (impl.Dec{}) || code != want {
		t.Errorf("%s is %+v, %d, not the code %d", what, got, code, want)
	}
}

type binary struct {
	name string
	call func(impl.Dec, impl.Dec) (impl.Dec, int)
}

// binaries are the functions of two numbers that return a number.
func binaries() []binary {
	return []binary{
		{"DecAdd", impl.DecAdd}, {"DecSub", impl.DecSub}, {"DecMul", impl.DecMul},
		{"DecDiv", impl.DecDiv}, {"DecMod", impl.DecMod},
	}
}

// naming is a call as a test tells it.
func naming(name string, a impl.Dec, b impl.Dec) string {
	return name + "(" + impl.DecText(a) + ", " + impl.DecText(b) + ")"
}

// randomDec is a valid number other than 0 of exactly size digits.
func randomDec(random *rand.Rand, size int) impl.Dec {
	digits := []byte(randomNatural(random, size))
	for _, i := range []int{0, size - 1} {
		if digits[i] == '0' {
			digits[i] = byte('1' + random.Intn(9))
		}
	}
	magnitude := random.Intn(2*impl.MaxE+1) - impl.MaxE
	if random.Intn(2) == 0 {
		magnitude = random.Intn(51) - 25
	}
	return impl.Dec{Neg: random.Intn(2) == 0, Dig: string(digits), Exp: magnitude - size + 1}
}

// sampleDecs are valid numbers of all sizes, with those at the limits of digits and magnitude.
func sampleDecs() []impl.Dec {
	list := []impl.Dec{{}}
	for _, sample := range []impl.Dec{
		{Dig: "1"}, {Dig: "2"}, {Dig: "3"}, {Dig: "7"}, {Dig: "1", Exp: 1}, {Dig: "5", Exp: -1}, {Dig: "125", Exp: -1},
		{Dig: "1", Exp: 19}, {Dig: "1", Exp: 20}, {Dig: "1", Exp: 21}, {Dig: "1", Exp: -7}, {Dig: "15", Exp: -8},
		{Dig: nines(20)}, {Dig: nines(19)}, {Dig: nines(20), Exp: 80}, {Dig: nines(20), Exp: -118}, {Dig: nines(20), Exp: -20},
		{Dig: "1", Exp: 99}, {Dig: "9", Exp: 99}, {Dig: "1", Exp: -99}, {Dig: "5", Exp: -99}, {Dig: "1", Exp: 50}, {Dig: "1", Exp: -50},
		{Dig: "10000000000000000001", Exp: -118}, {Dig: "10000000000000000001", Exp: 80}, {Dig: "10000000000000000001"},
		{Dig: "66666666666666666667", Exp: -20}, {Dig: "33333333333333333333", Exp: -20}, {Dig: "5", Exp: -20}, {Dig: "5", Exp: -21},
		{Dig: "9223372036854775807"}, {Dig: "9223372036854775808"}, {Dig: "1000000000000000001"}, {Dig: "1", Exp: 18},
	} {
		negative := sample
		negative.Neg = true
		list = append(list, sample, negative)
	}
	random := rand.New(rand.NewSource(3))
	for range 3 {
		for size := 1; size <= impl.MaxDig; size++ {
			list = append(list, randomDec(random, size))
		}
	}
	return list
}

// notDecs are values that no function may take for a number.
func notDecs() []impl.Dec {
	list := []impl.Dec{
		{Neg: true}, {Exp: 1}, {Exp: -1}, {Neg: true, Exp: 1}, {Exp: math.MaxInt}, {Exp: math.MinInt},
		{Dig: "0"}, {Neg: true, Dig: "0"}, {Dig: "0", Exp: 5}, {Dig: "00"}, {Dig: "01"}, {Dig: "012"}, {Dig: "10"}, {Dig: "120"},
		{Dig: "010"}, {Dig: "a"}, {Dig: "1a"}, {Dig: "a1"}, {Dig: "1a1"}, {Dig: "-1"}, {Dig: "+1"}, {Dig: "1.5"}, {Dig: " 1"},
		{Dig: "1 "}, {Dig: "1e5"}, {Dig: "/"}, {Dig: ":"}, {Dig: "1/1"}, {Dig: "1:1"}, {Dig: "\x00"}, {Dig: "1\xff1"}, {Dig: "١"},
		{Dig: nines(impl.MaxDig + 1)}, {Dig: nines(impl.MaxDig + 1), Exp: -5}, {Dig: "1" + strings.Repeat("0", impl.MaxDig-1) + "1"},
		{Dig: nines(impl.MaxNat)}, {Dig: nines(impl.MaxNat + 1)}, {Dig: nines(100000)},
		{Dig: "1", Exp: impl.MaxE + 1}, {Dig: "1", Exp: -impl.MaxE - 1}, {Dig: "12", Exp: impl.MaxE}, {Dig: "12", Exp: -impl.MaxE - 2},
		{Dig: nines(20), Exp: impl.MaxE - 18}, {Dig: nines(20), Exp: -impl.MaxE - 20},
	}
	for _, exp := range []int{math.MinInt, math.MinInt + 1, math.MinInt + 20, math.MaxInt, math.MaxInt - 1, math.MaxInt - 20} {
		list = append(list, impl.Dec{Dig: "1", Exp: exp}, impl.Dec{Dig: "12", Exp: exp}, impl.Dec{Neg: true, Dig: nines(20), Exp: exp})
	}
	return list
}

func TestConstantsOfDecimals(t *testing.T) {
	if impl.MaxDig != 20 || impl.MaxE != 99 {
		t.Error("MaxDig is", impl.MaxDig, "and MaxE", impl.MaxE)
	}
	if impl.NumOK != 0 || impl.NumOver != 1 || impl.NumZero != 2 || impl.NumForm != 3 {
		t.Error("the codes are", impl.NumOK, impl.NumOver, impl.NumZero, impl.NumForm)
	}
}

func TestDecimalsAreRecognized(t *testing.T) {
	for _, a := range sampleDecs() {
		if !impl.DecOk(a) {
			t.Errorf("DecOk(%+v) is false", a)
		}
	}
	for _, a := range notDecs() {
		if impl.DecOk(a) {
			t.Errorf("DecOk(%+v) is true", a)
		}
	}
}

func TestEveryByteOfDecimals(t *testing.T) {
	for c := range 256 {
		one := string([]byte{byte(c)})
		digit := c >= '0' && c <= '9'
		end := digit && c != '0'
		if impl.DecOk(impl.Dec{Dig: one}) != end || impl.DecOk(impl.Dec{Dig: one + "1"}) != end || impl.DecOk(impl.Dec{Dig: "1" + one}) != end {
			t.Errorf("DecOk with %q at an end is %v", one, !end)
		}
		if impl.DecOk(impl.Dec{Dig: "1" + one + "1"}) != digit {
			t.Errorf("DecOk with %q inside is %v", one, !digit)
		}
	}
}

func TestMagnitudesAtTheLimits(t *testing.T) {
	for size := 1; size <= impl.MaxDig; size++ {
		for magnitude := -impl.MaxE - 25; magnitude <= impl.MaxE+25; magnitude++ {
			a := impl.Dec{Dig: strings.Repeat("7", size), Exp: magnitude - size + 1}
			want := magnitude >= -impl.MaxE && magnitude <= impl.MaxE
			if impl.DecOk(a) != want {
				t.Errorf("DecOk with %d digits of magnitude %d is %v", size, magnitude, !want)
			}
		}
	}
}

func TestExamplesOfDecimals(t *testing.T) {
	a, code := impl.DecRead("-012.500")
	checkDec(t, `DecRead("-012.500")`, a, code, impl.Dec{Neg: true, Dig: "125", Exp: -1}, impl.NumOK)
	a, code = impl.DecRead("1e100")
	checkCode(t, `DecRead("1e100")`, a, code, impl.NumOver)
	if got := impl.DecText(number(t, "5e21")); got != "5e+21" {
		t.Error("DecText of 5e21 is", got)
	}
	a, code = impl.DecDiv(impl.DecOf(2), impl.DecOf(3))
	if got := impl.DecText(a); got != "0.66666666666666666667" || code != impl.NumOK {
		t.Error("DecDiv of 2 and 3 is", got, code)
	}
	a, code = impl.DecMod(impl.DecOf(-7), impl.DecOf(3))
	checkDec(t, "DecMod of -7 and 3", a, code, impl.Dec{Neg: true, Dig: "1"}, impl.NumOK)
	a, code = impl.DecPow(impl.DecOf(2), -2)
	checkDec(t, "DecPow of 2 and -2", a, code, impl.Dec{Dig: "25", Exp: -2}, impl.NumOK)
}

func TestTextOfDecimals(t *testing.T) {
	for _, c := range []struct {
		a    impl.Dec
		want string
	}{
		{impl.Dec{}, "0"}, {impl.Dec{Dig: "1"}, "1"}, {impl.Dec{Dig: "12"}, "12"}, {impl.Dec{Dig: "1", Exp: 1}, "10"},
		{impl.Dec{Dig: "12", Exp: 3}, "12000"}, {impl.Dec{Dig: "125", Exp: -1}, "12.5"}, {impl.Dec{Dig: "125", Exp: -2}, "1.25"},
		{impl.Dec{Dig: "125", Exp: -3}, "0.125"}, {impl.Dec{Dig: "125", Exp: -4}, "0.0125"}, {impl.Dec{Dig: "1001", Exp: -2}, "10.01"},
		// the least magnitude without an exponent, and one below
		{impl.Dec{Dig: "1", Exp: -7}, "0.0000001"}, {impl.Dec{Dig: "15", Exp: -8}, "0.00000015"},
		{impl.Dec{Dig: nines(20), Exp: -26}, "0.000000" + nines(20)},
		{impl.Dec{Dig: "1", Exp: -8}, "1e-8"}, {impl.Dec{Dig: "15", Exp: -9}, "1.5e-8"}, {impl.Dec{Dig: nines(20), Exp: -27}, "9." + nines(19) + "e-8"},
		// the greatest magnitude without an exponent, and one above
		{impl.Dec{Dig: "1", Exp: 20}, powerOfTen(20)}, {impl.Dec{Dig: "15", Exp: 19}, "15" + strings.Repeat("0", 19)},
		{impl.Dec{Dig: nines(20), Exp: 1}, nines(20) + "0"},
		{impl.Dec{Dig: "5", Exp: 21}, "5e+21"}, {impl.Dec{Dig: "15", Exp: 20}, "1.5e+21"}, {impl.Dec{Dig: nines(20), Exp: 2}, "9." + nines(19) + "e+21"},
		// twenty digits with and without fractional ones
		{impl.Dec{Dig: nines(20)}, nines(20)}, {impl.Dec{Dig: nines(20), Exp: -1}, nines(19) + ".9"}, {impl.Dec{Dig: nines(20), Exp: -19}, "9." + nines(19)},
		{impl.Dec{Dig: nines(20), Exp: -20}, "0." + nines(20)},
		{impl.Dec{Dig: "1", Exp: 99}, "1e+99"}, {impl.Dec{Dig: "1", Exp: -99}, "1e-99"}, {impl.Dec{Dig: "12", Exp: 98}, "1.2e+99"},
		{impl.Dec{Dig: nines(20), Exp: -118}, "9." + nines(19) + "e-99"}, {impl.Dec{Dig: nines(20), Exp: 80}, "9." + nines(19) + "e+99"},
	} {
		if got := impl.DecText(c.a); got != c.want {
			t.Errorf("DecText(%+v) is %q, not %q", c.a, got, c.want)
		}
		if c.a == (impl.Dec{}) {
			continue
		}
		c.a.Neg = true
		if got := impl.DecText(c.a); got != "-"+c.want {
			t.Errorf("DecText(%+v) is %q, not %q", c.a, got, "-"+c.want)
		}
	}
}

func TestP4NumbersAreRecoveredFromTheirText(t *testing.T) {
	random := rand.New(rand.NewSource(4))
	list := sampleDecs()
	for size := 1; size <= impl.MaxDig; size++ {
		for magnitude := -impl.MaxE; magnitude <= impl.MaxE; magnitude++ {
			a := randomDec(random, size)
			a.Exp = magnitude - size + 1
			list = append(list, a)
		}
	}
	for _, a := range list {
		text := impl.DecText(a)
		if got, code := impl.DecRead(text); got != a || code != impl.NumOK {
			t.Fatalf("%+v has the text %q, which is read as %+v, %d", a, text, got, code)
		}
		if want, ok := new(big.Rat).SetString(text); !ok || want.Cmp(exactOf(a)) != 0 {
			t.Fatalf("%+v has the text %q, which denotes another number", a, text)
		}
	}
}

func TestReading(t *testing.T) {
	for _, c := range []struct{ s, want string }{
		{"0", "0"}, {"7", "7"}, {"42", "42"}, {"+42", "42"}, {"-42", "-42"}, {"1.5", "1.5"}, {"-1.5", "-1.5"}, {"+1.5", "1.5"},
		// a period before, between and behind the digits
		{".5", "0.5"}, {"5.", "5"}, {"-.5", "-0.5"}, {"+5.", "5"}, {"12.34", "12.34"}, {"0.5", "0.5"}, {".05", "0.05"}, {".5e1", "5"}, {"5.e1", "50"},
		// exponents
		{"1e0", "1"}, {"1e5", "100000"}, {"1E5", "100000"}, {"1e+5", "100000"}, {"1E+5", "100000"}, {"1e-5", "0.00001"}, {"1E-5", "0.00001"},
		{"1.5e3", "1500"}, {"1e-0", "1"}, {"1e+0", "1"}, {"1e005", "100000"}, {"1e-005", "0.00001"}, {"1e" + strings.Repeat("0", 900) + "5", "100000"},
		{"1e99", "1e+99"}, {"9.9e99", "9.9e+99"}, {"10e98", "1e+99"}, {"0.1e100", "1e+99"}, {"1e-99", "1e-99"}, {"0.1e-98", "1e-99"}, {"10e-100", "1e-99"},
		{"0." + strings.Repeat("0", 199) + "1e299", "1e+99"}, {"1" + strings.Repeat("0", 500) + "e-500", "1"},
		{"." + strings.Repeat("0", 900) + "1e901", "1"}, {"1" + strings.Repeat("0", 900) + ".0e-999", "1e-99"},
		// leading and trailing zeros
		{"007", "7"}, {"-007.700", "-7.7"}, {"100", "100"}, {"1.00", "1"}, {"00.10", "0.1"}, {"0000000000000000000000000001", "1"},
		{"0.00000000000000000000000001", "1e-26"}, {"1.0000000000000000000000000", "1"},
		{strings.Repeat("0", 500) + "1." + strings.Repeat("0", 498), "1"},
		// 0 with any sign, exponent and number of zeros
		{"-0", "0"}, {"+0", "0"}, {"0.", "0"}, {".0", "0"}, {"-.0", "0"}, {"000", "0"}, {"0.000", "0"}, {"-0.0e5", "0"}, {"0e99", "0"}, {"0e100", "0"},
		{"0e9999", "0"}, {"0e-9999", "0"}, {"0e99999999999999999999999", "0"}, {"-0e-99999999999999999999999", "0"}, {strings.Repeat("0", 1000), "0"},
		// too small
		{"1e-100", "0"}, {"9.9e-100", "0"}, {"-1e-100", "0"}, {"1e-9999", "0"}, {"1e-10000", "0"}, {"-1e-99999", "0"},
		{"1e-9223372036854775808", "0"}, {"1e-18446744073709551616", "0"}, {"1e-18446744073709551517", "0"}, {"5e-" + nines(900), "0"},
		{"0." + strings.Repeat("0", 98) + "1", "1e-99"}, {"0." + strings.Repeat("0", 99) + "1", "0"}, {"0." + strings.Repeat("0", 900) + "1", "0"},
	} {
		got, code := impl.DecRead(c.s)
		if text := impl.DecText(got); text != c.want || code != impl.NumOK {
			t.Errorf("DecRead(%q) is %s, %d, not %s", c.s, text, code, c.want)
		}
	}
}

func TestReadingTooGreatNumbers(t *testing.T) {
	for _, s := range []string{
		"1e100", "-1e100", "1E+100", "10e99", "0.1e101", "9e100", "1e9999", "1e10000", "-1e99999", "1e9223372036854775807", "1e9223372036854775808",
		"1e18446744073709551616", "1e18446744073709551617", "1e" + nines(900), powerOfTen(100), nines(1000), "-" + nines(101) + ".5",
		"0." + strings.Repeat("0", 900) + "1e9999", "0." + strings.Repeat("0", 900) + "1e99999",
		// a carry through nines raises the magnitude from MaxE
		nines(20) + "5e80", nines(100), "9." + nines(19) + "5e99", "-9." + nines(30) + "e99",
	} {
		got, code := impl.DecRead(s)
		checkCode(t, "DecRead("+s+")", got, code, impl.NumOver)
	}
}

func TestReadingOtherStrings(t *testing.T) {
	for _, s := range []string{
		"", "+", "-", ".", "+.", "-.", "..", "e", "E", "e5", "E5", "-e5", ".e5", "+.e5", "e+", "1..2", "1.2.3", "1..", "..1", ".1.", "1.e1.", "1e", "1E", "1e+", "1e-",
		"1.5e", "1.5E-", "1ee5", "1eE5", "1e5e5", "1e5.", "1e5.0", "1e.5", "1e++5", "1e+-5", "1e--5", "1e5-", "1e5+", "++1", "--1", "+-1", "-+1", "1+", "1-", "1+1", "1-1",
		" ", " 1", "1 ", "\t1", "1\n", "1 2", "1 e5", "1e 5", "1e5 ", "- 1", "1. 5", "a", "1a", "a1", "0x10", "0b1", "1_000", "1,5", "1,000",
		"inf", "Inf", "-inf", "nan", "NaN", "Infinity", "1f", "1p5", "\x00", "1\x00", "\xff", "1\xff", "١", "1١", "１", "1e٥", "−1", "1/2", "/", ":", "1:", "1/",
	} {
		got, code := impl.DecRead(s)
		checkCode(t, "DecRead("+strconv.Quote(s)+")", got, code, impl.NumForm)
	}
}

func TestEveryByteInNumbers(t *testing.T) {
	for c := range 256 {
		one := string([]byte{byte(c)})
		digit := c >= '0' && c <= '9'
		for _, place := range []struct{ before, behind, also string }{
			{"", "", ""}, {"", "1", "+-."}, {"1", "", "."}, {"1", "1", ".eE"}, {"1.", "1", "eE"}, {"1e", "1", "+-"}, {"1e1", "1", ""}, {"1e1", "", ""},
		} {
			want := digit || strings.Contains(place.also, one)
			if _, code := impl.DecRead(place.before + one + place.behind); (code != impl.NumForm) != want {
				t.Errorf("DecRead(%q) returns the code %d", place.before+one+place.behind, code)
			}
		}
	}
}

func TestLengthsOfNumbers(t *testing.T) {
	zeros := strings.Repeat("0", impl.MaxText)
	for _, c := range []struct {
		s    string
		want string
		code int
	}{
		{zeros[1:] + "1", "1", impl.NumOK}, {"-" + zeros[2:] + "1", "-1", impl.NumOK}, {"1." + zeros[2:], "1", impl.NumOK},
		{"1e" + zeros[3:] + "5", "100000", impl.NumOK}, {nines(impl.MaxText-4) + "e-99", "", impl.NumOver}, {nines(impl.MaxText-5) + "e-995", "1", impl.NumOK},
		{"5" + zeros[1:992] + "e-991", "5", impl.NumOK}, {zeros, "0", impl.NumOK},
		{zeros + "1", "", impl.NumForm}, {"-" + zeros[1:] + "1", "", impl.NumForm}, {"1." + zeros[1:], "", impl.NumForm},
		{"1e" + zeros[2:] + "5", "", impl.NumForm}, {nines(impl.MaxText + 1), "", impl.NumForm}, {zeros + "0", "", impl.NumForm}, {zeros + zeros, "", impl.NumForm},
	} {
		got, code := impl.DecRead(c.s)
		if code != c.code || code == impl.NumOK && impl.DecText(got) != c.want || code != impl.NumOK && got != (impl.Dec{}) {
			t.Errorf("DecRead of %d bytes, %s..., is %+v, %d, not %s, %d", len(c.s), c.s[:10], got, code, c.want, c.code)
		}
	}
}

func TestNormalizing(t *testing.T) {
	for _, c := range []struct{ s, want string }{
		// exactly MaxDig digits, and one more
		{"12345678901234567891", "12345678901234567891"}, {"-1.2345678901234567891", "-1.2345678901234567891"},
		{"123456789012345678911", "123456789012345678910"}, {"123456789012345678919", "123456789012345678920"},
		{"123456789012345678914", "123456789012345678910"}, {"123456789012345678916", "123456789012345678920"}, {"123456789012345678910", "123456789012345678910"},
		{"000123456789012345678911", "123456789012345678910"}, {"0.00123456789012345678911", "0.0012345678901234567891"},
		// ties down and up to the even last digit
		{"123456789012345678905", "123456789012345678900"}, {"123456789012345678915", "123456789012345678920"},
		{"123456789012345678925", "123456789012345678920"}, {"123456789012345678995", "123456789012345679000"}, {"123456789012345678985", "123456789012345678980"},
		{"-1.23456789012345678905", "-1.234567890123456789"}, {"-1.23456789012345678915", "-1.2345678901234567892"},
		{"1.2345678901234567890500000000000000000", "1.234567890123456789"}, {"1.2345678901234567891500000000000000000", "1.2345678901234567892"},
		{"1.23456789012345678905" + strings.Repeat("0", 900), "1.234567890123456789"},
		// further digits behind what would be a tie
		{"1.234567890123456789050000000000000000001", "1.2345678901234567891"}, {"1.23456789012345678905" + strings.Repeat("0", 900) + "1", "1.2345678901234567891"},
		{"1.23456789012345678904" + nines(900), "1.234567890123456789"}, {"1.234567890123456789251", "1.2345678901234567893"},
		{"123456789012345678905" + strings.Repeat("0", 600) + "1e-601", "123456789012345678910"},
		// carries through nines
		{nines(20) + "4", nines(20) + "0"}, {nines(20) + "5", "1e+21"}, {nines(21), "1e+21"}, {"0." + nines(20) + "5", "1"}, {"0." + nines(21), "1"},
		{"1" + nines(19) + "5", "2" + strings.Repeat("0", 20)}, {"1.29" + nines(18), "1.3"}, {nines(19) + "85", nines(19) + "80"}, {"-" + nines(20) + ".5", "-" + powerOfTen(20)},
		{nines(20) + "4e79", "9." + nines(19) + "e+99"}, {nines(20) + "5e78", "1e+99"},
		// below -MaxE, and raised to it
		{"9." + nines(19) + "e-100", "0"}, {"9." + nines(20) + "e-100", "1e-99"}, {"9." + nines(19) + "5e-100", "1e-99"}, {"-9." + nines(19) + "5e-100", "-1e-99"},
		{"9." + nines(19) + "4e-100", "0"}, {"1.00000000000000000005e-99", "1e-99"}, {"1.00000000000000000015e-99", "1.0000000000000000002e-99"},
	} {
		got := number(t, c.s)
		if text := impl.DecText(got); text != c.want {
			t.Errorf("DecRead(%q) is %s, not %s", c.s, text, c.want)
		}
		if !impl.DecOk(got) {
			t.Errorf("DecRead(%q) is %+v, which is not valid", c.s, got)
		}
	}
}

func TestReadingAgainstExactNumbers(t *testing.T) {
	random := rand.New(rand.NewSource(5))
	for range 4000 {
		digits := randomNatural(random, 1+random.Intn(60))
		if random.Intn(20) == 0 {
			digits = randomNatural(random, 1+random.Intn(900))
		}
		if random.Intn(3) == 0 && len(digits) > 20 {
			digits = digits[:20] + "5" + strings.Repeat("0", len(digits)-21)
		}
		period := random.Intn(len(digits) + 1)
		exp := random.Intn(300) - 150
		s := []string{"", "+", "-"}[random.Intn(3)] + digits[:period] + "." + digits[period:] + []string{"e", "E"}[random.Intn(2)] + strconv.Itoa(exp)
		exact, _ := new(big.Rat).SetString(s)
		want, wantCode := normal(exact)
		got, code := impl.DecRead(s)
		checkDec(t, "DecRead("+s+")", got, code, want, wantCode)
	}
}

func TestIntsAsDecimals(t *testing.T) {
	for _, c := range []struct {
		n    int
		want impl.Dec
	}{
		{0, impl.Dec{}}, {1, impl.Dec{Dig: "1"}}, {-1, impl.Dec{Neg: true, Dig: "1"}}, {10, impl.Dec{Dig: "1", Exp: 1}}, {-1200, impl.Dec{Neg: true, Dig: "12", Exp: 2}},
		{1000000000000000000, impl.Dec{Dig: "1", Exp: 18}}, {1000000000000000001, impl.Dec{Dig: "1000000000000000001"}},
		{9000000000000000000, impl.Dec{Dig: "9", Exp: 18}}, {-9000000000000000000, impl.Dec{Neg: true, Dig: "9", Exp: 18}},
		{math.MaxInt, impl.Dec{Dig: "9223372036854775807"}}, {math.MinInt, impl.Dec{Neg: true, Dig: "9223372036854775808"}}, {math.MinInt + 1, impl.Dec{Neg: true, Dig: "9223372036854775807"}},
	} {
		if got := impl.DecOf(c.n); got != c.want {
			t.Errorf("DecOf(%d) is %+v, not %+v", c.n, got, c.want)
		}
	}
	random := rand.New(rand.NewSource(6))
	for range 2000 {
		n := int(random.Uint64()) >> random.Intn(64)
		want, _ := normal(new(big.Rat).SetInt64(int64(n)))
		if got := impl.DecOf(n); got != want {
			t.Fatalf("DecOf(%d) is %+v, not %+v", n, got, want)
		}
	}
}

func TestWholeNumbers(t *testing.T) {
	const most = 1000000000000000000
	for _, n := range []int{0, 1, -1, 10, -10, 1999999, 123456789012345678, most - 1, most, -most + 1, -most} {
		if got, ok := impl.DecWhole(impl.DecOf(n)); got != n || !ok {
			t.Errorf("DecWhole of %d is %d, %v", n, got, ok)
		}
	}
	for _, n := range []int{most + 1, -most - 1, 2 * most, -2 * most, math.MaxInt, math.MinInt} {
		if got, ok := impl.DecWhole(impl.DecOf(n)); got != 0 || ok {
			t.Errorf("DecWhole of %d is %d, %v", n, got, ok)
		}
	}
	for _, s := range []string{
		"0.5", "-0.5", "1.5", "12.5", "-12.5", "0.00000001", "1e-99", "1e19", "-1e19", "1e20", "1e21", "1e99", "-1e99", "9223372036854775808", "18446744073709551616",
		"18446744073709551617", "99999999999999999999", "999999999999999999.5", "1000000000000000000.1", "-1000000000000000000.1", "1.0000000000000000001",
	} {
		if got, ok := impl.DecWhole(number(t, s)); got != 0 || ok {
			t.Errorf("DecWhole of %s is %d, %v", s, got, ok)
		}
	}
}

func TestComparisonOfDecimals(t *testing.T) {
	samples := sampleDecs()
	for _, a := range samples {
		for _, b := range samples {
			if got, want := impl.DecCmp(a, b), exactOf(a).Cmp(exactOf(b)); got != want {
				t.Fatalf("%s is %d, not %d", naming("DecCmp", a, b), got, want)
			}
		}
	}
	for _, c := range []struct {
		a, b string
		want int
	}{
		{"0", "0", 0}, {"-0", "0", 0}, {"1", "1.0", 0}, {"9", "10", -1}, {"-9", "-10", 1}, {"-1", "1", -1}, {"1", "-1", 1}, {"0", "-1", 1}, {"-1", "0", -1},
		{"0", "1e-99", -1}, {"0", "-1e-99", 1}, {"1e99", "-1e99", 1}, {"1", "1.0000000000000000001", -1}, {"-1", "-1.0000000000000000001", 1},
		{"12", "120", -1}, {"12", "1.2", 1}, {"19", "2", 1}, {"0.19", "0.2", -1},
	} {
		if got := impl.DecCmp(number(t, c.a), number(t, c.b)); got != c.want {
			t.Errorf("DecCmp of %s and %s is %d, not %d", c.a, c.b, got, c.want)
		}
	}
}

func TestNegatedNumbers(t *testing.T) {
	for _, a := range sampleDecs() {
		want, _ := normal(new(big.Rat).Neg(exactOf(a)))
		if got := impl.DecNeg(a); got != want {
			t.Errorf("DecNeg of %s is %+v, not %+v", impl.DecText(a), got, want)
		}
		if back := impl.DecNeg(impl.DecNeg(a)); back != a {
			t.Errorf("%+v negated twice is %+v", a, back)
		}
	}
}

// truncated is a number without its fractional part.
func truncated(exact *big.Rat) *big.Rat {
	return new(big.Rat).SetInt(new(big.Int).Quo(exact.Num(), exact.Denom()))
}

func TestIntegerParts(t *testing.T) {
	for _, a := range sampleDecs() {
		want, _ := normal(truncated(exactOf(a)))
		if got := impl.DecInt(a); got != want {
			t.Errorf("DecInt of %s is %+v, not %+v", impl.DecText(a), got, want)
		}
	}
	for _, c := range []struct{ s, want string }{
		{"0", "0"}, {"0.9", "0"}, {"-0.9", "0"}, {"0.09", "0"}, {"1e-99", "0"}, {"-1e-99", "0"}, {"1", "1"}, {"1.9", "1"}, {"-1.9", "-1"}, {"10.5", "10"}, {"-100.001", "-100"},
		{"100", "100"}, {"1e99", "1e+99"}, {"-1e99", "-1e+99"}, {nines(19) + ".9", nines(19)}, {"1000000000000000000.5", "1000000000000000000"}, {nines(20), nines(20)},
	} {
		if got := impl.DecText(impl.DecInt(number(t, c.s))); got != c.want {
			t.Errorf("DecInt of %s is %s, not %s", c.s, got, c.want)
		}
	}
}

// exactResult is what a function of two numbers yields before it is normalized; b is not 0 where it divides.
func exactResult(name string, a impl.Dec, b impl.Dec) *big.Rat {
	n, m := exactOf(a), exactOf(b)
	out := new(big.Rat)
	switch name {
	case "DecAdd":
		return out.Add(n, m)
	case "DecSub":
		return out.Sub(n, m)
	case "DecMul":
		return out.Mul(n, m)
	case "DecDiv":
		return out.Quo(n, m)
	}
	return out.Sub(n, out.Mul(m, truncated(new(big.Rat).Quo(n, m))))
}

func TestResultsAreExactAndNormalizedOnce(t *testing.T) {
	samples := sampleDecs()
	for _, f := range binaries() {
		for _, a := range samples {
			for _, b := range samples {
				if b == (impl.Dec{}) && (f.name == "DecDiv" || f.name == "DecMod") {
					continue
				}
				want, wantCode := normal(exactResult(f.name, a, b))
				got, code := f.call(a, b)
				checkDec(t, naming(f.name, a, b), got, code, want, wantCode)
			}
		}
	}
}

// texts are the texts of two numbers and of what a function makes of them.
type texts struct{ a, b, want string }

// checkTexts holds a function of two numbers against the wanted texts.
func checkTexts(t *testing.T, name string, call func(impl.Dec, impl.Dec) (impl.Dec, int), list []texts) {
	t.Helper()
	for _, c := range list {
		got, code := call(number(t, c.a), number(t, c.b))
		if text := impl.DecText(got); text != c.want || code != impl.NumOK {
			t.Errorf("%s of %s and %s is %s, %d, not %s", name, c.a, c.b, text, code, c.want)
		}
	}
}

func TestSumsOfDecimals(t *testing.T) {
	list := []texts{
		{"0", "0", "0"}, {"0", "5", "5"}, {"-5", "0", "-5"}, {"1", "2", "3"}, {"0.1", "0.2", "0.3"}, {"-1.5", "0.25", "-1.25"}, {"99.5", "0.5", "100"},
		// sums that are 0
		{"1", "-1", "0"}, {"1e99", "-1e99", "0"}, {"1e-99", "-1e-99", "0"}, {"0.1", "-0.1", "0"},
		// very different magnitudes: the less one decides a tie, or a digit, or nothing
		{"1e99", "1e-99", "1e+99"}, {"1e99", "-1e-99", "1e+99"}, {"-1e99", "1e-99", "-1e+99"}, {"1e20", "1", "100000000000000000000"}, {"1e19", "1", "10000000000000000001"},
		{"10000000000000000001", "0.5", "10000000000000000002"}, {"10000000000000000002", "0.5", "10000000000000000002"},
		{"10000000000000000002", "0.50000000000000000001", "10000000000000000003"}, {"10000000000000000001", "0.49999999999999999999", "10000000000000000001"},
		{"1e20", "-1", "99999999999999999999"}, {"1e20", "-0.5", "100000000000000000000"}, {"1e20", "-0.50000000000000000001", "99999999999999999999"},
		{"1e20", "-1e-99", "100000000000000000000"}, {"1e20", "5", "100000000000000000000"}, {"1e20", "5.0000000000000000001", "100000000000000000010"},
		{"123456789012345678910", "5", "123456789012345678920"}, {"123456789012345678910", "4.9999999999999999999", "123456789012345678910"},
		// carries and cancelled digits
		{nines(20), "1", powerOfTen(20)}, {nines(20), "0.5", powerOfTen(20)}, {nines(20), "0.4", nines(20)}, {"1.0000000000000000001", "-1", "1e-19"},
		{"10000000000000000001e-118", "-1e-99", "0"},
	}
	checkTexts(t, "DecAdd", impl.DecAdd, list)
	for i, c := range list {
		list[i] = texts{c.a, impl.DecText(impl.DecNeg(number(t, c.b))), c.want}
	}
	checkTexts(t, "DecSub", impl.DecSub, list)
}

func TestProductsOfDecimals(t *testing.T) {
	checkTexts(t, "DecMul", impl.DecMul, []texts{
		{"0", "5", "0"}, {"-5", "0", "0"}, {"0", "-1e99", "0"}, {"2", "3", "6"}, {"-2", "3", "-6"}, {"-2", "-3", "6"}, {"1.5", "1.5", "2.25"}, {"25", "4", "100"},
		{nines(10), nines(10), "99999999980000000001"}, {nines(20), nines(20), "9.9999999999999999998e+39"}, {"10000000001", "10000000001", "100000000020000000000"},
		{"1e49", "1e50", "1e+99"}, {"1e-49", "1e-50", "1e-99"}, {"1e-50", "1e-50", "0"}, {"-1e-50", "1e-50", "0"}, {"2e-50", "5e-50", "1e-99"},
		// ties both ways
		{"10000000000000000001", "0.5", "5000000000000000000.5"}, {"30000000000000000001", "0.5", "15000000000000000000"}, {"30000000000000000003", "0.5", "15000000000000000002"},
		{"9." + nines(19) + "e-50", "1e-50", "0"}, {"99999999995e-60", "1.00000000005e-50", "1e-99"},
	})
}

func TestQuotientsOfDecimals(t *testing.T) {
	checkTexts(t, "DecDiv", impl.DecDiv, []texts{
		// quotients that end
		{"0", "5", "0"}, {"0", "-1e-99", "0"}, {"6", "3", "2"}, {"1", "4", "0.25"}, {"-1", "8", "-0.125"}, {"1", "-8", "-0.125"}, {"-1", "-8", "0.125"}, {"100", "0.1", "1000"},
		{"1", "1048576", "0.00000095367431640625"}, {"10000000000000000005", "2e19", "0.50000000000000000025"}, {nines(20), "3", "33333333333333333333"},
		// quotients that end behind MaxDig digits, among them ties both ways
		{"30000000000000000001", "2", "15000000000000000000"}, {"30000000000000000003", "2", "15000000000000000002"}, {"-30000000000000000003", "2", "-15000000000000000002"},
		{"1", "4294967296", "2.3283064365386962891e-10"}, {"1", "18446744073709551616", "5.42101086242752217e-20"},
		// quotients that do not end
		{"1", "3", "0.33333333333333333333"}, {"2", "3", "0.66666666666666666667"}, {"-2", "3", "-0.66666666666666666667"}, {"20", "3", "6.6666666666666666667"},
		{"1", "7", "0.14285714285714285714"}, {"1", nines(20), "1e-20"},
		// 1.49999999999999999985000000000000000001...: no tie, but only digits far behind show it
		{"1.5", "1.0000000000000000001", "1.4999999999999999999"},
		// 0.10000000000000000001499999999999999999...: no tie either
		{"2000000000000000001", "20000000000000000007", "0.10000000000000000001"},
		// the limits of the magnitude
		{"1e99", "1e99", "1"}, {"1e-99", "1e-99", "1"}, {"1", "1e99", "1e-99"}, {"1", "1e-99", "1e+99"}, {"1e-99", "10", "0"}, {"-1e-99", "2", "0"}, {"1e-99", "1e99", "0"},
		{"1e-98", "10.0000000001", "0"}, {"1e-98", "10.00000000000000001", "0"}, {nines(20) + "e-118", nines(20) + "e-19", "1e-99"},
	})
}

func TestRemainders(t *testing.T) {
	checkTexts(t, "DecMod", impl.DecMod, []texts{
		{"7", "3", "1"}, {"-7", "3", "-1"}, {"7", "-3", "1"}, {"-7", "-3", "-1"}, {"6", "3", "0"}, {"-6", "3", "0"}, {"0", "3", "0"}, {"0", "-3", "0"},
		{"2", "3", "2"}, {"-2", "3", "-2"}, {"2", "-3", "2"}, {"1.5", "1", "0.5"}, {"-1.5", "1", "-0.5"}, {"1", "0.3", "0.1"}, {"-1", "0.3", "-0.1"}, {"5.25", "0.5", "0.25"},
		// quotients of many more than MaxDig digits: 10^99 = 1 mod 3, 10^198 = 1 mod 7, 2^10 divides 10^99
		{"1e99", "3", "1"}, {"-1e99", "3", "-1"}, {"1e99", "-3", "1"}, {"1e99", "7e-99", "1e-99"}, {"1e99", "1024", "0"}, {"1e99", "11", "10"}, {nines(20) + "e80", "7", "2"},
		{"1e99", "1e-99", "0"}, {"1e40", nines(20), "1"}, {"1e39", nines(20), "10000000000000000000"},
		// a divisor that is greater leaves the number as it is
		{"1e-99", "1e99", "1e-99"}, {nines(20) + "e-118", "1e99", "9." + nines(19) + "e-99"}, {"-5", "1e99", "-5"},
		// remainders below the least magnitude
		{"10000000000000000001e-118", "1e-99", "0"}, {"-15e-100", "1e-99", "0"}, {"25e-100", "1e-99", "0"},
	})
}

func TestResultsThatAreTooGreat(t *testing.T) {
	greatest := number(t, nines(20)+"e80")
	half := number(t, "5e79")
	less := number(t, "4e79")
	sum, code := impl.DecAdd(greatest, half)
	checkCode(t, "the greatest number plus half of its last digit", sum, code, impl.NumOver)
	sum, code = impl.DecSub(impl.DecNeg(greatest), half)
	checkCode(t, "the least number minus half of its last digit", sum, code, impl.NumOver)
	sum, code = impl.DecAdd(greatest, less)
	checkDec(t, "the greatest number plus less than half of its last digit", sum, code, greatest, impl.NumOK)
	for _, c := range []struct {
		name string
		call func(impl.Dec, impl.Dec) (impl.Dec, int)
		a, b string
	}{
		{"DecAdd", impl.DecAdd, "5e99", "5e99"}, {"DecAdd", impl.DecAdd, "-9e99", "-1e99"}, {"DecSub", impl.DecSub, "9e99", "-1e99"}, {"DecSub", impl.DecSub, "-5e99", "5e99"},
		{"DecMul", impl.DecMul, "1e50", "1e50"}, {"DecMul", impl.DecMul, "-1e99", "10"}, {"DecMul", impl.DecMul, "1e99", "1e99"}, {"DecMul", impl.DecMul, "99999999995e40", "1.00000000005e49"},
		{"DecDiv", impl.DecDiv, "1e99", "0.1"}, {"DecDiv", impl.DecDiv, "-20", "1e-99"}, {"DecDiv", impl.DecDiv, "1e99", "-1e-99"},
	} {
		got, code := c.call(number(t, c.a), number(t, c.b))
		checkCode(t, c.name+" of "+c.a+" and "+c.b, got, code, impl.NumOver)
	}
}

func TestPowers(t *testing.T) {
	for _, c := range []struct {
		a    string
		n    int
		want string
	}{
		{"0", 0, "1"}, {"5", 0, "1"}, {"-5", 0, "1"}, {"1e99", 0, "1"}, {"0", 1, "0"}, {"0", 2, "0"}, {"0", 99, "0"}, {"5", 1, "5"}, {"-5", 1, "-5"}, {"1e99", 1, "1e+99"},
		{"1.2345678901234567891", 1, "1.2345678901234567891"}, {"2", 2, "4"}, {"-2", 3, "-8"}, {"-2", 4, "16"}, {"0.5", 3, "0.125"}, {"2", 10, "1024"}, {"2", 66, "73786976294838206464"},
		{"10", 99, "1e+99"}, {"-10", 99, "-1e+99"}, {"0.1", 99, "1e-99"}, {"1", 99, "1"}, {"-1", 98, "1"}, {"-1", 99, "-1"}, {"1e-50", 2, "0"}, {"0.01", 99, "0"}, {"-0.01", 51, "0"},
		{"2", -1, "0.5"}, {"-4", -1, "-0.25"}, {"3", -1, "0.33333333333333333333"}, {"2", -2, "0.25"}, {"-2", -3, "-0.125"}, {"10", -99, "1e-99"}, {"0.1", -99, "1e+99"}, {"-1", -99, "-1"},
		{"1e99", -1, "1e-99"}, {"1e-99", -1, "1e+99"}, {"20", -76, "1.3234889800848442798e-99"},
		// each product is rounded: the exact powers end with ...25, ...70, ...76
		{"1.1", 23, "8.9543024325523737224"}, {"1.3", 21, "247.06452907345039271"}, {"1.0123456789", 99, "3.3694150566459019973"},
	} {
		got, code := impl.DecPow(number(t, c.a), c.n)
		if text := impl.DecText(got); text != c.want || code != impl.NumOK {
			t.Errorf("DecPow of %s and %d is %s, %d, not %s", c.a, c.n, text, code, c.want)
		}
	}
}

func TestPowersThatFail(t *testing.T) {
	for _, c := range []struct {
		a    string
		n    int
		code int
	}{
		{"10", 100, impl.NumForm}, {"10", -100, impl.NumForm}, {"0", 100, impl.NumForm}, {"0", -100, impl.NumForm}, {"1", math.MaxInt, impl.NumForm}, {"1", math.MinInt, impl.NumForm},
		{"1", math.MinInt + 1, impl.NumForm}, {"0", -1, impl.NumZero}, {"0", -2, impl.NumZero}, {"0", -99, impl.NumZero},
		{"11", 99, impl.NumOver}, {"-11", 99, impl.NumOver}, {"1e50", 2, impl.NumOver}, {"1e99", 2, impl.NumOver}, {"1e99", 99, impl.NumOver}, {"1e50", -2, impl.NumOver}, {"11", -99, impl.NumOver},
		// the power before the division is 0
		{"1e-50", -2, impl.NumZero}, {"0.01", -99, impl.NumZero},
	} {
		got, code := impl.DecPow(number(t, c.a), c.n)
		checkCode(t, "DecPow of "+c.a+" and "+strconv.Itoa(c.n), got, code, c.code)
	}
}

func TestPowersAreProducts(t *testing.T) {
	for _, a := range sampleDecs() {
		want, wantCode := impl.DecOf(1), impl.NumOK
		for n := range impl.MaxE + 1 {
			if n == 1 {
				want = a
			} else if n > 1 && wantCode == impl.NumOK {
				want, wantCode = normal(exactResult("DecMul", want, a))
			}
			got, code := impl.DecPow(a, n)
			checkDec(t, "DecPow of "+impl.DecText(a)+" and "+strconv.Itoa(n), got, code, want, wantCode)
			if n == 0 {
				continue
			}
			inverse, inverseCode := impl.Dec{}, wantCode
			if wantCode == impl.NumOK && want == (impl.Dec{}) {
				inverseCode = impl.NumZero
			} else if wantCode == impl.NumOK {
				inverse, inverseCode = normal(new(big.Rat).Inv(exactOf(want)))
			}
			got, code = impl.DecPow(a, -n)
			checkDec(t, "DecPow of "+impl.DecText(a)+" and "+strconv.Itoa(-n), got, code, inverse, inverseCode)
		}
	}
}

func TestP4SumsAndProductsAreCommutative(t *testing.T) {
	samples := sampleDecs()
	for _, a := range samples {
		for _, b := range samples {
			sum, code := impl.DecAdd(a, b)
			otherSum, otherCode := impl.DecAdd(b, a)
			checkDec(t, naming("DecAdd", a, b), sum, code, otherSum, otherCode)
			product, code := impl.DecMul(a, b)
			otherProduct, otherCode := impl.DecMul(b, a)
			checkDec(t, naming("DecMul", a, b), product, code, otherProduct, otherCode)
			if !impl.DecOk(sum) || !impl.DecOk(product) {
				t.Fatalf("the sum %+v or the product %+v of %+v and %+v is not valid", sum, product, a, b)
			}
		}
	}
}

// smallInts are ints of absolute value less than 2000000, with those at the limit.
func smallInts() []int {
	list := []int{0, 1, 2, 3, 5, 7, 9, 10, 11, 99, 100, 101, 999, 1000, 1024, 65536, 999999, 1000000, 1000001, 1414213, 1999998, 1999999}
	random := rand.New(rand.NewSource(7))
	for range 80 {
		list = append(list, random.Intn(2000000), random.Intn(2000))
	}
	for _, n := range list {
		list = append(list, -n)
	}
	return list
}

func TestP4SmallIntegersAreComputedAsInts(t *testing.T) {
	ints := smallInts()
	for _, n := range ints {
		a := impl.DecOf(n)
		if got, ok := impl.DecWhole(a); got != n || !ok || impl.DecText(a) != strconv.Itoa(n) {
			t.Fatalf("DecOf(%d) is %+v, and DecWhole of it %d, %v", n, a, got, ok)
		}
		if impl.DecNeg(a) != impl.DecOf(-n) || impl.DecInt(a) != a {
			t.Fatalf("%d negated is %+v, and its integer part %+v", n, impl.DecNeg(a), impl.DecInt(a))
		}
		for _, m := range ints {
			b := impl.DecOf(m)
			for _, f := range binaries() {
				checkAsInts(t, f, n, m, a, b)
			}
			if got, want := impl.DecCmp(a, b), new(big.Int).SetInt64(int64(n)).Cmp(big.NewInt(int64(m))); got != want {
				t.Fatalf("DecCmp of %d and %d is %d", n, m, got)
			}
		}
	}
}

// checkAsInts holds a function of two numbers against what Go computes with the ints.
func checkAsInts(t *testing.T, f binary, n int, m int, a impl.Dec, b impl.Dec) {
	t.Helper()
	got, code := f.call(a, b)
	want := 0
	switch {
	case m == 0 && (f.name == "DecDiv" || f.name == "DecMod"):
		checkCode(t, naming(f.name, a, b), got, code, impl.NumZero)
		return
	case f.name == "DecAdd":
		want = n + m
	case f.name == "DecSub":
		want = n - m
	case f.name == "DecMul":
		want = n * m
	case f.name == "DecDiv":
		got, want = impl.DecInt(got), n/m
	case f.name == "DecMod":
		want = n % m
	}
	checkDec(t, naming(f.name, a, b), got, code, impl.DecOf(want), impl.NumOK)
}

func TestP4ProductsDividedByOneFactorAreTheOther(t *testing.T) {
	samples := sampleDecs()
	for _, n := range smallInts()[:40] {
		samples = append(samples, impl.DecOf(n))
	}
	random := rand.New(rand.NewSource(8))
	for range 60 {
		samples = append(samples, randomDec(random, 1+random.Intn(10)))
	}
	held := 0
	for _, a := range samples {
		for _, b := range samples {
			product, code := impl.DecMul(a, b)
			if code != impl.NumOK || exactOf(product).Cmp(exactResult("DecMul", a, b)) != 0 {
				continue
			}
			if a != (impl.Dec{}) {
				got, code := impl.DecDiv(product, a)
				checkDec(t, naming("DecDiv", product, a), got, code, b, impl.NumOK)
				held++
			}
			if b != (impl.Dec{}) {
				got, code := impl.DecDiv(product, b)
				checkDec(t, naming("DecDiv", product, b), got, code, a, impl.NumOK)
				held++
			}
		}
	}
	if held < 10000 {
		t.Error("only", held, "products need no rounding")
	}
}

func TestDivisionOfDecimalsByZero(t *testing.T) {
	for _, a := range sampleDecs() {
		got, code := impl.DecDiv(a, impl.Dec{})
		checkCode(t, naming("DecDiv", a, impl.Dec{}), got, code, impl.NumZero)
		got, code = impl.DecMod(a, impl.Dec{})
		checkCode(t, naming("DecMod", a, impl.Dec{}), got, code, impl.NumZero)
	}
}

func TestDecimalsThatAreNotValid(t *testing.T) {
	good := []impl.Dec{{}, {Dig: "1"}, {Neg: true, Dig: "125", Exp: -1}, {Dig: nines(20), Exp: 80}, {Dig: "1", Exp: -99}}
	for i, bad := range notDecs() {
		what := " of the value " + strconv.Itoa(i) + " that is not valid"
		if got := impl.DecText(bad); got != "" {
			t.Errorf("DecText%s is %q", what, got)
		}
		if got, ok := impl.DecWhole(bad); got != 0 || ok {
			t.Errorf("DecWhole%s is %d, %v", what, got, ok)
		}
		if impl.DecNeg(bad) != (impl.Dec{}) || impl.DecInt(bad) != (impl.Dec{}) {
			t.Errorf("DecNeg%s is %+v, and DecInt %+v", what, impl.DecNeg(bad), impl.DecInt(bad))
		}
		for _, n := range []int{0, 1, 2, -1, -2, impl.MaxE, -impl.MaxE, impl.MaxE + 1, -impl.MaxE - 1, math.MaxInt, math.MinInt} {
			got, code := impl.DecPow(bad, n)
			checkCode(t, "DecPow"+what, got, code, impl.NumForm)
		}
		for _, other := range append(good, bad) {
			if impl.DecCmp(bad, other) != 2 || impl.DecCmp(other, bad) != 2 {
				t.Errorf("DecCmp%s and %+v is %d, or %d", what, other, impl.DecCmp(bad, other), impl.DecCmp(other, bad))
			}
			for _, f := range binaries() {
				got, code := f.call(bad, other)
				checkCode(t, f.name+what+" as the first", got, code, impl.NumForm)
				got, code = f.call(other, bad)
				checkCode(t, f.name+what+" as the second", got, code, impl.NumForm)
			}
		}
	}
}
