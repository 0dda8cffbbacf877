package tests

import (
	"math"
	"math/big"
	"math/rand"
	"strings"
	"testing"

	"loop.example/g00417/impl"
)

func bigOf(t *testing.T, s string) *big.Int {
	t.Helper()
	n, ok := new(big.Int).SetString(s, 10)
	if !ok {
		t.Fatalf("%q is no number", s)
	}
	return n
}

// powerOfTen is the text of 10^n.
func powerOfTen(n int) string { return "1" + strings.Repeat("0", n) }

func nines(n int) string { return strings.Repeat("9", n) }

// randomNatural has exactly size digits; every third one is mostly zeros and nines, for carries.
func randomNatural(random *rand.Rand, size int) string {
	out := make([]byte, size)
	for i := range out {
		out[i] = byte('0' + random.Intn(10))
	}
	if random.Intn(3) == 0 {
		for i := range out {
			if random.Intn(10) > 0 {
				out[i] = "09"[random.Intn(2)]
			}
		}
	}
	if size > 1 && out[0] == '0' {
		out[0] = byte('1' + random.Intn(9))
	}
	return string(out)
}

// sampleNaturals are naturals of many sizes, with those around powers of ten and at the limit.
func sampleNaturals() []string {
	list := []string{
		"0", "1", "2", "3", "4", "5", "6", "7", "8", "9", "10", "11", "19", "25", "50", "99", "100", "101",
		"999", "1000", "1001", "65535", "65536", "4294967295", "4294967296", "9223372036854775807",
		"9223372036854775808", "18446744073709551615", "18446744073709551616", "100000000000000000000",
		"99999999999999999999", "5000000000000000000001", "123456789012345678901234567890",
		nines(299), powerOfTen(299), nines(300), powerOfTen(300), nines(301),
		nines(impl.MaxNat - 1), powerOfTen(impl.MaxNat - 1), nines(impl.MaxNat), strings.Repeat("5", impl.MaxNat),
		nines(impl.MaxNat-1) + "8", powerOfTen(impl.MaxNat-2) + "1",
	}
	random := rand.New(rand.NewSource(2))
	for _, size := range []int{1, 2, 3, 5, 9, 10, 18, 19, 20, 21, 39, 40, 41, 77, 150, 300, 301, 450, 599, 600} {
		list = append(list, randomNatural(random, size), randomNatural(random, size))
	}
	return list
}

// notNaturals are strings that no function may take for a natural.
func notNaturals() []string {
	return []string{
		"", "00", "01", "000", "007", "0000000000", "+1", "-1", "+", "-", "-0", "+0", " ", " 1", "1 ", "1 2", "\t1", "1\n",
		"a", "1a", "a1", "1a1", "x", "0x10", "1e3", "1.0", "1.", ".1", "1_000", "1,000", "/", ":", "1/", "1:", "2/3",
		"\x00", "1\x00", "\x001", "\xff", "1\xff", "١", "1١", "１", "Ⅷ", "²",
		powerOfTen(impl.MaxNat), nines(impl.MaxNat + 1), "0" + nines(impl.MaxNat-1), strings.Repeat("0", impl.MaxNat),
		nines(impl.MaxNat-1) + "a", strings.Repeat("1", 100000),
	}
}

func TestNaturalsAreRecognized(t *testing.T) {
	for _, a := range sampleNaturals() {
		if !impl.NatOk(a) {
			t.Errorf("NatOk(%q) is false", a)
		}
	}
	for _, a := range notNaturals() {
		if impl.NatOk(a) {
			t.Errorf("NatOk(%q) is true", a)
		}
	}
}

func TestEveryByteOfNaturals(t *testing.T) {
	for c := range 256 {
		digit := c >= '0' && c <= '9'
		one := string([]byte{byte(c)})
		if impl.NatOk(one) != digit {
			t.Errorf("NatOk(%q) is %v", one, !digit)
		}
		if impl.NatOk("1"+one+"1") != digit || impl.NatOk("1"+one) != digit {
			t.Errorf("NatOk with %q inside or behind is %v", one, !digit)
		}
		if first := digit && c != '0'; impl.NatOk(one+"1") != first {
			t.Errorf("NatOk(%q) is %v", one+"1", !first)
		}
	}
}

func TestExamplesOfNaturals(t *testing.T) {
	if impl.MaxNat != 600 {
		t.Error("MaxNat is", impl.MaxNat)
	}
	if got := impl.NatCmp("9", "10"); got != -1 {
		t.Error(`NatCmp("9", "10") is`, got)
	}
	if got := impl.NatCmp("x", "1"); got != 2 {
		t.Error(`NatCmp("x", "1") is`, got)
	}
	if q, r, ok := impl.NatDiv("1000", "7"); q != "142" || r != "6" || !ok {
		t.Error(`NatDiv("1000", "7") is`, q, r, ok)
	}
	if got, ok := impl.NatRound("125", 1); got != "12" || !ok {
		t.Error(`NatRound("125", 1) is`, got, ok)
	}
	if got, ok := impl.NatRound("135", 1); got != "14" || !ok {
		t.Error(`NatRound("135", 1) is`, got, ok)
	}
	if got, ok := impl.NatSub("1", "2"); got != "" || ok {
		t.Error(`NatSub("1", "2") is`, got, ok)
	}
}

func TestComparisonOfNaturals(t *testing.T) {
	for _, a := range sampleNaturals() {
		for _, b := range sampleNaturals() {
			if got, want := impl.NatCmp(a, b), bigOf(t, a).Cmp(bigOf(t, b)); got != want {
				t.Fatalf("NatCmp(%s, %s) is %d, not %d", a, b, got, want)
			}
		}
	}
}

// checkNatural holds a result against the exact one; want is nil if there is none.
func checkNatural(t *testing.T, what string, got string, ok bool, want *big.Int) {
	t.Helper()
	if want != nil && (want.Sign() < 0 || len(want.String()) > impl.MaxNat) {
		want = nil
	}
	if want == nil {
		if got != "" || ok {
			t.Fatalf("%s is %q, %v, not empty, false", what, got, ok)
		}
		return
	}
	if !ok || got != want.String() {
		t.Fatalf("%s is %q, %v, not %s", what, got, ok, want)
	}
}

func TestSumsDifferencesAndProducts(t *testing.T) {
	for _, a := range sampleNaturals() {
		for _, b := range sampleNaturals() {
			n, m := bigOf(t, a), bigOf(t, b)
			sum, okSum := impl.NatAdd(a, b)
			checkNatural(t, "NatAdd("+a+", "+b+")", sum, okSum, new(big.Int).Add(n, m))
			difference, okDifference := impl.NatSub(a, b)
			checkNatural(t, "NatSub("+a+", "+b+")", difference, okDifference, new(big.Int).Sub(n, m))
			product, okProduct := impl.NatMul(a, b)
			checkNatural(t, "NatMul("+a+", "+b+")", product, okProduct, new(big.Int).Mul(n, m))
		}
	}
}

func TestSmallNaturalsAreComputedAsInts(t *testing.T) {
	text := impl.NumText
	for n := range 130 {
		for m := range 130 {
			sum, okSum := impl.NatAdd(text(n), text(m))
			product, okProduct := impl.NatMul(text(n), text(m))
			if !okSum || !okProduct || sum != text(n+m) || product != text(n*m) {
				t.Fatal(n, m, "sum", sum, okSum, "product", product, okProduct)
			}
			difference, ok := impl.NatSub(text(n), text(m))
			if ok != (n >= m) || ok && difference != text(n-m) || !ok && difference != "" {
				t.Fatal(n, m, "difference", difference, ok)
			}
			quotient, rest, ok := impl.NatDiv(text(n), text(m))
			if ok != (m > 0) || ok && (quotient != text(n/m) || rest != text(n%m)) || !ok && quotient+rest != "" {
				t.Fatal(n, m, "quotient", quotient, rest, ok)
			}
		}
	}
}

func TestResultsAtTheLimitOfDigits(t *testing.T) {
	longest := nines(impl.MaxNat)
	if got, ok := impl.NatAdd(longest, "0"); got != longest || !ok {
		t.Error("the longest natural plus 0", ok)
	}
	if got, ok := impl.NatAdd(longest, "1"); got != "" || ok {
		t.Error("the longest natural plus 1 has a digit too many", ok)
	}
	if got, ok := impl.NatAdd("1", longest); got != "" || ok {
		t.Error("1 plus the longest natural has a digit too many", ok)
	}
	if got, ok := impl.NatAdd(longest, longest); got != "" || ok {
		t.Error("twice the longest natural has a digit too many", ok)
	}
	if got, ok := impl.NatAdd(nines(impl.MaxNat-1)+"8", "1"); got != longest || !ok {
		t.Error("a sum that is the longest natural", ok)
	}
	if got, ok := impl.NatAdd(nines(impl.MaxNat-1), "1"); got != powerOfTen(impl.MaxNat-1) || !ok {
		t.Error("a sum that becomes MaxNat digits long", ok)
	}
	if got, ok := impl.NatSub(longest, longest); got != "0" || !ok {
		t.Error("the longest natural minus itself", got, ok)
	}
	if got, ok := impl.NatSub(powerOfTen(impl.MaxNat-1), "1"); got != nines(impl.MaxNat-1) || !ok {
		t.Error("a difference that becomes shorter", ok)
	}
	// 301 and 300 digits: a product of 600 digits, and the least one of 601.
	if got, ok := impl.NatMul(powerOfTen(300), powerOfTen(299)); got != powerOfTen(599) || !ok {
		t.Error("a product of MaxNat digits", ok)
	}
	if got, ok := impl.NatMul(powerOfTen(300), powerOfTen(300)); got != "" || ok {
		t.Error("a product of MaxNat + 1 digits", ok)
	}
	if got, ok := impl.NatMul(nines(300), nines(300)); got != nines(299)+"8"+strings.Repeat("0", 299)+"1" || !ok {
		t.Error("the greatest product of 300 digits each", ok)
	}
	if got, ok := impl.NatMul(nines(301), nines(300)); got != "" || ok {
		t.Error("a product of 601 digits whose factors have 601 together", ok)
	}
	if got, ok := impl.NatMul(longest, "1"); got != longest || !ok {
		t.Error("the longest natural times 1", ok)
	}
	if got, ok := impl.NatMul("0", longest); got != "0" || !ok {
		t.Error("0 times the longest natural", got, ok)
	}
	if got, ok := impl.NatMul(longest, "2"); got != "" || ok {
		t.Error("the longest natural times 2", ok)
	}
	if got, ok := impl.NatMul(longest, longest); got != "" || ok {
		t.Error("the longest natural squared", ok)
	}
	if got, ok := impl.NatMul(strings.Repeat("3", impl.MaxNat), "3"); got != longest || !ok {
		t.Error("a product that is the longest natural", ok)
	}
}

func TestQuotientsAndRemainders(t *testing.T) {
	for _, c := range []struct{ a, b, quotient, rest string }{
		{"0", "1", "0", "0"}, {"0", "7", "0", "0"}, {"0", nines(impl.MaxNat), "0", "0"},
		{"1", "1", "1", "0"}, {"12", "1", "12", "0"}, {nines(impl.MaxNat), "1", nines(impl.MaxNat), "0"},
		{"7", "7", "1", "0"}, {nines(impl.MaxNat), nines(impl.MaxNat), "1", "0"},
		{"6", "7", "0", "6"}, {"99", "100", "0", "99"}, {powerOfTen(598), nines(599), "0", powerOfTen(598)},
		{"1001", "1", "1001", "0"}, {"700007", "7", "100001", "0"}, {"700013", "7", "100001", "6"},
		{"100", "10", "10", "0"}, {"109", "10", "10", "9"}, {"1000000", "999", "1001", "1"},
		{"9", "2", "4", "1"}, {"99", "10", "9", "9"}, {"89", "10", "8", "9"},
		{powerOfTen(599), powerOfTen(598), "10", "0"}, {powerOfTen(599), powerOfTen(599), "1", "0"},
		{nines(600), powerOfTen(599), "9", nines(599)}, {nines(600), nines(300), powerOfTen(299) + "1", "0"},
	} {
		quotient, rest, ok := impl.NatDiv(c.a, c.b)
		if !ok || quotient != c.quotient || rest != c.rest {
			t.Errorf("NatDiv(%s, %s) is %s, %s, %v, not %s, %s", c.a, c.b, quotient, rest, ok, c.quotient, c.rest)
		}
	}
}

func TestDivisionByZero(t *testing.T) {
	for _, a := range sampleNaturals() {
		if quotient, rest, ok := impl.NatDiv(a, "0"); quotient != "" || rest != "" || ok {
			t.Errorf("NatDiv(%s, 0) is %q, %q, %v", a, quotient, rest, ok)
		}
	}
}

func TestP3QuotientAndRemainderAreCorrect(t *testing.T) {
	for _, a := range sampleNaturals() {
		for _, b := range sampleNaturals() {
			if b == "0" {
				continue
			}
			quotient, rest, ok := impl.NatDiv(a, b)
			if !ok || !impl.NatOk(quotient) || !impl.NatOk(rest) {
				t.Fatalf("NatDiv(%s, %s) is %q, %q, %v", a, b, quotient, rest, ok)
			}
			if impl.NatCmp(rest, b) != -1 {
				t.Fatalf("the remainder of NatDiv(%s, %s) is %s", a, b, rest)
			}
			product, _ := impl.NatMul(quotient, b)
			if sum, _ := impl.NatAdd(product, rest); sum != a {
				t.Fatalf("NatDiv(%s, %s) is %s, %s, which make %s", a, b, quotient, rest, sum)
			}
			q, r := new(big.Int).QuoRem(bigOf(t, a), bigOf(t, b), new(big.Int))
			if quotient != q.String() || rest != r.String() {
				t.Fatalf("NatDiv(%s, %s) is %s, %s, not %s, %s", a, b, quotient, rest, q, r)
			}
		}
	}
}

func TestP3SumsAndProductsAreCommutative(t *testing.T) {
	for _, a := range sampleNaturals() {
		for _, b := range sampleNaturals() {
			sum, okSum := impl.NatAdd(a, b)
			otherSum, okOtherSum := impl.NatAdd(b, a)
			if sum != otherSum || okSum != okOtherSum || okSum != impl.NatOk(sum) {
				t.Fatalf("the sums of %s and %s are %q, %v and %q, %v", a, b, sum, okSum, otherSum, okOtherSum)
			}
			product, okProduct := impl.NatMul(a, b)
			otherProduct, okOtherProduct := impl.NatMul(b, a)
			if product != otherProduct || okProduct != okOtherProduct || okProduct != impl.NatOk(product) {
				t.Fatalf("the products of %s and %s are %q, %v and %q, %v", a, b, product, okProduct, otherProduct, okOtherProduct)
			}
		}
	}
}

// roundings are the n for which a number of the given size is rounded.
func roundings(size int) []int {
	list := []int{0, 1, 2, 3, 19, 20, 21, 300, impl.MaxNat - 1, impl.MaxNat}
	for n := size - 2; n <= size+2; n++ {
		if n >= 0 && n <= impl.MaxNat {
			list = append(list, n)
		}
	}
	return list
}

func TestP3RoundedNumbersDifferByAtMostHalfAStep(t *testing.T) {
	two := big.NewInt(2)
	for _, a := range append(sampleNaturals(), ties()...) {
		for _, n := range roundings(len(a)) {
			got, ok := impl.NatRound(a, n)
			if !ok || !impl.NatOk(got) {
				t.Fatalf("NatRound(%s, %d) is %q, %v", a, n, got, ok)
			}
			step := bigOf(t, powerOfTen(n))
			twice := new(big.Int).Mul(bigOf(t, got), step)
			twice.Sub(twice, bigOf(t, a)).Abs(twice).Mul(twice, two)
			switch twice.Cmp(step) {
			case 1:
				t.Fatalf("NatRound(%s, %d) is %s: more than half a step away", a, n, got)
			case 0:
				if bigOf(t, got).Bit(0) == 1 {
					t.Fatalf("NatRound(%s, %d) is %s: a tie to odd", a, n, got)
				}
			}
		}
	}
}

// ties are numbers that lie between two rounded ones, and their neighbours.
func ties() []string {
	var list []string
	for _, head := range []string{"", "1", "2", "8", "9", "10", "11", "19", "99", "998", nines(50)} {
		for _, zeros := range []int{0, 1, 2, 18, 19, 20, 298} {
			list = append(list, head+"5"+strings.Repeat("0", zeros))
			if zeros > 0 {
				list = append(list, head+"5"+strings.Repeat("0", zeros-1)+"1", head+"4"+nines(zeros))
			}
		}
	}
	var naturals []string
	for _, a := range list {
		naturals = append(naturals, strings.TrimLeft(a, "0"))
	}
	return naturals
}

func TestRounding(t *testing.T) {
	for _, c := range []struct {
		a    string
		n    int
		want string
	}{
		{"0", 0, "0"}, {"0", 1, "0"}, {"0", impl.MaxNat, "0"},
		{"7", 0, "7"}, {"125", 0, "125"}, {nines(impl.MaxNat), 0, nines(impl.MaxNat)},
		// ties down to even and up to even
		{"125", 1, "12"}, {"135", 1, "14"}, {"5", 1, "0"}, {"15", 1, "2"}, {"25", 1, "2"}, {"95", 1, "10"},
		{"50", 2, "0"}, {"150", 2, "2"}, {"250", 2, "2"}, {"205", 1, "20"}, {"215", 1, "22"},
		// no ties: further digits behind the 5
		{"1251", 2, "13"}, {"1250", 2, "12"}, {"12500000001", 9, "13"}, {"51", 2, "1"}, {"501", 3, "1"}, {"500", 3, "0"},
		{"2501", 3, "3"}, {"2510", 3, "3"},
		{"124", 1, "12"}, {"126", 1, "13"}, {"1249", 2, "12"}, {"4", 1, "0"}, {"6", 1, "1"}, {"9", 1, "1"}, {"49", 2, "0"},
		// carries through nines
		{"995", 1, "100"}, {"999", 1, "100"}, {"999", 2, "10"}, {"999", 3, "1"}, {"9995", 1, "1000"}, {"9985", 1, "998"},
		{"1999", 1, "200"}, {"19995", 1, "2000"}, {nines(600), 1, powerOfTen(599)}, {nines(600), 599, "10"}, {nines(600), 600, "1"},
		// n greater than the number of digits
		{"999", 4, "0"}, {"5", 2, "0"}, {"9", 2, "0"}, {"9", impl.MaxNat, "0"}, {nines(599), 600, "0"},
		{"5" + strings.Repeat("0", 599), 600, "0"}, {"5" + strings.Repeat("0", 598) + "1", 600, "1"}, {"4" + nines(599), 600, "0"},
	} {
		if got, ok := impl.NatRound(c.a, c.n); got != c.want || !ok {
			t.Errorf("NatRound(%s, %d) is %q, %v, not %s", c.a, c.n, got, ok, c.want)
		}
	}
}

func TestShifting(t *testing.T) {
	for _, a := range sampleNaturals() {
		for _, n := range append(roundings(len(a)), roundings(impl.MaxNat-len(a))...) {
			got, ok := impl.NatShift(a, n)
			checkNatural(t, "NatShift("+a+", "+impl.NumText(n)+")", got, ok, new(big.Int).Mul(bigOf(t, a), bigOf(t, powerOfTen(n))))
		}
	}
	for _, c := range []struct {
		a    string
		n    int
		want string
	}{
		{"0", 0, "0"}, {"0", 1, "0"}, {"0", impl.MaxNat, "0"}, {"12", 0, "12"}, {"12", 3, "12000"}, {"10", 2, "1000"},
		{"1", impl.MaxNat - 1, powerOfTen(impl.MaxNat - 1)}, {"12", impl.MaxNat - 2, "12" + strings.Repeat("0", impl.MaxNat-2)},
		{"1", impl.MaxNat, ""}, {"12", impl.MaxNat - 1, ""}, {nines(impl.MaxNat), 0, nines(impl.MaxNat)}, {nines(impl.MaxNat), 1, ""},
	} {
		if got, ok := impl.NatShift(c.a, c.n); got != c.want || ok != (c.want != "") {
			t.Errorf("NatShift(%s, %d) is %q, %v, not %q", c.a, c.n, got, ok, c.want)
		}
	}
}

func TestCountsThatAreNotValid(t *testing.T) {
	for _, a := range sampleNaturals() {
		for _, n := range []int{-1, -2, -impl.MaxNat, math.MinInt, math.MinInt + 1, impl.MaxNat + 1, impl.MaxNat + 2, math.MaxInt} {
			if got, ok := impl.NatShift(a, n); got != "" || ok {
				t.Errorf("NatShift(%s, %d) is %q, %v", a, n, got, ok)
			}
			if got, ok := impl.NatRound(a, n); got != "" || ok {
				t.Errorf("NatRound(%s, %d) is %q, %v", a, n, got, ok)
			}
		}
	}
}

func TestStringsThatAreNotNaturals(t *testing.T) {
	for _, bad := range notNaturals() {
		for _, good := range append([]string{"0", "1", "10", nines(impl.MaxNat)}, bad) {
			for _, pair := range [][2]string{{bad, good}, {good, bad}} {
				a, b := pair[0], pair[1]
				if got := impl.NatCmp(a, b); got != 2 {
					t.Errorf("NatCmp(%q, %q) is %d", a, b, got)
				}
				if got, ok := impl.NatAdd(a, b); got != "" || ok {
					t.Errorf("NatAdd(%q, %q) is %q, %v", a, b, got, ok)
				}
				if got, ok := impl.NatSub(a, b); got != "" || ok {
					t.Errorf("NatSub(%q, %q) is %q, %v", a, b, got, ok)
				}
				if got, ok := impl.NatMul(a, b); got != "" || ok {
					t.Errorf("NatMul(%q, %q) is %q, %v", a, b, got, ok)
				}
				if quotient, rest, ok := impl.NatDiv(a, b); quotient != "" || rest != "" || ok {
					t.Errorf("NatDiv(%q, %q) is %q, %q, %v", a, b, quotient, rest, ok)
				}
			}
		}
		for _, n := range []int{-1, 0, 1, impl.MaxNat, impl.MaxNat + 1} {
			if got, ok := impl.NatShift(bad, n); got != "" || ok {
				t.Errorf("NatShift(%q, %d) is %q, %v", bad, n, got, ok)
			}
			if got, ok := impl.NatRound(bad, n); got != "" || ok {
				t.Errorf("NatRound(%q, %d) is %q, %v", bad, n, got, ok)
			}
		}
	}
}
