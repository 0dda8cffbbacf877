package tests

import (
	"math/rand"
	"regexp"
	"slices"
	"strings"
	"testing"
	"time"
	"unicode/utf8"
	"unsafe"

	"loop.example/g00417/impl"
)

// secondWords are the longest parts without blanks, by the library.
func secondWords(s string) []string {
	return strings.FieldsFunc(s, func(c rune) bool { return strings.ContainsRune(" \t\n\r", c) })
}

// secondSplit reads s code point by code point, and begins a part behind each separator.
func secondSplit(s string, sep string) []string {
	if s == "" || sep == "" {
		return nil
	}
	list := []string{""}
	for s != "" {
		if strings.HasPrefix(s, sep) {
			list = append(list, "")
			s = s[len(sep):]
			continue
		}
		_, size := utf8.DecodeRuneInString(s)
		list[len(list)-1] += s[:size]
		s = s[size:]
	}
	return list
}

// secondSplitRx asks RxFind for one match after the other, as the document says it.
func secondSplitRx(s string, x impl.Rx) []string {
	if s == "" {
		return nil
	}
	var list []string
	behind, from := 0, 0
	for {
		at, end := impl.RxFind(x, s, from)
		switch {
		case at < 0:
			return append(list, impl.Part(s, behind+1, impl.MaxText))
		case at == end:
			from = at + 1
		default:
			list = append(list, impl.Part(s, behind+1, at-behind))
			behind, from = end, end
		}
	}
}

// librarySplit is SplitRx over any text that is not empty by the library, whose empty matches are passed over.
func librarySplit(s string, x impl.Rx) []string {
	form := regexp.MustCompile("(?s)(?:" + impl.RxText(x) + ")")
	form.Longest()
	var list []string
	behind := 0
	for _, ends := range form.FindAllStringIndex(s, -1) {
		if ends[0] < ends[1] {
			list = append(list, s[behind:ends[0]])
			behind = ends[1]
		}
	}
	return append(list, s[behind:])
}

// secondFields has the four ways and the codes in the order of the document.
func secondFields(s string, fs string) ([]string, int) {
	if !impl.TextOk(s) || !impl.TextOk(fs) {
		return nil, impl.FsText
	}
	var list []string
	switch points, _ := impl.Runes(fs); {
	case fs == " ":
		list = secondWords(s)
	case len(points) == 0:
		list = strings.Split(s, "")
	case len(points) == 1:
		list = secondSplit(s, fs)
	default:
		x, _, code := impl.RxRead(fs)
		if code != impl.RxOK {
			return nil, impl.FsPattern
		}
		list = secondSplitRx(s, x)
	}
	if len(list) > impl.MaxFields {
		return nil, impl.FsMany
	}
	return list, impl.FsOK
}

// secondLines makes the records of a file from its parts, and for an empty rs from its lines one by one.
func secondLines(s string, rs string) []string {
	if rs != "" {
		list := secondSplit(s, rs)
		if len(list) > 0 && list[len(list)-1] == "" {
			list = list[:len(list)-1]
		}
		return list
	}
	var list []string
	inside := false
	for _, line := range secondSplit(s, "\n") {
		switch {
		case line == "":
			inside = false
		case inside:
			list[len(list)-1] += "\n" + line
		default:
			list = append(list, line)
			inside = true
		}
	}
	return list
}

// checkList wants these strings, none of which lies within s.
func checkList(t *testing.T, what string, s string, got []string, want []string) {
	t.Helper()
	if !slices.Equal(got, want) {
		t.Fatalf("%s of %.70q returns %.200q, not %.200q", what, s, got, want)
	}
	for _, part := range got {
		checkNew(t, what, part, s)
	}
}

// checkNew wants the bytes of part to lie elsewhere than those of s.
func checkNew(t *testing.T, what string, part string, s string) {
	t.Helper()
	if part == "" || s == "" {
		return
	}
	at := uintptr(unsafe.Pointer(unsafe.StringData(part)))
	begin := uintptr(unsafe.Pointer(unsafe.StringData(s)))
	if at >= begin && at < begin+uintptr(len(s)) {
		t.Fatalf("%s of %.70q returns %.70q in the memory of its argument", what, s, part)
	}
}

func checkWords(t *testing.T, s string, want []string) {
	t.Helper()
	checkList(t, "Blanks", s, impl.Blanks(s), want)
}

func checkSplit(t *testing.T, s string, sep string, want []string) {
	t.Helper()
	checkList(t, "SplitText by "+sep, s, impl.SplitText(s, sep), want)
}

func checkSplitRx(t *testing.T, s string, x impl.Rx, want []string) {
	t.Helper()
	checkList(t, "SplitRx by "+impl.RxText(x), s, impl.SplitRx(s, x), want)
}

func checkFields(t *testing.T, s string, fs string, want []string, wantCode int) {
	t.Helper()
	got, code := impl.Fields(s, fs)
	if code != wantCode {
		t.Fatalf("Fields of %.70q by %.70q returns the code %d, not %d", s, fs, code, wantCode)
	}
	checkList(t, "Fields by "+fs, s, got, want)
}

func checkLines(t *testing.T, s string, rs string, want []string) {
	t.Helper()
	checkList(t, "Lines by "+rs, s, impl.Lines(s, rs), want)
}

func checkJoined(t *testing.T, list []string, sep string, want string, wantOk bool) {
	t.Helper()
	got, ok := impl.Joined(list, sep)
	if got != want || ok != wantOk {
		t.Fatalf("Joined of %d strings by %.20q returns %.70q, %v, not %.70q, %v", len(list), sep, got, ok, want, wantOk)
	}
	checkNew(t, "Joined", got, sep)
	for _, s := range list[:min(len(list), 100)] {
		checkNew(t, "Joined", got, s)
	}
}

// joined is the text of a list that has one.
func joined(t *testing.T, list []string, sep string) string {
	t.Helper()
	s, ok := impl.Joined(list, sep)
	if !ok || s != strings.Join(list, sep) {
		t.Fatalf("Joined(%q, %q) returns %q, %v", list, sep, s, ok)
	}
	return s
}

func list(parts ...string) []string { return parts }

func TestConstantsOfSplitting(t *testing.T) {
	got := []int{impl.MaxFields, impl.MaxFile, impl.FsOK, impl.FsText, impl.FsPattern, impl.FsMany}
	if !slices.Equal(got, []int{100, 4000, 0, 1, 2, 3}) {
		t.Errorf("the constants are %v", got)
	}
}

func TestExamplesOfSplitting(t *testing.T) {
	checkSplit(t, ",a,,b", ",", list("", "a", "", "b"))
	checkSplitRx(t, "a , b,c", pattern(t, " *, *"), list("a", "b", "c"))
	checkFields(t, "a1b22c", "[0-9]+", list("a", "b", "c"), impl.FsOK)
	checkJoined(t, list("a", "", "b"), "--", "a----b", true)
	checkLines(t, "\n\na\nb\n\n\nc\n", "", list("a\nb", "c"))
}

func TestWordsBetweenBlanks(t *testing.T) {
	checkWords(t, "", nil)
	checkWords(t, "a", list("a"))
	checkWords(t, " \t\n\r", nil)
	checkWords(t, "  a b\t c ", list("a", "b", "c"))
	checkWords(t, "\u00e9\n\u8a9e \U0001f600", list("\u00e9", "\u8a9e", "\U0001f600"))
	for _, blank := range fourBlanks() {
		checkWords(t, blank, nil)
		checkWords(t, blank+blank+blank, nil)
		checkWords(t, blank+"ab", list("ab"))
		checkWords(t, blank+blank+"ab", list("ab"))
		checkWords(t, "ab"+blank, list("ab"))
		checkWords(t, "ab"+blank+blank, list("ab"))
		checkWords(t, "ab"+blank+"\u00e9", list("ab", "\u00e9"))
		checkWords(t, "ab"+blank+blank+"\u00e9", list("ab", "\u00e9"))
		checkWords(t, blank+"a"+blank+"b"+blank+"c"+blank, list("a", "b", "c"))
		for _, other := range fourBlanks() {
			checkWords(t, blank+other, nil)
			checkWords(t, "ab"+blank+other+"\u00e9"+other+blank, list("ab", "\u00e9"))
		}
	}
	for _, s := range otherBlanks() {
		checkWords(t, s, list(s))
		checkWords(t, "a"+s+"b "+s, list("a"+s+"b", s))
	}
	// more words than there may be fields, and the longest one
	checkWords(t, strings.Repeat("a ", impl.MaxText/2), slices.Repeat(list("a"), impl.MaxText/2))
	checkWords(t, strings.Repeat(" ", impl.MaxText), nil)
	checkWords(t, strings.Repeat("a", impl.MaxText), list(strings.Repeat("a", impl.MaxText)))
}

func TestWordsOfAllShortTexts(t *testing.T) {
	for _, s := range append(allOf("", list("a", "\u00e9", " ", "\t", "\n", "\r", "\f", "\u3000"), 5), sampleTexts()...) {
		checkWords(t, s, secondWords(s))
	}
}

func TestPartsBetweenSeparators(t *testing.T) {
	for _, c := range []struct {
		s    string
		sep  string
		want []string
	}{
		{"", ",", nil}, {"", "", nil}, {"a", "", nil}, {",", "", nil}, {"", "abc", nil},
		{"a", ",", list("a")}, {"a,b", ",", list("a", "b")},
		{",a", ",", list("", "a")}, {"a,", ",", list("a", "")}, {",a,", ",", list("", "a", "")},
		{",", ",", list("", "")}, {",,", ",", list("", "", "")}, {",,,", ",", list("", "", "", "")}, {"a,,b", ",", list("a", "", "b")}, {",,a", ",", list("", "", "a")}, {"a,,", ",", list("a", "", "")},
		// several code points
		{"a, b, c", ", ", list("a", "b", "c")}, {"a,b, c", ", ", list("a,b", "c")}, {"ab", "ab", list("", "")}, {"abab", "ab", list("", "", "")}, {"xabab", "ab", list("x", "", "")}, {"ab", "abc", list("ab")}, {"ab", "ba", list("ab")}, {"a", "aa", list("a")}, {"abc", "bc", list("a", "")}, {"abcab", "abc", list("", "ab")}, {"aab", "ab", list("a", "")},
		// each behind the previous one, where a separator overlaps itself
		{"aaa", "aa", list("", "a")}, {"aaaa", "aa", list("", "", "")}, {"aaaaa", "aa", list("", "", "a")}, {"baaa", "aa", list("b", "a")}, {"aaab", "aa", list("", "ab")}, {"ababa", "aba", list("", "ba")}, {"xabababax", "aba", list("x", "b", "x")}, {"abaaba", "aba", list("", "", "")}, {"\u00e9\u00e9\u00e9", "\u00e9\u00e9", list("", "\u00e9")}, {"aabaabaa", "aabaa", list("", "baa")},
		// blanks, and what has a meaning in a pattern
		{" a  b ", " ", list("", "a", "", "b", "")}, {"a\tb\nc", "\n", list("a\tb", "c")}, {"a.b*c", ".", list("a", "b*c")}, {"a.b*c", ".*", list("a.b*c")}, {"a.*b", ".*", list("a", "b")}, {"a|b", "|", list("a", "b")}, {`a\b`, `\`, list("a", "b")},
		// code points that are not ASCII, also with bytes in common
		{"a\u00e9b\u00e9", "\u00e9", list("a", "b", "")}, {"\u00e9\u00e8", "\u00e8", list("\u00e9", "")}, {"\u00e9,\u8a9e", ",", list("\u00e9", "\u8a9e")}, {"\u8a9e\u00e9a\u00e9\u8a9e\u00e9", "\u00e9\u8a9e", list("\u8a9e\u00e9a", "\u00e9")}, {"\U0001f600\U0001f601\U0001f600", "\U0001f601", list("\U0001f600", "\U0001f600")}, {"a\U0010ffffb", "\U0010ffff", list("a", "b")}, {"e\u0301", "e", list("", "\u0301")}, {"e\u0301", "\u00e9", list("e\u0301")}, {"\x01a\x01", "\x01", list("", "a", "")},
	} {
		checkSplit(t, c.s, c.sep, c.want)
	}
}

func TestPartsOfTheLongestTexts(t *testing.T) {
	a := strings.Repeat("a", impl.MaxText)
	half := strings.Repeat("\u00e9", impl.MaxText/2)
	checkSplit(t, a, "a", slices.Repeat(list(""), impl.MaxText+1))
	checkSplit(t, a, "aa", slices.Repeat(list(""), impl.MaxText/2+1))
	checkSplit(t, a, "b", list(a))
	checkSplit(t, a, a, list("", ""))
	checkSplit(t, a, a[1:], list("", "a"))
	checkSplit(t, a[1:], a, list(a[1:]))
	checkSplit(t, half, "\u00e9", slices.Repeat(list(""), impl.MaxText/2+1))
	checkSplit(t, half, half, list("", ""))
	checkSplit(t, strings.Repeat("b,", impl.MaxText/2), ",", append(slices.Repeat(list("b"), impl.MaxText/2), ""))
	checkSplitRx(t, a, pattern(t, "a"), slices.Repeat(list(""), impl.MaxText+1))
	checkSplitRx(t, a, pattern(t, "a{7}"), append(slices.Repeat(list(""), impl.MaxText/7), "aaaaaa"))
	checkSplitRx(t, a, pattern(t, "a*"), list("", ""))
	checkSplitRx(t, a, pattern(t, "a$"), list(a[1:], ""))
	checkSplitRx(t, a, pattern(t, "^a"), list("", a[1:]))
	checkSplitRx(t, a, pattern(t, "b*"), list(a))
	checkSplitRx(t, half, pattern(t, "."), slices.Repeat(list(""), impl.MaxText/2+1))
	checkSplitRx(t, half, pattern(t, "(..)+"), list("", ""))
}

func TestPartsOfAllShortTexts(t *testing.T) {
	for _, sep := range allOf("", list("a", "b", "\u00e9"), 4) {
		for _, s := range allOf("", list("a", "b", "\u00e9"), 6) {
			checkSplit(t, s, sep, secondSplit(s, sep))
		}
	}
}

func TestPartsBetweenMatches(t *testing.T) {
	for _, c := range []struct {
		s    string
		p    string
		want []string
	}{
		{"", ",", nil}, {"", "", nil}, {"", ".*", nil}, {"", "^$", nil}, {"", "b*", nil},
		{"a", ",", list("a")}, {"a,b", ",", list("a", "b")}, {",a", ",", list("", "a")}, {"a,", ",", list("a", "")}, {",a,,b,", ",", list("", "a", "", "b", "")}, {",", ",", list("", "")}, {",,", ",", list("", "", "")}, {",,", ",,", list("", "")}, {"aaa", "aa", list("", "a")},
		{",,,a", ",+", list("", "a")}, {"a,,", ",+", list("a", "")}, {",;,", "[,;]", list("", "", "", "")}, {"a,;b", ",|;", list("a", "", "b")}, {"a,;b", "(,|;)+", list("a", "b")},
		// matches that are empty at some positions and not at others
		{"abba", "b*", list("a", "a")}, {"bab", "b*", list("", "a", "")}, {"aaa", "b*", list("aaa")}, {"b", "b*", list("", "")}, {"abab", "b*", list("a", "a", "")}, {"a,,b,c", ",*", list("a", "b", "c")}, {",,", ",*", list("", "")}, {",a,", ",*", list("", "a", "")}, {"axbxx", "x?", list("a", "b", "", "")}, {"xx", "x?", list("", "", "")}, {"axb", "x?|b?", list("a", "", "")}, {"abc", "b?c?", list("a", "")}, {"abcb", "(b|c)*", list("a", "")}, {"ab", "(a*)*b?", list("", "")},
		// patterns that only match empty
		{"ab", "", list("ab")}, {"ab", "()", list("ab")}, {"ab", "^", list("ab")}, {"ab", "$", list("ab")}, {"ab", "^|$", list("ab")}, {"ab", "(|^)*", list("ab")}, {"ab", "a{0}", list("ab")}, {"ab", "^$", list("ab")},
		// the beginning and the end of the text, not of a part
		{"aaab", "^a", list("", "aab")}, {"aaab", "^a*", list("", "b")}, {"baa", "^a", list("baa")}, {"a,a", "^a|,", list("", "", "a")}, {"baaa", "a$", list("baa", "")}, {"baaa", "a*$", list("b", "")}, {"aab", "a$", list("aab")}, {"aba", "^a|a$", list("", "b", "")}, {"aaa", "^a$", list("aaa")}, {"a", "^a$", list("", "")}, {"aba", "a(^|$)", list("ab", "")}, {"ab", "(^a|b$)", list("", "", "")}, {"ab", "a^b", list("ab")}, {"ab", "a$b", list("ab")}, {"aab", "(^|a)a", list("", "b")}, {"aab", "(^|b)a", list("", "ab")}, {"aab", "(b|$|a)+b", list("", "")}, {"a\nb", "^b|a$", list("a\nb")},
		// the longest match of all that begin first
		{"xaab", "a+|ab", list("x", "b")}, {"xab", "a|ab", list("x", "")}, {"xab", "ab|a", list("x", "")}, {"xabc", "ab|bc", list("x", "c")}, {"xabc", "bc|a", list("x", "", "")}, {"aaaaa", "a{2,3}", list("", "", "")}, {"aaaa", "a{2,3}", list("", "a")}, {"a1b22c333", "[0-9]+", list("a", "b", "c", "")}, {"a<b>c<d>e", "<.*>", list("a", "e")}, {"a<b>c<d>e", "<[^>]*>", list("a", "c", "e")}, {"abab", "a.*b|a", list("", "")}, {"abac", "a.*b|a", list("", "", "c")}, {"aca", "a.*b|a", list("", "c", "")},
		{" a  b ", " +", list("", "a", "b", "")}, {" a b ", "[[:space:]]*", list("", "a", "b", "")},
		// code points that are not ASCII
		{"a\u00e9b\u8a9ec", "[\u00e9\u8a9e]", list("a", "b", "c")}, {"\u00e9\u8a9e\u00e9", "\u8a9e", list("\u00e9", "\u00e9")}, {"\u00e9\u8a9e", ".", list("", "", "")}, {"\u00e9\u8a9e\U0001f600", ".$", list("\u00e9\u8a9e", "")}, {"\u00e9\u8a9e\U0001f600", "[^\u8a9e]", list("", "\u8a9e", "")}, {"\u00e9\u00e9a", "\u00e9*", list("", "a")}, {"x\U0010ffff\U0010ffffy", "\U0010ffff+", list("x", "y")},
	} {
		checkSplitRx(t, c.s, pattern(t, c.p), c.want)
		checkSplitRx(t, c.s, pattern(t, c.p), secondSplitRx(c.s, pattern(t, c.p)))
	}
}

func TestPartsByAllShortPatterns(t *testing.T) {
	for _, x := range shortPatterns(t) {
		for _, s := range list("", "a", "b", "ab", "aab", "bab", "abbaa", "aaaaabb") {
			checkSplitRx(t, s, x, secondSplitRx(s, x))
		}
	}
}

func TestPartsByKindsInKinds(t *testing.T) {
	texts := append(shortTexts(), "abcabc", "b\u00e9b\u00e9b", "aabbaabb")
	for _, p := range kindsInKinds() {
		x := pattern(t, p)
		for _, s := range texts {
			checkSplitRx(t, s, x, secondSplitRx(s, x))
		}
	}
}

func TestPartsByRandomPatterns(t *testing.T) {
	random := rand.New(rand.NewSource(81))
	parts := 0
	for range 6000 {
		x, _, code := impl.RxRead(matchingPattern(random, random.Intn(impl.MaxRxDeep)))
		if code != impl.RxOK {
			continue
		}
		s := matchingText(random, random.Intn(12))
		checkSplitRx(t, s, x, secondSplitRx(s, x))
		s = matchingText(random, 1+random.Intn(300))
		want := librarySplit(s, x)
		checkSplitRx(t, s, x, want)
		if len(want) > 2 {
			parts++
		}
	}
	if parts < 1000 {
		t.Errorf("only %d texts are split more than once", parts)
	}
	// code points of every kind, in patterns of every kind
	for range 4000 {
		x, _, code := impl.RxRead(randomPattern(random, random.Intn(4)))
		if code != impl.RxOK {
			continue
		}
		s := randomText(random, random.Intn(40))
		checkSplitRx(t, s, x, secondSplitRx(s, x))
	}
}

// randomText is a text of so many code points of every kind.
func randomText(random *rand.Rand, length int) string {
	var points []int
	for range length {
		points = append(points, randomPoint(random))
	}
	s, _ := impl.TextOf(points)
	return s
}

// TestPartsByLongPatterns is about patterns that RxRead rejects because of their length, but that are sound.
func TestPartsByLongPatterns(t *testing.T) {
	most := impl.MaxRxNodes - 1
	a := func(n int) string { return strings.Repeat("a", n) }
	checkSplitRx(t, a(most-1), catOf(rxChar('a'), most), list(a(most-1)))
	checkSplitRx(t, a(1000), catOf(rxChar('a'), most), list("", "", a(1000-2*most)))
	checkSplitRx(t, "b"+a(most)+"b"+a(most+1), catOf(rxChar('a'), most), list("b", "b", "a"))
	checkSplitRx(t, "ab", catOf(rxEmpty(), most), list("ab"))
	checkSplitRx(t, "ab", catOf(rxBegin(), most), list("ab"))
	set := rxOf(rxSet(slices.Repeat([]int{'b', 'c'}, 331)...), rxRep(0, -1, 0))
	checkSplitRx(t, "abcbabc", set, list("a", "a", ""))
}

// splitSoon is SplitRx, which ends long before something that reads the text again for each match would.
func splitSoon(t *testing.T, s string, x impl.Rx) []string {
	t.Helper()
	results := make(chan []string, 1)
	go func() { results <- impl.SplitRx(s, x) }()
	select {
	case got := <-results:
		return got
	case <-time.After(5 * time.Second):
		t.Fatalf("SplitRx of %.10q by %.100q does not end", s, impl.RxText(x))
		return nil
	}
}

func TestPartsByTheLargestPatternsEndSoon(t *testing.T) {
	a := strings.Repeat("a", impl.MaxText)
	for i, p := range largestNested() {
		s := list(a, a[1:]+"b", strings.Repeat("aab", impl.MaxText/3), strings.Repeat("\u00e9", impl.MaxText/2))[i%4]
		for _, q := range list(p, p+"|x", "a|"+p+"c") {
			if x, _, code := impl.RxRead(q); code == impl.RxOK {
				splitSoon(t, s, x)
				checkSplitRx(t, s[:60], x, librarySplit(s[:60], x))
			}
		}
	}
	// a match of one code point at each position, behind which the whole text could match as well
	nodes := slices.Concat([]impl.RxNode{rxChar('a')}, slices.Repeat([]impl.RxNode{rxAny()}, 390))
	var kids []int
	for i := range 390 {
		kids = append(kids, i+1)
	}
	nodes = append(nodes, rxAlt(kids...), rxRep(0, -1, 391), rxChar('b'), rxCat(0, 392, 393), rxChar('a'), rxAlt(394, 395))
	if got := splitSoon(t, a, rxOf(nodes...)); !slices.Equal(got, slices.Repeat(list(""), impl.MaxText+1)) {
		t.Errorf("SplitRx by %.20q returns %d parts", impl.RxText(rxOf(nodes...)), len(got))
	}
}

func TestFieldsOfEachWay(t *testing.T) {
	for _, c := range []struct {
		s    string
		fs   string
		want []string
	}{
		// blanks
		{"", " ", nil}, {" ", " ", nil}, {" a\tb \r\n c ", " ", list("a", "b", "c")}, {"a", " ", list("a")}, {"a\u00a0b", " ", list("a\u00a0b")},
		// code points
		{"", "", nil}, {"a", "", list("a")}, {"a\u00e9", "", list("a", "\u00e9")}, {" ,\n", "", list(" ", ",", "\n")}, {"\U0001f600\u8a9e\U0010ffff", "", list("\U0001f600", "\u8a9e", "\U0010ffff")}, {"e\u0301", "", list("e", "\u0301")},
		// one code point
		{"", ",", nil}, {",", ",", list("", "")}, {",a,,b", ",", list("", "a", "", "b")}, {"a,", ",", list("a", "")}, {"a b\tc", "\t", list("a b", "c")}, {"\ta\t\tb", "\t", list("", "a", "", "b")}, {"a\nb", "\n", list("a", "b")}, {"a\u00e9b", "\u00e9", list("a", "b")}, {"a\u00a0 b", "\u00a0", list("a", " b")}, {"a\U0001f600\U0001f600", "\U0001f600", list("a", "", "")}, {"axbxx", "x", list("a", "b", "", "")},
		// patterns
		{"", ", ", nil}, {"a, b,c", ", ", list("a", "b,c")}, {"a , b,c", " *, *", list("a", "b", "c")}, {" a  b ", "  ", list(" a", "b ")}, {" a  b ", " +", list("", "a", "b", "")}, {"a  b", "[ ]", list("a", "", "b")}, {"a.b", `\.`, list("a", "b")}, {"a|b", `\|`, list("a", "b")}, {"aXbYc", "X|Y", list("a", "b", "c")}, {"abba", "b*", list("a", "a")}, {"aba", "^a|a$", list("", "b", "")}, {"a\u00e9\u00e9b", "\u00e9\u00e9", list("a", "b")}, {"a\u00e9\u8a9eb", "[\u00e9\u8a9e]+", list("a", "b")}, {"ab", "()", list("ab")}, {"ab", "^$", list("ab")}, {"a\nb", `\n`, list("a", "b")}, {"a1b22c", "[0-9]+", list("a", "b", "c")},
	} {
		checkFields(t, c.s, c.fs, c.want, impl.FsOK)
		want, code := secondFields(c.s, c.fs)
		checkFields(t, c.s, c.fs, want, code)
	}
}

// TestFieldsByEachCodePoint includes those that are no pattern alone, or one that matches other things.
func TestFieldsByEachCodePoint(t *testing.T) {
	points := []int{128, 233, 0x7ff, 0x800, 0x3000, 0xd7ff, 0xe000, 0xfffd, 0xffff, 0x10000, 0x1f600, 0x10ffff}
	for c := 1; c < 128; c++ {
		points = append(points, c)
	}
	for _, c := range points {
		fs := shortest(c)
		s := fs + "uv" + fs + fs + "\u0101"
		want := list("", "uv", "", "\u0101")
		switch fs {
		case " ":
			want = list("uv", "\u0101")
		case "u":
			want = list("", "", "v", "", "\u0101")
		case "v":
			want = list("", "u", "", "", "\u0101")
		}
		checkFields(t, s, fs, want, impl.FsOK)
		checkFields(t, "", fs, nil, impl.FsOK)
	}
	for _, fs := range list("(", ")", "[", "*", "+", "?", "{", `\`) {
		if _, _, code := impl.RxRead(fs); code == impl.RxOK {
			t.Errorf("%q is a pattern", fs)
		}
	}
}

func TestFieldsByPatternsThatAreErrors(t *testing.T) {
	for _, fs := range list("((", "a)", "(a", "**", "a**", "{2}", "a{2", "a{61}", "a{2,1}", "[a", "[z-a]", "[[:x:]]", `\q`, `a\`, "|*", "^*+", strings.Repeat("(", impl.MaxRxDeep+1)+strings.Repeat(")", impl.MaxRxDeep+1), strings.Repeat("a", impl.MaxPattern+1), "((a{60}){60})", strings.Repeat("a", impl.MaxText), "\u00e9*+", "[\u8a9e-\u00e9]") {
		for _, s := range list("", "a", "((", "a,b", "\u00e9", strings.Repeat("a", impl.MaxText)) {
			checkFields(t, s, fs, nil, impl.FsPattern)
		}
	}
	longest := strings.Repeat("a", impl.MaxPattern)
	checkFields(t, "b"+longest+"c", longest, list("b", "c"), impl.FsOK)
	checkFields(t, "b"+longest+"c", longest+"a", nil, impl.FsPattern)
}

// TestMostFields has as many fields as there may be, and one more, in each of the ways.
func TestMostFields(t *testing.T) {
	most := impl.MaxFields
	for _, c := range []struct {
		fs   string
		part string
		unit string
	}{
		{" ", "ab", "ab "}, {" ", "ab", " \tab\n"}, {" ", "\u00e9", "\u00e9\r"}, {"", "a", "a"}, {"", " ", " "}, {"", "\U0001f600", "\U0001f600"},
	} {
		checkFields(t, strings.Repeat(c.unit, most), c.fs, slices.Repeat(list(c.part), most), impl.FsOK)
		checkFields(t, strings.Repeat(c.unit, most-1), c.fs, slices.Repeat(list(c.part), most-1), impl.FsOK)
		checkFields(t, strings.Repeat(c.unit, most+1), c.fs, nil, impl.FsMany)
		checkFields(t, strings.Repeat(c.unit, 2*most), c.fs, nil, impl.FsMany)
	}
	for _, c := range []struct {
		fs   string
		part string
		sep  string
	}{
		{",", "", ","}, {",", "ab", ","}, {"*", "a", "*"}, {"\u00e9", "\u8a9e", "\u00e9"}, {"\n", "", "\n"},
		{", ", "", ", "}, {",+", "a", ",,"}, {"[,;]", "", ";"}, {"b*", "a", "bb"}, {"\u00e9\u00e9?", "\u8a9e", "\u00e9"}, {" +", "a", "  "},
	} {
		checkFields(t, strings.Repeat(c.part+c.sep, most-1)+c.part, c.fs, slices.Repeat(list(c.part), most), impl.FsOK)
		checkFields(t, strings.Repeat(c.part+c.sep, most-1), c.fs, append(slices.Repeat(list(c.part), most-1), ""), impl.FsOK)
		checkFields(t, strings.Repeat(c.part+c.sep, most)+c.part, c.fs, nil, impl.FsMany)
		checkFields(t, strings.Repeat(c.part+c.sep, most), c.fs, nil, impl.FsMany)
		checkFields(t, strings.Repeat(c.part+c.sep, 2*most), c.fs, nil, impl.FsMany)
	}
	// a pattern that only matches empty does not divide
	checkFields(t, strings.Repeat("a", impl.MaxText), "()", list(strings.Repeat("a", impl.MaxText)), impl.FsOK)
	checkFields(t, strings.Repeat("a", impl.MaxText), "", nil, impl.FsMany)
	checkFields(t, strings.Repeat(" ", impl.MaxText), " ", nil, impl.FsOK)
}

func TestOrderOfCodesOfFields(t *testing.T) {
	many := strings.Repeat("a,", impl.MaxFields+1)
	for _, s := range notTexts() {
		for _, fs := range append(list(" ", "", ",", "[0-9]+", "((", "*", strings.Repeat("a", impl.MaxPattern+1)), notTexts()...) {
			checkFields(t, s, fs, nil, impl.FsText)
		}
	}
	for _, fs := range notTexts() {
		for _, s := range list("", "a", many) {
			checkFields(t, s, fs, nil, impl.FsText)
		}
	}
	// an error in the pattern before too many fields, also if nothing is there to be divided
	checkFields(t, many, "((", nil, impl.FsPattern)
	checkFields(t, many, ",*+", nil, impl.FsPattern)
	checkFields(t, "", "((", nil, impl.FsPattern)
	checkFields(t, many, ",", nil, impl.FsMany)
	checkFields(t, many, ",+", nil, impl.FsMany)
}

func TestFieldsOfAllShortTexts(t *testing.T) {
	texts := allOf("", list("a", "*", " ", "\u00e9", "("), 4)
	codes := map[int]int{}
	for _, fs := range allOf("", list("a", "*", " ", "\u00e9", "(", ")", "|", "\t"), 3) {
		for _, s := range texts {
			want, code := secondFields(s, fs)
			checkFields(t, s, fs, want, code)
			codes[code]++
		}
	}
	if codes[impl.FsOK] < 10000 || codes[impl.FsPattern] < 10000 {
		t.Errorf("the codes are %v", codes)
	}
}

func TestFieldsOfRandomTexts(t *testing.T) {
	random := rand.New(rand.NewSource(82))
	codes := map[int]int{}
	for range 4000 {
		fs := randomPattern(random, random.Intn(3))
		if random.Intn(2) == 0 {
			fs = randomText(random, random.Intn(3))
		}
		s := randomText(random, random.Intn(250))
		want, code := secondFields(s, fs)
		checkFields(t, s, fs, want, code)
		codes[code]++
	}
	for _, code := range []int{impl.FsOK, impl.FsPattern, impl.FsMany} {
		if codes[code] < 100 {
			t.Errorf("the codes are %v", codes)
		}
	}
}

func TestJoined(t *testing.T) {
	for _, c := range []struct {
		list []string
		sep  string
		want string
	}{
		{nil, "", ""}, {nil, ",", ""}, {list(), "--", ""}, {list(""), "", ""}, {list(""), ",", ""}, {list("a"), "", "a"}, {list("a"), ",", "a"}, {list("\u00e9"), "\u8a9e", "\u00e9"},
		{list("", ""), ",", ","}, {list("", ""), "", ""}, {list("", "", ""), "ab", "abab"}, {list("a", "b"), "", "ab"}, {list("a", "b"), ",", "a,b"}, {list("a", "", "b"), "--", "a----b"}, {list("", "a", ""), ",", ",a,"}, {list("a,b", "c"), ",", "a,b,c"}, {list("a", "b", "c", "d"), ", ", "a, b, c, d"}, {list("\u00e9", "\u8a9e", "\U0001f600"), "\u3000", "\u00e9\u3000\u8a9e\u3000\U0001f600"}, {list("e", "\u0301"), "", "e\u0301"}, {list("a", "b"), "\n", "a\nb"},
	} {
		checkJoined(t, c.list, c.sep, c.want, true)
	}
}

func TestJoinedOfMaxTextBytes(t *testing.T) {
	a := func(n int) string { return strings.Repeat("a", n) }
	most := impl.MaxText
	for _, c := range []struct {
		list []string
		sep  string
	}{
		{list(a(most)), ""}, {list(a(most)), ","}, {list(a(most), ""), ""}, {list("", a(most)), ""}, {list(a(most-1), ""), ","}, {list("", a(most-1)), ","}, {list(a(500), a(499)), ","}, {list("", ""), a(most)}, {list("a", "b"), a(most - 2)},
		{slices.Repeat(list(""), most+1), ","}, {slices.Repeat(list("a"), most), ""}, {append(slices.Repeat(list("a"), most/2), ""), ","},
		{slices.Repeat(list(""), most/2+1), "\u00e9"}, {list(strings.Repeat("\u8a9e", 332), "\u00e9"), "\u00e9"}, {list(a(most-4), ""), "\U0001f600"},
	} {
		want := strings.Join(c.list, c.sep)
		if len(want) != most {
			t.Fatalf("there are %d bytes", len(want))
		}
		checkJoined(t, c.list, c.sep, want, true)
		for _, i := range []int{0, len(c.list) / 2, len(c.list) - 1} {
			longer := slices.Clone(c.list)
			longer[i] += "b"
			checkJoined(t, longer, c.sep, "", false)
		}
		if len(c.list) > 1 {
			checkJoined(t, c.list, c.sep+"b", "", false)
		}
	}
	checkJoined(t, list(a(500), a(501)), "", "", false)
	checkJoined(t, list(a(500), a(500)), ",", "", false)
	checkJoined(t, list(a(499), a(500)), "\u00e9", "", false)
	checkJoined(t, slices.Repeat(list(""), most+2), ",", "", false)
	checkJoined(t, list("", "", ""), a(501), "", false)
	// a list that is far longer than a text
	checkJoined(t, slices.Repeat(list(""), 1000000), "", "", true)
	checkJoined(t, slices.Repeat(list(""), 1000000), ",", "", false)
	checkJoined(t, slices.Repeat(list(a(most)), 1000000), a(most), "", false)
}

func TestJoinedOfStringsThatAreNotTexts(t *testing.T) {
	for _, s := range notTexts() {
		checkJoined(t, list(s), "", "", false)
		checkJoined(t, list("a", s), ",", "", false)
		checkJoined(t, list(s, "a"), ",", "", false)
		checkJoined(t, list("a", s, "b"), "", "", false)
		// also where the separator is not used
		checkJoined(t, nil, s, "", false)
		checkJoined(t, list("a"), s, "", false)
		checkJoined(t, list("a", "b"), s, "", false)
		checkJoined(t, list(s), s, "", false)
	}
	// parts of a code point do not make a text
	checkJoined(t, list("\xc3", "\xa9"), "", "", false)
	checkJoined(t, list("\xc3", ""), "\xa9", "", false)
	checkJoined(t, list("\xe8\xaa", "\x9e"), "", "", false)
}

func TestFiles(t *testing.T) {
	for _, s := range append(sampleTexts(), strings.Repeat("a", impl.MaxText+1), strings.Repeat("a", impl.MaxFile), strings.Repeat("\n", impl.MaxFile), strings.Repeat("\u00e9", impl.MaxFile/2), strings.Repeat("\U0001f600", impl.MaxFile/4), strings.Repeat("\u8a9e", impl.MaxFile/3), strings.Repeat("\u8a9e", impl.MaxFile/3)+"a") {
		if !impl.FileOk(s) {
			t.Errorf("FileOk(%.20q) of %d bytes is false", s, len(s))
		}
	}
	for _, s := range notFiles() {
		if impl.FileOk(s) {
			t.Errorf("FileOk(%.20q) of %d bytes is true", s, len(s))
		}
	}
}

// notFiles are strings that are not FileOk.
func notFiles() []string {
	var all []string
	for _, s := range notTexts() {
		if !utf8.ValidString(s) || strings.Contains(s, "\x00") {
			all = append(all, s, strings.Repeat("a\n", 600)+s)
		}
	}
	return append(all, strings.Repeat("a", impl.MaxFile+1), strings.Repeat("\n", impl.MaxFile+1), strings.Repeat("\u00e9", impl.MaxFile/2)+"a", strings.Repeat("\u00e9", impl.MaxFile/2+1), strings.Repeat("\u8a9e", impl.MaxFile/3)+"\u00e9", strings.Repeat("a", impl.MaxFile-1)+"\u00e9", strings.Repeat("a", impl.MaxFile-1)+"\xff", strings.Repeat("a", impl.MaxFile-1)+"\x00", strings.Repeat("a", 1000000))
}

func TestLines(t *testing.T) {
	for _, c := range []struct {
		s    string
		rs   string
		want []string
	}{
		// with an end behind the last record, and without
		{"", "\n", nil}, {"\n", "\n", list("")}, {"\n\n", "\n", list("", "")}, {"a", "\n", list("a")}, {"a\n", "\n", list("a")}, {"a\n\n", "\n", list("a", "")}, {"\na", "\n", list("", "a")}, {"\na\n", "\n", list("", "a")}, {"a\nb", "\n", list("a", "b")}, {"a\nb\n", "\n", list("a", "b")}, {"a\n\nb", "\n", list("a", "", "b")}, {"a\n\n\nb\n", "\n", list("a", "", "", "b")}, {" \n", "\n", list(" ")}, {"a\r\nb\r\n", "\n", list("a\r", "b\r")}, {"a\u2028b\u0085c", "\n", list("a\u2028b\u0085c")},
		// other code points
		{"", ";", nil}, {";", ";", list("")}, {"a;b", ";", list("a", "b")}, {"a;b;", ";", list("a", "b")}, {"a;b;;", ";", list("a", "b", "")}, {"a;b\n", ";", list("a", "b\n")}, {"a;b;\n", ";", list("a", "b", "\n")}, {"a\nb;c", ";", list("a\nb", "c")}, {"a b  c", " ", list("a", "b", "", "c")}, {"\ta\tb\t", "\t", list("", "a", "b")}, {"a\r\nb\r\n", "\r", list("a", "\nb", "\n")}, {"a.b*c", ".", list("a", "b*c")}, {"a.b*c", "*", list("a.b", "c")}, {"aaa", "a", list("", "", "")}, {"a\u00e9b\u00e9", "\u00e9", list("a", "b")}, {"\u00e9\u00e8\u00e9", "\u00e8", list("\u00e9", "\u00e9")}, {"\u8a9e\U0001f600\U0001f600", "\U0001f600", list("\u8a9e", "")}, {"\u8a9e\n\u00e9", "\n", list("\u8a9e", "\u00e9")},
		// sequences of lines
		{"", "", nil}, {"\n", "", nil}, {"\n\n\n", "", nil}, {"a", "", list("a")}, {"a\n", "", list("a")}, {"a\n\n", "", list("a")}, {"a\n\n\n\n", "", list("a")}, {"\na", "", list("a")}, {"\n\n\na", "", list("a")}, {"a\nb", "", list("a\nb")}, {"a\nb\n", "", list("a\nb")}, {"a\n\nb", "", list("a", "b")}, {"a\n\n\nb", "", list("a", "b")}, {"a\n\n\n\nb", "", list("a", "b")}, {"a\n\n\n\n\nb\n", "", list("a", "b")}, {"\n\na\nb\n\n\nc\n", "", list("a\nb", "c")}, {"a\nb\n\nc\nd\ne\n\n", "", list("a\nb", "c\nd\ne")}, {"a\n \nb", "", list("a\n \nb")}, {"a\n\t\n\nb", "", list("a\n\t", "b")}, {" \n\n ", "", list(" ", " ")}, {"a\n\r\nb", "", list("a\n\r\nb")}, {"a\r\n\r\nb", "", list("a\r\n\r\nb")}, {"\r\n\n\ra\r\n\nb\r", "", list("\r", "\ra\r", "b\r")}, {"\t\n\n a \n\n\fb", "", list("\t", " a ", "\fb")}, {"\u00e9\n\n\u8a9e\n\U0001f600", "", list("\u00e9", "\u8a9e\n\U0001f600")}, {"a\u2028\u2028b", "", list("a\u2028\u2028b")},
		// no rs
		{"a\nb", "\n\n", nil}, {"a\r\nb", "\r\n", nil}, {"aXYb", "XY", nil}, {"ab", "ab", nil}, {"a", "bc", nil}, {"", "bc", nil}, {"a\u00e9\u00e9b", "\u00e9\u00e9", nil}, {"ae\u0301b", "e\u0301", nil}, {"a[b", "[,;]", nil},
	} {
		checkLines(t, c.s, c.rs, c.want)
	}
}

func TestLinesOfAllShortFiles(t *testing.T) {
	for _, s := range allOf("", list("a", "\n", ";", "\u00e9"), 7) {
		for _, rs := range list("\n", ";", "\u00e9", "a", "") {
			checkLines(t, s, rs, secondLines(s, rs))
		}
	}
	for _, s := range allOf("", list("a", "\n"), 13) {
		checkLines(t, s, "", secondLines(s, ""))
		checkLines(t, s, "\n", secondLines(s, "\n"))
	}
}

func TestLinesOfTheLongestFiles(t *testing.T) {
	most := impl.MaxFile
	a := strings.Repeat("a", most)
	checkLines(t, a, "\n", list(a))
	checkLines(t, a, "", list(a))
	checkLines(t, a, "a", slices.Repeat(list(""), most))
	checkLines(t, strings.Repeat("\n", most), "\n", slices.Repeat(list(""), most))
	checkLines(t, strings.Repeat("\n", most), "", nil)
	checkLines(t, strings.Repeat("a\n", most/2), "\n", slices.Repeat(list("a"), most/2))
	checkLines(t, strings.Repeat("a\n", most/2), "", list(strings.TrimSuffix(strings.Repeat("a\n", most/2), "\n")))
	checkLines(t, strings.Repeat("b\n\n\n", most/4), "", slices.Repeat(list("b"), most/4))
	checkLines(t, strings.Repeat("\u00e9", most/2), "\u00e9", slices.Repeat(list(""), most/2))
	checkLines(t, a[:2000]+"\n"+a[:1998]+"\n", "\n", list(a[:2000], a[:1998]))
	for _, s := range notFiles() {
		for _, rs := range list("\n", "a", "", "\u00e9", "\n\n", "\xff") {
			checkLines(t, s, rs, nil)
		}
	}
	for _, rs := range notTexts() {
		for _, s := range list("", "a", "a\nb", "a\x80b", rs, "a\u00e9\ufffd") {
			checkLines(t, s, rs, nil)
		}
	}
	checkLines(t, "a\ufffdb", "\xff", nil)
	checkLines(t, "a\ufffdb", "\ufffd", list("a", "b"))
}

func TestSplittingStringsThatAreNotTexts(t *testing.T) {
	for _, s := range notTexts() {
		checkWords(t, s, nil)
		for _, sep := range list("a", ",", "\ufffd", "", s, s[:1], s[len(s)-1:]) {
			checkSplit(t, s, sep, nil)
		}
		for _, other := range list("", "a", "a,b", "\ufffd", strings.Repeat("a", impl.MaxText)) {
			checkSplit(t, other, s, nil)
		}
		for _, p := range list("", "a", ".*", "^", "[^a]", "\ufffd") {
			checkSplitRx(t, s, pattern(t, p), nil)
		}
	}
	// a separator that is not a text does not occur in the bytes of one
	checkSplit(t, "a\u00e9b", "\xc3", nil)
	checkSplit(t, "a\u00e9b", "\xa9b", nil)
	checkFields(t, "a\u00e9b", "\xc3", nil, impl.FsText)
}

func TestSplittingByPatternsThatAreNotSound(t *testing.T) {
	for _, x := range notSound() {
		for _, s := range list("", "a", "ab", "aaa", "\u00e9", strings.Repeat("a", impl.MaxText), "\xff") {
			if got := impl.SplitRx(s, x); len(got) > 0 {
				t.Fatalf("SplitRx of %.20q by a pattern that is not sound returns %.200q", s, got)
			}
		}
	}
}

func TestSplittingChangesNothing(t *testing.T) {
	for _, p := range list("", "a(b|c)*", "[^a-c[:digit:]]{2,3}", "(ab|())+$", "(^a{2,}|^b)*c", "a*|[x-z]{0}", "abc$|^cba") {
		x := pattern(t, p)
		y := roomyRx(x)
		for range 2 {
			for _, s := range list("", "a", "abcbc", "xx9y", "ababc", "cbaac") {
				checkSplitRx(t, s, y, secondSplitRx(s, x))
			}
		}
		checkUntouched(t, y, x)
	}
	unchanged := notSound()
	for i, x := range notSound() {
		impl.SplitRx("ab", x)
		if !sameRx(x, unchanged[i]) {
			t.Errorf("the pattern %d is changed", i)
		}
	}
	// what is behind a list is neither read nor written
	behind := list("a", "b", "c", "\xff", "x")
	checkJoined(t, behind[:2], ",", "a,b", true)
	checkJoined(t, behind[:3], "\xff", "", false)
	checkJoined(t, behind[:4], ",", "", false)
	checkJoined(t, behind[:0], ",", "", true)
	if !slices.Equal(behind, list("a", "b", "c", "\xff", "x")) {
		t.Errorf("Joined leaves %q", behind)
	}
}

// TestListsOfSplittingAreNew overwrites each result, which changes no later one.
func TestListsOfSplittingAreNew(t *testing.T) {
	x := pattern(t, ",|b")
	calls := []func() []string{
		func() []string { return impl.Blanks("a b c") },
		func() []string { return impl.SplitText("a,b,c", ",") },
		func() []string { return impl.SplitRx("a,b,c", x) },
		func() []string { fields, _ := impl.Fields("a b c", " "); return fields },
		func() []string { fields, _ := impl.Fields("abc", ""); return fields },
		func() []string { fields, _ := impl.Fields("a,b,c", ","); return fields },
		func() []string { fields, _ := impl.Fields("a,,b,c", ",+"); return fields },
		func() []string { return impl.Lines("a\nb\nc", "\n") },
		func() []string { return impl.Lines("a\n\nb\n\nc", "") },
	}
	for i, call := range calls {
		want := slices.Clone(call())
		got := call()
		for k := range got[:cap(got)] {
			got[:cap(got)][k] = "changed"
		}
		if !slices.Equal(call(), want) {
			t.Errorf("the results of call %d share memory", i)
		}
	}
}

// singleSeparators are separators of one code point.
func singleSeparators() []string {
	return list(",", " ", "\n", "\t", "|", ".", "*", "a", "\\", "\x01", "\u00e9", "\u8a9e", "\U0001f600", "\U0010ffff")
}

// longSeparators are separators of several code points that do not end as they begin, so that none of them
// occurs where the end of a text and the beginning of a separator meet.
func longSeparators() []string {
	return list(", ", "ab", "aab", "abb", "<>", "-->", "\r\n", "\u00e9a", "a\u00e9", "\u8a9e\u8a9e\u00e9", "\U0001f600,", "ab\u00e9c", "..*")
}

// overlappingSeparators end as they begin.
func overlappingSeparators() []string {
	return list("aa", "--", "aba", "aaa", "abab", "\u00e9\u00e9", "\u00e9a\u00e9", ", ,", "a\u8a9eba", "aabaa")
}

// randomList is a list of texts over few symbols and the code points of sep, which none of them contains.
func randomList(random *rand.Rand, sep string) []string {
	symbols := append(list("a", "b", "\u00e9", "\u8a9e", ",", " ", "\n", "\U0001f600"), strings.Split(sep, "")...)
	var texts []string
	for range 1 + random.Intn(12) {
		text := ""
		for range random.Intn(6) {
			if longer := text + symbols[random.Intn(len(symbols))]; !strings.Contains(longer, sep) {
				text = longer
			}
		}
		texts = append(texts, text)
	}
	return texts
}

// checkSplitAgain wants the texts back; an empty text is not split at all.
func checkSplitAgain(t *testing.T, texts []string, sep string) {
	t.Helper()
	s := joined(t, texts, sep)
	if s == "" {
		texts = nil
	}
	checkSplit(t, s, sep, texts)
}

func TestP9TextsJoinedByASeparatorAreSplitAgain(t *testing.T) {
	random := rand.New(rand.NewSource(83))
	for range 1500 {
		for _, sep := range append(singleSeparators(), longSeparators()...) {
			checkSplitAgain(t, randomList(random, sep), sep)
		}
	}
	// a single code point divides by Fields too, but for the space
	for _, sep := range singleSeparators() {
		if texts := randomList(random, sep); sep != " " && strings.Join(texts, sep) != "" {
			checkFields(t, joined(t, texts, sep), sep, texts, impl.FsOK)
		}
	}
}

func TestP9AllShortTextsJoinedAreSplitAgain(t *testing.T) {
	texts := allOf("", list("a", "b", "\u00e9"), 2)
	for _, sep := range list(",", "a", "\u00e9", "ab", "aab", "\u00e9b", "b\u00e9", "ba\u00e9") {
		for _, one := range texts {
			for _, two := range texts {
				for _, three := range texts {
					if !strings.Contains(one, sep) && !strings.Contains(two, sep) && !strings.Contains(three, sep) {
						checkSplitAgain(t, list(one, two), sep)
						checkSplitAgain(t, list(one, two, three), sep)
					}
				}
			}
		}
	}
}

// TestP9TextsJoinedByASeparatorThatOverlapsItself is about texts behind which the separator does not occur
// earlier than where it stands. Where it does, the occurrences from left to right are others.
func TestP9TextsJoinedByASeparatorThatOverlapsItself(t *testing.T) {
	random := rand.New(rand.NewSource(84))
	kept, left := 0, 0
	for range 1500 {
		for _, sep := range overlappingSeparators() {
			texts := randomList(random, sep)
			meets := slices.ContainsFunc(texts[:len(texts)-1], func(s string) bool { return strings.Index(s+sep, sep) < len(s) })
			if meets {
				checkSplit(t, joined(t, texts, sep), sep, secondSplit(strings.Join(texts, sep), sep))
				left++
			} else {
				checkSplitAgain(t, texts, sep)
				kept++
			}
		}
	}
	if kept < 1000 || left < 1000 {
		t.Errorf("%d lists are kept, and %d are not", kept, left)
	}
	checkSplit(t, joined(t, list("a", "b"), "aa"), "aa", list("", "ab"))
	checkSplit(t, joined(t, list("b", "a"), "aa"), "aa", list("b", "a"))
}

func TestP9TextsJoinedUpToMaxTextAreSplitAgain(t *testing.T) {
	for _, sep := range append(singleSeparators(), longSeparators()...) {
		for _, text := range list("", "x", "\u00eax", "\u8a9f") {
			var texts []string
			for impl.TextOk(strings.Join(append(texts, text), sep)) && len(texts) <= impl.MaxText {
				texts = append(texts, text)
			}
			checkSplitAgain(t, texts, sep)
		}
	}
}

func TestP9WordsJoinedByBlanksAreTheSameWords(t *testing.T) {
	random := rand.New(rand.NewSource(85))
	for range 20000 {
		var words []string
		line := blanksOf(random, random.Intn(3))
		for range random.Intn(10) {
			word := strings.Map(func(c rune) rune {
				if impl.IsBlank(int(c)) {
					return '_'
				}
				return c
			}, randomText(random, 1+random.Intn(5)))
			words = append(words, word)
			line += word + blanksOf(random, 1+random.Intn(3))
		}
		if random.Intn(2) == 0 {
			line = strings.TrimRight(line, " \t\n\r")
		}
		checkWords(t, line, words)
		checkFields(t, line, " ", words, impl.FsOK)
		for _, blank := range append(fourBlanks(), blanksOf(random, 1+random.Intn(4))) {
			checkWords(t, joined(t, impl.Blanks(line), blank), words)
		}
	}
}

// checkFile wants the lines of a file, each with its end, to be the file, or the file and one more end.
func checkFile(t *testing.T, s string, rs string) {
	t.Helper()
	var b strings.Builder
	for _, line := range impl.Lines(s, rs) {
		if strings.Contains(line, rs) {
			t.Fatalf("the line %.40q of %.40q contains its end %q", line, s, rs)
		}
		b.WriteString(line + rs)
	}
	want := s
	if s != "" && !strings.HasSuffix(s, rs) {
		want += rs
	}
	if b.String() != want {
		t.Fatalf("the lines of %.70q with their ends %q are %.70q", s, rs, b.String())
	}
}

func TestP9LinesWithTheirEndsAreTheFile(t *testing.T) {
	for _, s := range append(allOf("", list("a", "\n", "\u00e9", ";"), 6), sampleTexts()...) {
		for _, rs := range list("\n", "\u00e9", ";", "a", "\u8a9e") {
			checkFile(t, s, rs)
		}
	}
	random := rand.New(rand.NewSource(86))
	for range 2000 {
		s := ""
		for len(s) < random.Intn(impl.MaxFile-impl.MaxText) {
			s += randomText(random, random.Intn(50)) + list("", "\n", "\n\n", ";")[random.Intn(4)]
		}
		for _, rs := range list("\n", ";", ",", "\u00e9", shortest(randomPoint(random))) {
			checkFile(t, s, rs)
		}
	}
	for _, line := range list("", "a", "\u00e9", "ab") {
		for _, rs := range list("\n", ";", "\u8a9e") {
			unit := line + rs
			s := strings.Repeat(unit, impl.MaxFile/len(unit))
			checkFile(t, s, rs)
			checkFile(t, strings.TrimSuffix(s, rs), rs)
		}
	}
}
