package tests

import (
	"math"
	"math/big"
	"math/rand"
	"reflect"
	"regexp"
	"slices"
	"strconv"
	"strings"
	"testing"
	"unicode/utf8"

	"loop.example/g00417/impl"
)

func rxEmpty() impl.RxNode           { return impl.RxNode{Kind: impl.RxEmpty} }
func rxChar(c int) impl.RxNode       { return impl.RxNode{Kind: impl.RxChar, Lo: c} }
func rxAny() impl.RxNode             { return impl.RxNode{Kind: impl.RxAny} }
func rxBegin() impl.RxNode           { return impl.RxNode{Kind: impl.RxBegin} }
func rxEnd() impl.RxNode             { return impl.RxNode{Kind: impl.RxEnd} }
func rxSet(ends ...int) impl.RxNode  { return impl.RxNode{Kind: impl.RxSet, Set: ends} }
func rxNone(ends ...int) impl.RxNode { return impl.RxNode{Kind: impl.RxSet, Neg: true, Set: ends} }
func rxCat(kids ...int) impl.RxNode  { return impl.RxNode{Kind: impl.RxCat, Kids: kids} }
func rxAlt(kids ...int) impl.RxNode  { return impl.RxNode{Kind: impl.RxAlt, Kids: kids} }

func rxRep(lo int, hi int, kids ...int) impl.RxNode {
	return impl.RxNode{Kind: impl.RxRep, Lo: lo, Hi: hi, Kids: kids}
}

func rxOf(nodes ...impl.RxNode) impl.Rx { return impl.Rx{Nodes: nodes} }

func sameRx(x impl.Rx, y impl.Rx) bool {
	return slices.EqualFunc(x.Nodes, y.Nodes, func(n impl.RxNode, m impl.RxNode) bool {
		return n.Kind == m.Kind && n.Lo == m.Lo && n.Hi == m.Hi && n.Neg == m.Neg && slices.Equal(n.Set, m.Set) && slices.Equal(n.Kids, m.Kids)
	})
}

func pattern(t *testing.T, s string) impl.Rx {
	t.Helper()
	x, at, code := impl.RxRead(s)
	if code != impl.RxOK || at != 0 {
		t.Fatalf("RxRead(%q) returns %d, %d", s, at, code)
	}
	return x
}

// The rest of a pattern, as the second reader looks at it. [^…] of the library takes a newline too.
var (
	timesForm  = regexp.MustCompile(`^\{(0|[1-9][0-9]*)(?:(,)(0|[1-9][0-9]*)?)?\}`)
	classForm  = regexp.MustCompile(`^\[:(alpha|digit|alnum|upper|lower|space|blank|punct|xdigit):\]`)
	singleForm = regexp.MustCompile(`^(\\[ntr]|\\[^A-Za-z0-9]|[^\\])`)
	rangeForm  = regexp.MustCompile(`^(\\[ntr]|\\[^A-Za-z0-9]|[^\\])-(\\[ntr]|\\[^A-Za-z0-9]|[^\\\]])`)
)

func classes() map[string][]int {
	return map[string][]int{
		"alpha": {65, 90, 97, 122}, "digit": {48, 57}, "alnum": {48, 57, 65, 90, 97, 122}, "upper": {65, 90}, "lower": {97, 122},
		"space": {9, 13, 32, 32}, "blank": {9, 9, 32, 32}, "punct": {33, 47, 58, 64, 91, 96, 123, 126}, "xdigit": {48, 57, 65, 70, 97, 102},
	}
}

// denoted is the code point of a string that singleForm matches as a whole.
func denoted(s string) int {
	switch s {
	case `\n`:
		return 10
	case `\t`:
		return 9
	case `\r`:
		return 13
	}
	c, _ := utf8.DecodeLastRuneInString(s)
	return int(c)
}

// secondTimes returns Lo and Hi of the repetition at the beginning of s, and its size in bytes, or 0.
func secondTimes(s string) (int, int, int) {
	switch s[0] {
	case '*':
		return 0, -1, 1
	case '+':
		return 1, -1, 1
	case '?':
		return 0, 1, 1
	}
	m := timesForm.FindStringSubmatch(s)
	if m == nil || len(m[1]) > 2 || len(m[3]) > 2 {
		return 0, 0, 0
	}
	lo, _ := strconv.Atoi(m[1])
	hi := lo
	if m[2] != "" {
		hi = -1
	}
	if m[3] != "" {
		hi, _ = strconv.Atoi(m[3])
	}
	if lo > impl.MaxTimes || hi > impl.MaxTimes || hi != -1 && lo > hi {
		return 0, 0, 0
	}
	return lo, hi, len(m[0])
}

// secondBracket returns the bracket expression at the beginning of s and its size in bytes, or the
// offset of an error and its code.
func secondBracket(s string) (impl.RxNode, int, int) {
	node := impl.RxNode{Kind: impl.RxSet}
	rest := s[1:]
	if strings.HasPrefix(rest, "^") {
		node.Neg = true
		rest = rest[1:]
	}
	for rest != "" {
		if rest[0] == ']' && len(node.Set) > 0 {
			return node, len(s) - len(rest) + 1, impl.RxOK
		}
		var size int
		if strings.HasPrefix(rest, "[:") {
			m := classForm.FindStringSubmatch(rest)
			if m == nil {
				return impl.RxNode{}, 0, impl.RxBracket
			}
			node.Set = append(node.Set, classes()[m[1]]...)
			size = len(m[0])
		} else if m := rangeForm.FindStringSubmatch(rest); m != nil {
			if denoted(m[1]) > denoted(m[2]) {
				return impl.RxNode{}, 0, impl.RxBracket
			}
			node.Set = append(node.Set, denoted(m[1]), denoted(m[2]))
			size = len(m[0])
		} else if m := singleForm.FindString(rest); m != "" {
			node.Set = append(node.Set, denoted(m), denoted(m))
			size = len(m)
		} else {
			return impl.RxNode{}, len(s) - len(rest), impl.RxEscape
		}
		rest = rest[size:]
	}
	return impl.RxNode{}, 0, impl.RxBracket
}

// openGroup is a group that is not closed: its alternatives before the last |, and the pieces behind it.
type openGroup struct {
	alternatives []int
	pieces       []int
}

// secondReader reads a pattern by a stack of open groups; the first one is the pattern itself.
type secondReader struct {
	nodes  []impl.RxNode
	groups []openGroup
	atom   bool // the last piece is an atom without a repetition
}

func (r *secondReader) top() *openGroup { return &r.groups[len(r.groups)-1] }

func (r *secondReader) add(node impl.RxNode) int {
	r.nodes = append(r.nodes, node)
	return len(r.nodes) - 1
}

func (r *secondReader) push(index int) {
	r.top().pieces = append(r.top().pieces, index)
	r.atom = true
}

func (r *secondReader) endSequence() {
	group := r.top()
	index := 0
	switch len(group.pieces) {
	case 0:
		index = r.add(rxEmpty())
	case 1:
		index = group.pieces[0]
	default:
		index = r.add(rxCat(group.pieces...))
	}
	group.alternatives = append(group.alternatives, index)
	group.pieces = nil
	r.atom = false
}

func (r *secondReader) endGroup() int {
	r.endSequence()
	list := r.top().alternatives
	r.groups = r.groups[:len(r.groups)-1]
	if len(list) == 1 {
		return list[0]
	}
	return r.add(rxAlt(list...))
}

// step reads what s begins with, and returns its size in bytes, or the offset of an error and its code.
func (r *secondReader) step(s string) (int, int) {
	switch s[0] {
	case '*', '+', '?', '{':
		lo, hi, size := secondTimes(s)
		if size == 0 || !r.atom {
			return 0, impl.RxTimes
		}
		pieces := r.top().pieces
		pieces[len(pieces)-1] = r.add(rxRep(lo, hi, pieces[len(pieces)-1]))
		r.atom = false
		return size, impl.RxOK
	case '(':
		if len(r.groups) > impl.MaxRxDeep {
			return 0, impl.RxDeep
		}
		r.groups = append(r.groups, openGroup{})
		r.atom = false
	case ')':
		if len(r.groups) == 1 {
			return 0, impl.RxParen
		}
		r.push(r.endGroup())
	case '|':
		r.endSequence()
	case '.':
		r.push(r.add(rxAny()))
	case '^':
		r.push(r.add(rxBegin()))
	case '$':
		r.push(r.add(rxEnd()))
	case '[':
		node, at, code := secondBracket(s)
		if code == impl.RxOK {
			r.push(r.add(node))
		}
		return at, code
	default:
		single := singleForm.FindString(s)
		if single == "" {
			return 0, impl.RxEscape
		}
		r.push(r.add(rxChar(denoted(single))))
		return len(single), impl.RxOK
	}
	return 1, impl.RxOK
}

// secondRead is RxRead of a text without the limit MaxPattern, by other means.
func secondRead(s string) (impl.Rx, int, int) {
	r := secondReader{groups: []openGroup{{}}}
	for offset := 0; offset < len(s); {
		size, code := r.step(s[offset:])
		if code != impl.RxOK {
			return impl.Rx{}, utf8.RuneCountInString(s[:offset+size]), code
		}
		offset += size
	}
	if len(r.groups) > 1 {
		return impl.Rx{}, utf8.RuneCountInString(s), impl.RxParen
	}
	r.endGroup()
	x := impl.Rx{Nodes: r.nodes}
	if len(x.Nodes) > impl.MaxRxNodes || secondSize(x) > impl.MaxRxSize {
		return impl.Rx{}, utf8.RuneCountInString(s), impl.RxMany
	}
	return x, 0, impl.RxOK
}

// secondTree reports whether x is a tree with at least one node, by counting who has each node as a kid.
func secondTree(x impl.Rx) bool {
	for i := range x.Nodes {
		parents := 0
		for k, node := range x.Nodes {
			for _, kid := range node.Kids {
				if kid < 0 || kid >= k {
					return false
				}
				if kid == i {
					parents++
				}
			}
		}
		if (parents == 1) != (i < len(x.Nodes)-1) {
			return false
		}
	}
	return len(x.Nodes) > 0
}

func sizeOfNode(x impl.Rx, i int) *big.Int {
	node := x.Nodes[i]
	size := new(big.Int)
	for _, kid := range node.Kids {
		size.Add(size, sizeOfNode(x, kid))
	}
	if node.Kind == impl.RxRep {
		size.Mul(size, big.NewInt(int64(max(1, node.Lo, node.Hi))))
	}
	size.Add(size, big.NewInt(1))
	if limit := big.NewInt(100000); size.Cmp(limit) > 0 {
		return limit
	}
	return size
}

func secondSize(x impl.Rx) int {
	if !secondTree(x) {
		return 0
	}
	return int(sizeOfNode(x, len(x.Nodes)-1).Int64())
}

func isPoint(c int) bool { return c >= 1 && c <= 1114111 && (c < 55296 || c > 57343) }

// pointText is a code point as RxText writes it, or "" if it is none.
func pointText(c int, escaped string) string {
	if !isPoint(c) {
		return ""
	}
	switch c {
	case 10:
		return `\n`
	case 9:
		return `\t`
	case 13:
		return `\r`
	}
	if strings.Contains(escaped, shortest(c)) {
		return `\` + shortest(c)
	}
	return shortest(c)
}

func setText(node impl.RxNode) (string, bool) {
	parts := []string{"["}
	if node.Neg {
		parts = []string{"[^"}
	}
	for i := 0; i < len(node.Set); i += 2 {
		least, greatest := pointText(node.Set[i], `\][^-`), pointText(node.Set[i+1], `\][^-`)
		if least == "" || greatest == "" {
			return "", false
		}
		parts = append(parts, least)
		if least != greatest {
			parts = append(parts, "-", greatest)
		}
	}
	return strings.Join(parts, "") + "]", true
}

func timesText(lo int, hi int) (string, bool) {
	short := map[[2]int]string{{0, -1}: "*", {1, -1}: "+", {0, 1}: "?"}
	if text, ok := short[[2]int{lo, hi}]; ok {
		return text, true
	}
	switch {
	case hi == -1:
		return "{" + strconv.Itoa(lo) + ",}", lo >= 0
	case lo == hi:
		return "{" + strconv.Itoa(lo) + "}", lo >= 0
	}
	return "{" + strconv.Itoa(lo) + "," + strconv.Itoa(hi) + "}", lo >= 0 && hi >= 0
}

// textOfNode is the text of a node, and false if there is none.
func textOfNode(x impl.Rx, i int) (string, bool) {
	node := x.Nodes[i]
	enclosing := map[int][]int{
		impl.RxCat: {impl.RxCat, impl.RxAlt, impl.RxEmpty}, impl.RxAlt: {impl.RxAlt}, impl.RxRep: {impl.RxCat, impl.RxAlt, impl.RxRep, impl.RxEmpty},
	}
	var parts []string
	for _, kid := range node.Kids {
		if enclosing[node.Kind] == nil {
			break
		}
		part, ok := textOfNode(x, kid)
		if !ok {
			return "", false
		}
		if slices.Contains(enclosing[node.Kind], x.Nodes[kid].Kind) {
			part = "(" + part + ")"
		}
		parts = append(parts, part)
	}
	switch node.Kind {
	case impl.RxChar:
		text := pointText(node.Lo, `\^$.[|()*+?{`)
		return text, text != ""
	case impl.RxSet:
		return setText(node)
	case impl.RxAlt:
		return strings.Join(parts, "|"), true
	case impl.RxRep:
		times, ok := timesText(node.Lo, node.Hi)
		return strings.Join(parts, "") + times, ok
	}
	return strings.Join(parts, "") + []string{"", "", "", ".", "", "^", "$", ""}[node.Kind], true
}

// secondText is RxText by other means.
func secondText(x impl.Rx) string {
	if !secondTree(x) {
		return ""
	}
	for _, node := range x.Nodes {
		if node.Kind < impl.RxEmpty || node.Kind > impl.RxRep || node.Kind == impl.RxRep && len(node.Kids) != 1 || len(node.Set)%2 == 1 {
			return ""
		}
	}
	text, ok := textOfNode(x, len(x.Nodes)-1)
	if !ok || len(text) > impl.MaxText {
		return ""
	}
	return text
}

func secondSound(x impl.Rx) bool {
	y, _, code := secondRead(secondText(x))
	return code == impl.RxOK && sameRx(x, y)
}

// checkTree holds RxText, RxSize and RxSound of any Rx against their definitions.
func checkTree(t *testing.T, x impl.Rx) {
	t.Helper()
	if got, want := impl.RxText(x), secondText(x); got != want {
		t.Fatalf("RxText(%v) is %q, not %q", x, got, want)
	}
	if got, want := impl.RxSize(x), secondSize(x); got != want {
		t.Fatalf("RxSize(%v) is %d, not %d", x, got, want)
	}
	if got, want := impl.RxSound(x), secondSound(x); got != want {
		t.Fatalf("RxSound(%v) is %v", x, got)
	}
}

// checkRecovered holds P6 for a pattern that was read from s.
func checkRecovered(t *testing.T, s string, x impl.Rx) {
	t.Helper()
	if !impl.RxSound(x) {
		t.Fatalf("RxRead(%q) is not sound", s)
	}
	text := impl.RxText(x)
	if utf8.RuneCountInString(text) > impl.MaxPattern {
		return
	}
	y, at, code := impl.RxRead(text)
	if code != impl.RxOK || at != 0 || !sameRx(x, y) {
		t.Fatalf("RxRead(%q) returns %v, %d, %d, not what %q is: %v", text, y, at, code, s, x)
	}
}

// checkRead holds RxRead of a text of at most MaxPattern code points against the second reader, and P6.
func checkRead(t *testing.T, s string) {
	t.Helper()
	want, wantAt, wantCode := secondRead(s)
	got, at, code := impl.RxRead(s)
	if at != wantAt || code != wantCode || !sameRx(got, want) {
		t.Fatalf("RxRead(%q) returns %v, %d, %d, not %v, %d, %d", s, got, at, code, want, wantAt, wantCode)
	}
	if code == impl.RxOK {
		checkRecovered(t, s, got)
		checkTree(t, got)
	}
}

type rxCase struct {
	s     string
	nodes []impl.RxNode
}

func checkPatterns(t *testing.T, list []rxCase) {
	t.Helper()
	for _, c := range list {
		if got := pattern(t, c.s); !sameRx(got, impl.Rx{Nodes: c.nodes}) {
			t.Errorf("RxRead(%q) is %v, not %v", c.s, got.Nodes, c.nodes)
		}
		checkRead(t, c.s)
	}
}

// rxFault is a pattern with an error: its position and code.
type rxFault struct {
	s    string
	at   int
	code int
}

func checkFaults(t *testing.T, list []rxFault) {
	t.Helper()
	for _, c := range list {
		x, at, code := impl.RxRead(c.s)
		if at != c.at || code != c.code || len(x.Nodes) != 0 {
			t.Errorf("RxRead(%q) returns %v, %d, %d, not %d, %d", c.s, x, at, code, c.at, c.code)
		}
	}
}

func TestExamplesOfPatterns(t *testing.T) {
	x := pattern(t, "a(b|c)*")
	if !sameRx(x, rxOf(rxChar('a'), rxChar('b'), rxChar('c'), rxAlt(1, 2), rxRep(0, -1, 3), rxCat(0, 4))) {
		t.Error("RxRead of a(b|c)* is", x)
	}
	if text, size := impl.RxText(x), impl.RxSize(x); text != "a(b|c)*" || size != 6 || !impl.RxSound(x) {
		t.Error("text and size of a(b|c)* are", text, size)
	}
	if !impl.RxSound(rxOf(rxEmpty())) || impl.RxText(rxOf(rxEmpty())) != "" {
		t.Error("RxEmpty alone is not sound, or has a text")
	}
	checkFaults(t, []rxFault{{"a)", 1, impl.RxParen}, {"a**", 2, impl.RxTimes}, {"[z-a]", 0, impl.RxBracket}})
}

func TestPatternsWithoutPieces(t *testing.T) {
	empty := []impl.RxNode{rxEmpty()}
	two := []impl.RxNode{rxEmpty(), rxEmpty(), rxAlt(0, 1)}
	checkPatterns(t, []rxCase{
		{"", empty}, {"()", empty}, {"(())", empty}, {"((((((" + "))))))", empty},
		{"|", two}, {"(|)", two}, {"()|()", two}, {"(()|)", two},
		{"||", []impl.RxNode{rxEmpty(), rxEmpty(), rxEmpty(), rxAlt(0, 1, 2)}},
		{"a|", []impl.RxNode{rxChar('a'), rxEmpty(), rxAlt(0, 1)}},
		{"|a", []impl.RxNode{rxEmpty(), rxChar('a'), rxAlt(0, 1)}},
		{"a||b", []impl.RxNode{rxChar('a'), rxEmpty(), rxChar('b'), rxAlt(0, 1, 2)}},
		{"()a", []impl.RxNode{rxEmpty(), rxChar('a'), rxCat(0, 1)}},
		{"()()", []impl.RxNode{rxEmpty(), rxEmpty(), rxCat(0, 1)}},
		{"()*", []impl.RxNode{rxEmpty(), rxRep(0, -1, 0)}},
		{"(|)+", []impl.RxNode{rxEmpty(), rxEmpty(), rxAlt(0, 1), rxRep(1, -1, 2)}},
		{"(|a)|", []impl.RxNode{rxEmpty(), rxChar('a'), rxAlt(0, 1), rxEmpty(), rxAlt(2, 3)}},
	})
}

func TestAtomsSequencesAndAlternatives(t *testing.T) {
	a := []impl.RxNode{rxChar('a')}
	ab := []impl.RxNode{rxChar('a'), rxChar('b'), rxCat(0, 1)}
	checkPatterns(t, []rxCase{
		{"a", a}, {"(a)", a}, {"((((((a))))))", a}, {"ab", ab}, {"(ab)", ab}, {"(a)b", ab}, {"a(b)", ab}, {"(a)((b))", ab},
		{".", []impl.RxNode{rxAny()}}, {"^", []impl.RxNode{rxBegin()}}, {"$", []impl.RxNode{rxEnd()}}, {"a^$", []impl.RxNode{rxChar('a'), rxBegin(), rxEnd(), rxCat(0, 1, 2)}},
		{"]", []impl.RxNode{rxChar(']')}}, {"}", []impl.RxNode{rxChar('}')}}, {"-", []impl.RxNode{rxChar('-')}}, {",", []impl.RxNode{rxChar(',')}}, {"\n", []impl.RxNode{rxChar(10)}}, {"\t", []impl.RxNode{rxChar(9)}}, {"\r", []impl.RxNode{rxChar(13)}},
		{"\x01", []impl.RxNode{rxChar(1)}}, {"\u00e9", []impl.RxNode{rxChar(233)}}, {"\U0010ffff", []impl.RxNode{rxChar(1114111)}}, {"\ufffd", []impl.RxNode{rxChar(65533)}}, {"\u0300", []impl.RxNode{rxChar(768)}},
		{"(ab)c", []impl.RxNode{rxChar('a'), rxChar('b'), rxCat(0, 1), rxChar('c'), rxCat(2, 3)}},
		{"a(bc)", []impl.RxNode{rxChar('a'), rxChar('b'), rxChar('c'), rxCat(1, 2), rxCat(0, 3)}},
		{"a|b|c", []impl.RxNode{rxChar('a'), rxChar('b'), rxChar('c'), rxAlt(0, 1, 2)}},
		{"(a|b)|c", []impl.RxNode{rxChar('a'), rxChar('b'), rxAlt(0, 1), rxChar('c'), rxAlt(2, 3)}},
		{"a|(b|c)", []impl.RxNode{rxChar('a'), rxChar('b'), rxChar('c'), rxAlt(1, 2), rxAlt(0, 3)}},
		{"ab|cd", []impl.RxNode{rxChar('a'), rxChar('b'), rxCat(0, 1), rxChar('c'), rxChar('d'), rxCat(3, 4), rxAlt(2, 5)}},
		{"(ab)|cd", []impl.RxNode{rxChar('a'), rxChar('b'), rxCat(0, 1), rxChar('c'), rxChar('d'), rxCat(3, 4), rxAlt(2, 5)}},
		{"x(a|b)y", []impl.RxNode{rxChar('x'), rxChar('a'), rxChar('b'), rxAlt(1, 2), rxChar('y'), rxCat(0, 3, 4)}},
		{"x[ab].*|(^y)+$", []impl.RxNode{
			rxChar('x'), rxSet('a', 'a', 'b', 'b'), rxAny(), rxRep(0, -1, 2), rxCat(0, 1, 3),
			rxBegin(), rxChar('y'), rxCat(5, 6), rxRep(1, -1, 7), rxEnd(), rxCat(8, 9), rxAlt(4, 10),
		}},
	})
}

func TestRepetitions(t *testing.T) {
	times := func(lo int, hi int) []impl.RxNode { return []impl.RxNode{rxChar('a'), rxRep(lo, hi, 0)} }
	checkPatterns(t, []rxCase{
		{"a*", times(0, -1)}, {"a+", times(1, -1)}, {"a?", times(0, 1)},
		{"a{0}", times(0, 0)}, {"a{1}", times(1, 1)}, {"a{9}", times(9, 9)}, {"a{10}", times(10, 10)}, {"a{59}", times(59, 59)}, {"a{60}", times(60, 60)},
		{"a{0,}", times(0, -1)}, {"a{1,}", times(1, -1)}, {"a{2,}", times(2, -1)}, {"a{60,}", times(60, -1)},
		{"a{0,0}", times(0, 0)}, {"a{0,1}", times(0, 1)}, {"a{1,1}", times(1, 1)}, {"a{0,60}", times(0, 60)}, {"a{60,60}", times(60, 60)}, {"a{2,3}", times(2, 3)}, {"a{9,10}", times(9, 10)}, {"a{59,60}", times(59, 60)},
		{"(a)*", times(0, -1)}, {"(a*)", times(0, -1)}, {"(a){2}", times(2, 2)},
		{"(a*)*", []impl.RxNode{rxChar('a'), rxRep(0, -1, 0), rxRep(0, -1, 1)}},
		{"ab*", []impl.RxNode{rxChar('a'), rxChar('b'), rxRep(0, -1, 1), rxCat(0, 2)}},
		{"(ab)*", []impl.RxNode{rxChar('a'), rxChar('b'), rxCat(0, 1), rxRep(0, -1, 2)}},
		{"a*b+", []impl.RxNode{rxChar('a'), rxRep(0, -1, 0), rxChar('b'), rxRep(1, -1, 2), rxCat(1, 3)}},
		{"a{2}3}", []impl.RxNode{rxChar('a'), rxRep(2, 2, 0), rxChar('3'), rxChar('}'), rxCat(1, 2, 3)}},
		{".*", []impl.RxNode{rxAny(), rxRep(0, -1, 0)}}, {"^*", []impl.RxNode{rxBegin(), rxRep(0, -1, 0)}}, {"$?", []impl.RxNode{rxEnd(), rxRep(0, 1, 0)}}, {"[*]+", []impl.RxNode{rxSet('*', '*'), rxRep(1, -1, 0)}}, {`\**`, []impl.RxNode{rxChar('*'), rxRep(0, -1, 0)}},
		{"]{3}", []impl.RxNode{rxChar(']'), rxRep(3, 3, 0)}}, {"}{3,4}", []impl.RxNode{rxChar('}'), rxRep(3, 4, 0)}},
		{"a,}", []impl.RxNode{rxChar('a'), rxChar(','), rxChar('}'), rxCat(0, 1, 2)}},
	})
	for lo := 0; lo <= impl.MaxTimes; lo++ {
		for hi := lo; hi <= impl.MaxTimes; hi++ {
			checkPatterns(t, []rxCase{{"a{" + strconv.Itoa(lo) + "," + strconv.Itoa(hi) + "}", times(lo, hi)}})
		}
	}
}

func TestRepetitionsThatAreErrors(t *testing.T) {
	for _, braces := range []string{
		"{}", "{,}", "{,1}", "{", "{1", "{1,", "{1,2", "{12", "{a}", "{1a}", "{1,a}", "{1,2a}", "{a", "{ 1}", "{1 }", "{1, 2}", "{1,2 }", "{-1}", "{+1}", "{1,-1}", "{1;2}", "{1,2,3}", "{1,,2}", "{1.0}", "{{1}", "{1{", "{1]", "{1|", "{1)}", "{\\1}", "{1\\}",
		"{00}", "{01}", "{00,1}", "{01,}", "{1,02}", "{1,00}", "{0,00}", "{0,01}", "{060}", "{0000000000000000000000000000001}",
		"{61}", "{61,}", "{61,62}", "{1,61}", "{0,100}", "{99}", "{100}", "{600}", "{60,61}", "{256}", "{65536}",
		"{4294967296}", "{4294967297,4294967298}", "{18446744073709551616}", "{18446744073709551617}", "{1,18446744073709551617}", "{9223372036854775808}", "{" + nines(150) + "}", "{1," + nines(150) + "}", "{" + strings.Repeat("0", 150) + "}",
		"{1,0}", "{2,1}", "{3,1}", "{60,59}", "{10,9}", "{60,0}",
		"{\u0661}", "{1\u0660}", "{\uff11}", "{1,\uff12}", "{\u00b2}",
	} {
		checkFaults(t, []rxFault{
			{"a" + braces, 1, impl.RxTimes}, {"\u00e9\U0001f600" + braces, 2, impl.RxTimes}, {"(a|b" + braces + ")", 4, impl.RxTimes}, {"(ab)" + braces, 4, impl.RxTimes}, {"[ab]" + braces, 4, impl.RxTimes}, {`x\n` + braces, 3, impl.RxTimes},
			{braces, 0, impl.RxTimes}, {"a*" + braces, 2, impl.RxTimes}, {"a|" + braces, 2, impl.RxTimes},
			{"a" + braces + ")", 1, impl.RxTimes}, {"(a" + braces, 2, impl.RxTimes}, {"a" + braces + "\\", 1, impl.RxTimes},
		})
		checkRead(t, "a"+braces)
	}
	for _, times := range []string{"*", "+", "?", "{2}", "{0,}", "{1,2}", "{"} {
		checkFaults(t, []rxFault{
			{times, 0, impl.RxTimes}, {times + "a", 0, impl.RxTimes}, {"(" + times + ")", 1, impl.RxTimes}, {"(a|" + times + ")", 3, impl.RxTimes}, {"a|" + times, 2, impl.RxTimes}, {"|" + times, 1, impl.RxTimes}, {"\u8a9e|" + times, 2, impl.RxTimes},
		})
		for _, before := range []string{"*", "+", "?", "{2}", "{0,}", "{1,2}"} {
			checkFaults(t, []rxFault{
				{"a" + before + times, 1 + len(before), impl.RxTimes}, {"\u00e9" + before + times, 1 + len(before), impl.RxTimes}, {"(ab)" + before + times, 4 + len(before), impl.RxTimes},
			})
		}
	}
}

func TestGroupsThatAreErrors(t *testing.T) {
	checkFaults(t, []rxFault{
		{")", 0, impl.RxParen}, {"a)", 1, impl.RxParen}, {"())", 2, impl.RxParen}, {"a|)", 2, impl.RxParen}, {"(a))b", 3, impl.RxParen}, {"\u00e9\u8a9e\U0001f600)", 3, impl.RxParen}, {")(", 0, impl.RxParen}, {"a*)", 2, impl.RxParen}, {"|)", 1, impl.RxParen},
		{"(", 1, impl.RxParen}, {"(a", 2, impl.RxParen}, {"((a)", 4, impl.RxParen}, {"(a|", 3, impl.RxParen}, {"(\u00e9|\U0001f600", 4, impl.RxParen}, {"a(", 2, impl.RxParen}, {"((((((", 6, impl.RxParen}, {`(a\)`, 4, impl.RxParen}, {"(a[)]", 5, impl.RxParen}, {"(a*", 3, impl.RxParen},
	})
}

func TestDepthOfGroups(t *testing.T) {
	open, closed := strings.Repeat("(", impl.MaxRxDeep), strings.Repeat(")", impl.MaxRxDeep)
	a := []impl.RxNode{rxChar('a')}
	checkPatterns(t, []rxCase{
		{open + "a" + closed, a},
		{open + "a" + closed + "*", []impl.RxNode{rxChar('a'), rxRep(0, -1, 0)}},
		// what is closed does not count
		{open + closed + open + "a" + closed, []impl.RxNode{rxEmpty(), rxChar('a'), rxCat(0, 1)}},
		{open + "a" + closed[1:] + "(b))", []impl.RxNode{rxChar('a'), rxChar('b'), rxCat(0, 1)}},
		{open + "a" + closed + "|" + open + "b" + closed, []impl.RxNode{rxChar('a'), rxChar('b'), rxAlt(0, 1)}},
		{open + `\([(]` + closed, []impl.RxNode{rxChar('('), rxSet('(', '('), rxCat(0, 1)}},
	})
	deep := impl.MaxRxDeep
	checkFaults(t, []rxFault{
		{open + "(a)" + closed, deep, impl.RxDeep}, {open + "(", deep, impl.RxDeep}, {open + "((((", deep, impl.RxDeep}, {open + "a(", deep + 1, impl.RxDeep}, {open + "\u00e9|\u8a9e(", deep + 3, impl.RxDeep},
		{open + "a)(b(", deep + 4, impl.RxDeep}, {open + closed + open + "(", 3 * deep, impl.RxDeep}, {"\U0001f600" + open + "()", deep + 1, impl.RxDeep},
	})
}

func TestBracketExpressions(t *testing.T) {
	one := func(node impl.RxNode) []impl.RxNode { return []impl.RxNode{node} }
	checkPatterns(t, []rxCase{
		{"[a]", one(rxSet('a', 'a'))}, {"[abc]", one(rxSet('a', 'a', 'b', 'b', 'c', 'c'))}, {"[a-c]", one(rxSet('a', 'c'))}, {"[a-a]", one(rxSet('a', 'a'))}, {"[a-cx-z]", one(rxSet('a', 'c', 'x', 'z'))}, {"[aa]", one(rxSet('a', 'a', 'a', 'a'))},
		{"[\u00e9-\U0010ffff\x01]", one(rxSet(233, 1114111, 1, 1))}, {"[\n\t\r]", one(rxSet(10, 10, 9, 9, 13, 13))}, {"[.*+?{}()|$]", one(rxSet('.', '.', '*', '*', '+', '+', '?', '?', '{', '{', '}', '}', '(', '(', ')', ')', '|', '|', '$', '$'))},
		// ] as the first item
		{"[]]", one(rxSet(']', ']'))}, {"[^]]", one(rxNone(']', ']'))}, {"[]a]", one(rxSet(']', ']', 'a', 'a'))}, {"[]-a]", one(rxSet(']', 'a'))}, {"[^]-a]", one(rxNone(']', 'a'))}, {"[]-]", one(rxSet(']', ']', '-', '-'))}, {"[a]]", []impl.RxNode{rxSet('a', 'a'), rxChar(']'), rxCat(0, 1)}},
		{"[]]]", []impl.RxNode{rxSet(']', ']'), rxChar(']'), rxCat(0, 1)}}, {"[]-]]", []impl.RxNode{rxSet(']', ']', '-', '-'), rxChar(']'), rxCat(0, 1)}},
		// ^
		{"[^a]", one(rxNone('a', 'a'))}, {"[^^]", one(rxNone('^', '^'))}, {"[a^]", one(rxSet('a', 'a', '^', '^'))}, {"[^^-a]", one(rxNone('^', 'a'))}, {"[A-^]", one(rxSet('A', '^'))}, {`[\^]`, one(rxSet('^', '^'))}, {`[\^a]`, one(rxSet('^', '^', 'a', 'a'))},
		// - first, last, as a lower and as an upper end
		{"[-]", one(rxSet('-', '-'))}, {"[^-]", one(rxNone('-', '-'))}, {"[-a]", one(rxSet('-', '-', 'a', 'a'))}, {"[a-]", one(rxSet('a', 'a', '-', '-'))}, {"[^a-]", one(rxNone('a', 'a', '-', '-'))}, {"[-a-]", one(rxSet('-', '-', 'a', 'a', '-', '-'))}, {"[-a-c]", one(rxSet('-', '-', 'a', 'c'))},
		{"[--]", one(rxSet('-', '-', '-', '-'))}, {"[---]", one(rxSet('-', '-'))}, {"[----]", one(rxSet('-', '-', '-', '-'))}, {"[--a]", one(rxSet('-', 'a'))}, {"[+--]", one(rxSet('+', '-'))}, {"[+---]", one(rxSet('+', '-', '-', '-'))}, {"[+--a]", one(rxSet('+', '-', 'a', 'a'))}, {"[a-c-e]", one(rxSet('a', 'c', '-', '-', 'e', 'e'))}, {"[a-c--e]", one(rxSet('a', 'c', '-', 'e'))}, {"[a-c-]", one(rxSet('a', 'c', '-', '-'))},
		// escapes as either end
		{`[\n]`, one(rxSet(10, 10))}, {`[\t-\r]`, one(rxSet(9, 13))}, {`[\t-a]`, one(rxSet(9, 'a'))}, {"[\x01-\\n]", one(rxSet(1, 10))}, {`[\]]`, one(rxSet(']', ']'))}, {`[\[-\]]`, one(rxSet('[', ']'))}, {`[a\]]`, one(rxSet('a', 'a', ']', ']'))}, {`[A-\]]`, one(rxSet('A', ']'))}, {`[\\]`, one(rxSet('\\', '\\'))}, {`[\\-a]`, one(rxSet('\\', 'a'))}, {`[A-\\]`, one(rxSet('A', '\\'))}, {`[\--a]`, one(rxSet('-', 'a'))}, {`[+-\-]`, one(rxSet('+', '-'))}, {`[a\-c]`, one(rxSet('a', 'a', '-', '-', 'c', 'c'))}, {"[\\\u00e9-\\\u8a9e]", one(rxSet(233, 35486))}, {"[\\\n]", one(rxSet(10, 10))},
		// [ that does not begin a class
		{"[[]", one(rxSet('[', '['))}, {"[[a]", one(rxSet('[', '[', 'a', 'a'))}, {"[[[]", one(rxSet('[', '[', '[', '['))}, {"[[-a]", one(rxSet('[', 'a'))}, {"[[a:]", one(rxSet('[', '[', 'a', 'a', ':', ':'))}, {`[\[:]`, one(rxSet('[', '[', ':', ':'))}, {`[\[:alpha:]`, one(rxSet('[', '[', ':', ':', 'a', 'a', 'l', 'l', 'p', 'p', 'h', 'h', 'a', 'a', ':', ':'))}, {"[:]", one(rxSet(':', ':'))}, {"[^:]", one(rxNone(':', ':'))}, {"[::]", one(rxSet(':', ':', ':', ':'))}, {"[:-a]", one(rxSet(':', 'a'))},
		{"[:digit:]", one(rxSet(':', ':', 'd', 'd', 'i', 'i', 'g', 'g', 'i', 'i', 't', 't', ':', ':'))}, {"[[=a=]", one(rxSet('[', '[', '=', '=', 'a', 'a', '=', '='))}, {"[[.a.]", one(rxSet('[', '[', '.', '.', 'a', 'a', '.', '.'))},
		// [: behind the - of an item
		{"[A-[:]", one(rxSet('A', '[', ':', ':'))}, {"[[-[:]", one(rxSet('[', '[', ':', ':'))}, {"[A-[:x:]]", []impl.RxNode{rxSet('A', '[', ':', ':', 'x', 'x', ':', ':'), rxChar(']'), rxCat(0, 1)}}, {"[A-[[:digit:]]", one(rxSet('A', '[', '0', '9'))}, {"[--[:digit:]", one(rxSet('-', '[', ':', ':', 'd', 'd', 'i', 'i', 'g', 'g', 'i', 'i', 't', 't', ':', ':'))},
		{"[A-[:-a]", one(rxSet('A', '[', ':', 'a'))},
	})
}

func TestClassNames(t *testing.T) {
	for name, ends := range classes() {
		class := "[:" + name + ":]"
		with := func(before []int, behind ...int) []int { return slices.Concat(before, ends, behind) }
		checkPatterns(t, []rxCase{
			{"[" + class + "]", []impl.RxNode{rxSet(ends...)}}, {"[^" + class + "]", []impl.RxNode{rxNone(ends...)}}, {"[" + class + class + "]", []impl.RxNode{rxSet(with(ends)...)}},
			{"[a" + class + "z]", []impl.RxNode{rxSet(with([]int{'a', 'a'}, 'z', 'z')...)}}, {"[]" + class + "]", []impl.RxNode{rxSet(with([]int{']', ']'})...)}}, {"[a-c" + class + "-]", []impl.RxNode{rxSet(with([]int{'a', 'c'}, '-', '-')...)}},
			// a class is not the lower end of an item
			{"[" + class + "-z]", []impl.RxNode{rxSet(with(nil, '-', '-', 'z', 'z')...)}}, {"[" + class + "--z]", []impl.RxNode{rxSet(with(nil, '-', 'z')...)}}, {"[-" + class + "]", []impl.RxNode{rxSet(with([]int{'-', '-'})...)}},
			{"[" + class + "]*", []impl.RxNode{rxSet(ends...), rxRep(0, -1, 0)}}, {"[" + class + "]]", []impl.RxNode{rxSet(ends...), rxChar(']'), rxCat(0, 1)}},
		})
	}
	for _, class := range []string{
		"[::]", "[:x:]", "[:alph:]", "[:alphaa:]", "[:Alpha:]", "[:ALPHA:]", "[: alpha:]", "[:alpha :]", "[:^alpha:]", "[:word:]", "[:cntrl:]", "[:graph:]", "[:print:]", "[:ascii:]", "[:alpha:digit:]", "[:alpha::]", "[::alpha:]", "[:]:]", "[:al\\pha:]", "[:\u00e9:]", "[:alpha1:]", "[:digit\n:]", "[:\\:]",
		"[:", "[:a", "[:alpha", "[:alpha]", "[:alpha:a", "[:alpha:-]", "[:]", "[:alpha-z]", "[:alpha\\:]", "[:alpha: ]", "[:\\q",
	} {
		checkFaults(t, []rxFault{
			{"[" + class, 0, impl.RxBracket}, {"[" + class + "]", 0, impl.RxBracket}, {"[^" + class + "]", 0, impl.RxBracket}, {"[a" + class + "]", 0, impl.RxBracket}, {"[a-c" + class + "]", 0, impl.RxBracket}, {"[[:digit:]" + class + "]", 0, impl.RxBracket},
			{"x\u00e9[a" + class + "]", 2, impl.RxBracket}, {"(a|[" + class + "])", 3, impl.RxBracket}, {"[]" + class + "]", 0, impl.RxBracket}, {"[" + class + `\q]`, 0, impl.RxBracket}, {"[" + class + `]\q`, 0, impl.RxBracket}, {"[" + class + "])", 0, impl.RxBracket},
		})
	}
}

func TestBracketExpressionsThatAreErrors(t *testing.T) {
	for _, bracket := range []string{
		"[", "[^", "[]", "[^]", "[a", "[^a", "[]a", "[^]a", "[a-", "[-", "[a-z", "[--", "[[", "[[a", `[\]`, `[\n`, `[a-\]`, "[a-[:", "[[:", "[[:alpha", "[[:alpha:", "[[:alpha:]", "[^[:digit:]", "[[:alpha:]-", "[(a", "[a|b", "[a{2}", "[a*", "[\u00e9", "[:", "[:alpha:", "[\n",
	} {
		checkFaults(t, []rxFault{
			{bracket, 0, impl.RxBracket}, {"a" + bracket, 1, impl.RxBracket}, {"\u00e9\U0001f600" + bracket, 2, impl.RxBracket}, {"a|" + bracket, 2, impl.RxBracket}, {"[x]" + bracket, 3, impl.RxBracket}, {"a*" + bracket, 2, impl.RxBracket},
			// the bracket expression ends within the group
			{"(" + bracket, 1, impl.RxBracket}, {"(a|(b" + bracket, 5, impl.RxBracket},
		})
		checkRead(t, bracket)
	}
	for _, bracket := range []string{
		"[z-a]", "[^z-a]", "[b-a]", "[a-cz-y]", "[z-ya-c]", "[a--]", "[a-\\n]", "[\\r-\\t]", "[\\]-\\[]", "[]-A]", "[a-[:]", "[a-[:alpha:]]", "[\u8a9e-\u00e9]", "[\U0010ffff-\uffff]", "[a-Z]", "[9-0]", "[z-a", "[z-a-", "[[:digit:]z-a]", "[z-a[:digit:]]", "[a--z]", "[\x02-\x01]", "[z-\\\\]",
	} {
		checkFaults(t, []rxFault{
			{bracket, 0, impl.RxBracket}, {"\u00e9" + bracket, 1, impl.RxBracket}, {"((a" + bracket + "))", 3, impl.RxBracket}, {bracket + "*", 0, impl.RxBracket}, {bracket + `\q`, 0, impl.RxBracket}, {bracket + ")", 0, impl.RxBracket}, {"(" + bracket, 1, impl.RxBracket},
		})
		checkRead(t, bracket)
	}
}

func TestEscapes(t *testing.T) {
	for c := 1; c <= 1114111; c++ {
		if !isPoint(c) || c > 0x3000 && c%97 != 0 {
			continue
		}
		want := map[int]int{'n': 10, 't': 9, 'r': 13}[c]
		if letter := c >= 'a' && c <= 'z' || c >= 'A' && c <= 'Z' || c >= '0' && c <= '9'; letter && want == 0 {
			checkFaults(t, []rxFault{
				{`\` + shortest(c), 0, impl.RxEscape}, {`a\` + shortest(c) + "b", 1, impl.RxEscape}, {`[\` + shortest(c) + "]", 1, impl.RxEscape}, {`[\` + shortest(c) + "-z]", 1, impl.RxEscape}, {"[\x01-\\" + shortest(c) + "]", 3, impl.RxEscape},
			})
			continue
		}
		if want == 0 {
			want = c
		}
		checkPatterns(t, []rxCase{
			{`\` + shortest(c), []impl.RxNode{rxChar(want)}}, {`[\` + shortest(c) + "]", []impl.RxNode{rxSet(want, want)}}, {`[\` + shortest(c) + "-\U0010ffff]", []impl.RxNode{rxSet(want, 1114111)}}, {"[\x01-\\" + shortest(c) + "]", []impl.RxNode{rxSet(1, want)}},
			{`a\` + shortest(c) + "+", []impl.RxNode{rxChar('a'), rxChar(want), rxRep(1, -1, 1), rxCat(0, 2)}},
		})
	}
	checkFaults(t, []rxFault{
		{`\`, 0, impl.RxEscape}, {`a\`, 1, impl.RxEscape}, {`\\\`, 2, impl.RxEscape}, {`(\`, 1, impl.RxEscape}, {`(a|\`, 3, impl.RxEscape}, {`[\`, 1, impl.RxEscape}, {`[a\`, 2, impl.RxEscape}, {`[a-\`, 3, impl.RxEscape}, {`[^\`, 2, impl.RxEscape}, {"\u00e9\U0001f600\\", 2, impl.RxEscape}, {"[\u00e9-\\", 3, impl.RxEscape}, {`[[:alpha:]\`, 10, impl.RxEscape},
	})
}

func TestFirstOfTwoErrorsInPattern(t *testing.T) {
	checkFaults(t, []rxFault{
		{`a)\q`, 1, impl.RxParen}, {`\q)`, 0, impl.RxEscape}, {"a**)", 2, impl.RxTimes}, {"a)**", 1, impl.RxParen}, {"*)", 0, impl.RxTimes}, {")*", 0, impl.RxParen}, {"[z-a]*+", 0, impl.RxBracket}, {"*[z-a]", 0, impl.RxTimes}, {`*\q`, 0, impl.RxTimes}, {`\q*`, 0, impl.RxEscape},
		// what is met at the end comes behind everything before it
		{"(a**", 3, impl.RxTimes}, {`(a\q`, 2, impl.RxEscape}, {"(a{61}", 2, impl.RxTimes}, {"((((((()", 6, impl.RxDeep}, {"((((((*(", 6, impl.RxTimes}, {"((((((a(*", 7, impl.RxDeep}, {"(*", 1, impl.RxTimes}, {"([z-a]", 1, impl.RxBracket}, {`[a\q`, 2, impl.RxEscape}, {`[z-a\q`, 0, impl.RxBracket}, {`(\q[`, 1, impl.RxEscape}, {`([\q`, 2, impl.RxEscape},
		// in a bracket expression an item after the other
		{`[\qz-a]`, 1, impl.RxEscape}, {`[z-a\q]`, 0, impl.RxBracket}, {`[\q[:x:]]`, 1, impl.RxEscape}, {`[[:x:]\q]`, 0, impl.RxBracket}, {`[z-\q]`, 3, impl.RxEscape}, {`[\q-\w]`, 1, impl.RxEscape}, {`[z--\q]`, 0, impl.RxBracket}, {`[[:\q:]]`, 0, impl.RxBracket}, {`[a-[:x:]\q]`, 0, impl.RxBracket}, {`[A-[:x:]\q]`, 8, impl.RxEscape}, {`[]\q`, 2, impl.RxEscape},
		// what looks like an error in a bracket expression or behind a \ is none
		{`[)*(]\q`, 5, impl.RxEscape}, {`\)\*\()`, 6, impl.RxParen}, {`[\]\q]`, 3, impl.RxEscape},
		// a { is judged where it begins
		{`a{1,\q}`, 1, impl.RxTimes}, {"a{2}{", 4, impl.RxTimes}, {"a{(", 1, impl.RxTimes}, {"(a{1", 2, impl.RxTimes}, {"a{[", 1, impl.RxTimes},
		// positions count code points
		{"\u00e9\u8a9e\U0001f600*+", 4, impl.RxTimes}, {"[\u00e9-\u8a9e]\\q", 5, impl.RxEscape}, {"\\\u00e9)", 2, impl.RxParen}, {"\U0001f600[\U0001f600-\u00e9]", 1, impl.RxBracket}, {"(\U0001f600", 2, impl.RxParen}, {"\u00e9((((((\u00e9(", 8, impl.RxDeep},
	})
}

func TestPatternsThatAreTooLong(t *testing.T) {
	for _, one := range []string{"a", ".", "^", "\u00e9", "\u8a9e", "\U0001f600", "|", "]", "\n"} {
		s := strings.Repeat(one, impl.MaxPattern)
		checkRead(t, s)
		pattern(t, s)
		checkFaults(t, []rxFault{{s + one, 0, impl.RxLong}, {s + "a", 0, impl.RxLong}, {s + "\U0001f600", 0, impl.RxLong}, {s + "\\", 0, impl.RxLong}, {s + ")", 0, impl.RxLong}, {"*" + s, 0, impl.RxLong}, {"[z-a]" + s, 0, impl.RxLong}})
	}
	inside := strings.Repeat("b-\U0001f600", 66)
	checkPatterns(t, []rxCase{{"[" + inside + "]", []impl.RxNode{rxSet(slices.Repeat([]int{'b', 0x1f600}, 66)...)}}})
	a := strings.Repeat("a", impl.MaxPattern-2)
	checkFaults(t, []rxFault{
		{"a" + a + ")", impl.MaxPattern - 1, impl.RxParen}, {"(a" + a, impl.MaxPattern, impl.RxParen}, {"a" + a + "\\", impl.MaxPattern - 1, impl.RxEscape}, {"a" + a + "[", impl.MaxPattern - 1, impl.RxBracket}, {"[a" + a, 0, impl.RxBracket}, {a + "**", impl.MaxPattern - 1, impl.RxTimes}, {a + `\q`, impl.MaxPattern - 2, impl.RxEscape},
		{"(aa" + a, 0, impl.RxLong}, {a + "***", 0, impl.RxLong}, {"[aa" + a, 0, impl.RxLong}, {a + `a\q`, 0, impl.RxLong}, {strings.Repeat("a", impl.MaxText), 0, impl.RxLong}, {strings.Repeat("\u00e9", impl.MaxText/2), 0, impl.RxLong}, {strings.Repeat("(", impl.MaxText), 0, impl.RxLong},
	})
}

func TestPatternsThatAreNotTexts(t *testing.T) {
	for _, s := range notTexts() {
		checkFaults(t, []rxFault{{s, 0, impl.RxLong}, {"a" + s, 0, impl.RxLong}, {")" + s, 0, impl.RxLong}, {s + ")", 0, impl.RxLong}, {"[" + s + "]", 0, impl.RxLong}, {`\` + s, 0, impl.RxLong}, {"(" + s, 0, impl.RxLong}, {"a{" + s + "}", 0, impl.RxLong}, {"[[:" + s + ":]]", 0, impl.RxLong}})
	}
}

func TestSizeOfPatternsThatAreRead(t *testing.T) {
	a := func(n int) string { return strings.Repeat("a", n) }
	for _, c := range []struct {
		s    string
		size int
	}{
		{"", 1}, {"a", 1}, {"ab", 3}, {"a|b", 3}, {"a*", 2}, {"a{0}", 2}, {"a{60}", 61}, {"a{2,60}", 61}, {"a{60,}", 61}, {"a?", 2}, {"(ab){3}", 10}, {"(a{60}){16}", 977}, {"[[:punct:]]{9}", 10}, {"(a{2}){3}", 10},
		{"(" + a(36) + "){27}", 1000}, {"(" + a(36) + "){3,27}", 1000}, {"(" + a(36) + "){27,}", 1000}, {"((" + a(7) + "){41}){3}" + a(10), 999}, {"((" + a(7) + "){41}){3}" + a(11), 1000}, {"(a{60}){16}|(bc){7}", 1000},
	} {
		if size := impl.RxSize(pattern(t, c.s)); size != c.size {
			t.Errorf("the size of %q is %d, not %d", c.s, size, c.size)
		}
		checkRead(t, c.s)
	}
	for _, s := range []string{
		"(" + a(24) + "){40}", "(" + a(24) + "){40,}", "(" + a(24) + "){0,40}", "((" + a(7) + "){41}){3}" + a(12), "(a{60}){60}", "((a{60}){60}){60}", "(((((a{60}){60}){60}){60}){60}){60}", "(((((([\u00e9]{60}){60}){60}){60}){60}){60}){60}", "(a{60}){16}|(bc){7}|", "\u00e9\U0001f600(a{60}){60}", "(a{60}){60}|\u8a9e", "((a{60}){60}){0}", "((a{60}){60})?" + a(180),
	} {
		checkFaults(t, []rxFault{{s, utf8.RuneCountInString(s), impl.RxMany}})
		checkRead(t, s)
		if utf8.RuneCountInString(s) > impl.MaxPattern-10 {
			continue
		}
		// every other error comes first, even behind it
		size := utf8.RuneCountInString(s)
		checkFaults(t, []rxFault{{s + ")", size, impl.RxParen}, {s + "(", size + 1, impl.RxParen}, {s + "|*", size + 1, impl.RxTimes}, {s + "[z-a]", size, impl.RxBracket}, {s + "[a", size, impl.RxBracket}, {s + `\q`, size, impl.RxEscape}, {s + "a{61}", size + 1, impl.RxTimes}, {s + "(((((((", size + 6, impl.RxDeep}, {")" + s, 0, impl.RxParen}, {s + strings.Repeat("a", impl.MaxPattern), 0, impl.RxLong}})
	}
}

// notTrees are lists of nodes that are not trees.
func notTrees() []impl.Rx {
	return []impl.Rx{
		{}, {Nodes: []impl.RxNode{}},
		// a kid that is its own node, a later one, negative or beyond the end
		rxOf(rxCat(0)), rxOf(rxEmpty(), rxRep(0, -1, 1)), rxOf(rxChar('a'), rxCat(2), rxCat(0, 1)), rxOf(rxCat(1), rxChar('a')), rxOf(rxRep(0, 1, 1), rxRep(0, 1, 0)), rxOf(rxChar('a'), rxCat(-1)), rxOf(rxChar('a'), rxCat(0, -1)), rxOf(rxChar('a'), rxCat(math.MinInt, 0)), rxOf(rxChar('a'), rxCat(2)), rxOf(rxChar('a'), rxCat(0, 2)), rxOf(rxChar('a'), rxCat(0, math.MaxInt)),
		{Nodes: []impl.RxNode{{Kind: impl.RxChar, Lo: 'a', Kids: []int{0}}}}, {Nodes: []impl.RxNode{{Kind: impl.RxEmpty, Kids: []int{0}}}},
		// used twice, by one node or by two
		rxOf(rxChar('a'), rxCat(0, 0)), rxOf(rxChar('a'), rxAlt(0, 0)), rxOf(rxChar('a'), rxChar('b'), rxCat(0, 1, 0)), rxOf(rxChar('a'), rxRep(0, 1, 0), rxCat(0, 1)), rxOf(rxChar('a'), rxRep(0, 1, 0), rxRep(0, 1, 0), rxCat(1, 2)), rxOf(rxChar('a'), rxChar('b'), rxCat(0, 0)),
		// not used at all
		rxOf(rxChar('a'), rxChar('b')), rxOf(rxEmpty(), rxEmpty()), rxOf(rxChar('a'), rxChar('b'), rxRep(0, 1, 1)), rxOf(rxChar('a'), rxChar('b'), rxCat(0)), rxOf(rxChar('a'), rxRep(0, -1, 0), rxChar('b')),
	}
}

func TestSizeOfTrees(t *testing.T) {
	for _, c := range []struct {
		x    impl.Rx
		size int
	}{
		{rxOf(rxEmpty()), 1}, {rxOf(rxChar('a')), 1}, {rxOf(rxAny()), 1}, {rxOf(rxSet('a', 'z', '0', '9')), 1}, {rxOf(rxBegin()), 1}, {rxOf(rxEnd()), 1}, {rxOf(rxCat()), 1}, {rxOf(rxAlt()), 1}, {rxOf(rxRep(5, 9)), 1}, {rxOf(impl.RxNode{}), 1}, {rxOf(impl.RxNode{Kind: 99}), 1},
		{rxOf(rxChar('a'), rxChar('b'), rxCat(0, 1)), 3}, {rxOf(rxChar('a'), rxChar('b'), rxAlt(1, 0)), 3}, {rxOf(rxChar('a'), rxCat(0)), 2}, {rxOf(rxChar('a'), impl.RxNode{Kind: 77, Lo: 5, Hi: 5, Kids: []int{0}}), 2}, {rxOf(rxChar('a'), impl.RxNode{Kind: impl.RxChar, Lo: 500, Kids: []int{0}}), 2},
		{rxOf(rxChar('a'), rxRep(0, -1, 0)), 2}, {rxOf(rxChar('a'), rxRep(0, 0, 0)), 2}, {rxOf(rxChar('a'), rxRep(0, 1, 0)), 2}, {rxOf(rxChar('a'), rxRep(5, -1, 0)), 6}, {rxOf(rxChar('a'), rxRep(2, 7, 0)), 8}, {rxOf(rxChar('a'), rxRep(7, 2, 0)), 8}, {rxOf(rxChar('a'), rxRep(-5, -7, 0)), 2}, {rxOf(rxChar('a'), rxRep(math.MinInt, math.MinInt, 0)), 2}, {rxOf(rxChar('a'), rxRep(math.MinInt, 3, 0)), 4}, {rxOf(rxChar('a'), rxRep(3, math.MinInt, 0)), 4},
		{rxOf(rxChar('a'), rxChar('b'), rxRep(3, 3, 0, 1)), 7}, {rxOf(rxChar('a'), rxChar('b'), rxCat(0, 1), rxRep(3, 3, 2)), 10},
		// up to 100000 and above it
		{rxOf(rxChar('a'), rxRep(99998, 0, 0)), 99999}, {rxOf(rxChar('a'), rxRep(99999, 0, 0)), 100000}, {rxOf(rxChar('a'), rxRep(0, 100000, 0)), 100000}, {rxOf(rxChar('a'), rxRep(0, 100001, 0)), 100000}, {rxOf(rxChar('a'), rxRep(math.MaxInt, 0, 0)), 100000}, {rxOf(rxChar('a'), rxRep(0, math.MaxInt, 0)), 100000}, {rxOf(rxChar('a'), rxRep(1<<62, 1<<63-1, 0)), 100000}, {rxOf(rxChar('a'), rxRep(1<<32, 1<<32, 0)), 100000}, {rxOf(rxRep(0, math.MaxInt)), 1},
		{rxOf(rxChar('a'), rxChar('b'), rxRep(1<<63-1, 0, 0, 1)), 100000}, {rxOf(rxChar('a'), rxChar('b'), rxRep(1<<62, 0, 0, 1)), 100000}, {rxOf(rxChar('a'), rxChar('b'), rxChar('c'), rxCat(1, 2), rxCat(0, 3), rxRep(1<<62, 0, 4)), 100000},
		{rxOf(rxChar('a'), rxRep(99999, 0, 0), rxChar('b'), rxCat(1, 2)), 100000}, {rxOf(rxChar('a'), rxRep(99997, 0, 0), rxChar('b'), rxCat(1, 2)), 100000}, {rxOf(rxChar('a'), rxRep(99996, 0, 0), rxChar('b'), rxCat(1, 2)), 99999}, {rxOf(rxChar('a'), rxRep(333, 333, 0), rxRep(300, 300, 1)), 100000}, {rxOf(rxChar('a'), rxRep(332, 332, 0), rxRep(300, 300, 1)), 99901}, {rxOf(rxChar('a'), rxRep(math.MaxInt, math.MaxInt, 0), rxRep(math.MaxInt, math.MaxInt, 1), rxRep(2, 2, 2)), 100000},
	} {
		if size := impl.RxSize(c.x); size != c.size {
			t.Errorf("RxSize(%v) is %d, not %d", c.x, size, c.size)
		}
		checkTree(t, c.x)
	}
	for _, x := range notTrees() {
		if impl.RxSize(x) != 0 || impl.RxText(x) != "" || impl.RxSound(x) {
			t.Errorf("%v has the size %d and the text %q", x, impl.RxSize(x), impl.RxText(x))
		}
		checkTree(t, x)
	}
}

func TestTextOfEachKind(t *testing.T) {
	a, b := rxChar('a'), rxChar('b')
	for _, c := range []struct {
		x    impl.Rx
		text string
	}{
		{rxOf(rxEmpty()), ""}, {rxOf(a), "a"}, {rxOf(rxAny()), "."}, {rxOf(rxBegin()), "^"}, {rxOf(rxEnd()), "$"}, {rxOf(rxSet('a', 'c')), "[a-c]"}, {rxOf(rxNone('a', 'a', 'x', 'z')), "[^ax-z]"}, {rxOf(a, b, rxCat(0, 1)), "ab"}, {rxOf(a, b, rxAlt(0, 1)), "a|b"}, {rxOf(a, b, rxCat(1, 0)), "ba"},
		// each repetition
		{rxOf(a, rxRep(0, -1, 0)), "a*"}, {rxOf(a, rxRep(1, -1, 0)), "a+"}, {rxOf(a, rxRep(0, 1, 0)), "a?"}, {rxOf(a, rxRep(0, 0, 0)), "a{0}"}, {rxOf(a, rxRep(1, 1, 0)), "a{1}"}, {rxOf(a, rxRep(2, -1, 0)), "a{2,}"}, {rxOf(a, rxRep(2, 3, 0)), "a{2,3}"}, {rxOf(a, rxRep(1, 2, 0)), "a{1,2}"}, {rxOf(a, rxRep(0, 2, 0)), "a{0,2}"}, {rxOf(a, rxRep(60, 60, 0)), "a{60}"},
		// repetitions that cannot be read
		{rxOf(a, rxRep(3, 2, 0)), "a{3,2}"}, {rxOf(a, rxRep(1, 0, 0)), "a{1,0}"}, {rxOf(a, rxRep(61, 61, 0)), "a{61}"}, {rxOf(a, rxRep(61, -1, 0)), "a{61,}"}, {rxOf(a, rxRep(0, math.MaxInt, 0)), "a{0,9223372036854775807}"}, {rxOf(a, rxRep(math.MaxInt, math.MaxInt, 0)), "a{9223372036854775807}"},
		// lists of no kid or a single one, and sets without an item
		{rxOf(rxCat()), ""}, {rxOf(rxAlt()), ""}, {rxOf(a, rxCat(0)), "a"}, {rxOf(a, rxAlt(0)), "a"}, {rxOf(rxSet()), "[]"}, {rxOf(rxNone()), "[^]"}, {rxOf(rxCat(), rxCat(0)), "()"}, {rxOf(rxAlt(), a, rxCat(0, 1)), "()a"}, {rxOf(rxCat(), rxRep(0, -1, 0)), "()*"}, {rxOf(rxCat(), rxCat(), rxAlt(0, 1)), "|"},
		// ends in the wrong order
		{rxOf(rxSet('z', 'a')), "[z-a]"},
		// kids of nodes whose text has none
		{rxOf(a, impl.RxNode{Kind: impl.RxChar, Lo: 'b', Kids: []int{0}}), "b"}, {rxOf(a, impl.RxNode{Kind: impl.RxEmpty, Kids: []int{0}}), ""}, {rxOf(rxChar(0), impl.RxNode{Kind: impl.RxAny, Kids: []int{0}}), "."}, {rxOf(a, rxRep(-5, -5, 0), impl.RxNode{Kind: impl.RxSet, Set: []int{'a', 'b'}, Kids: []int{1}}), "[a-b]"},
		// numbers that the text does not require
		{rxOf(impl.RxNode{Kind: impl.RxAny, Lo: -7, Hi: -8, Neg: true, Set: []int{0, -1}}), "."}, {rxOf(impl.RxNode{Kind: impl.RxChar, Lo: 'a', Hi: -2}), "a"}, {rxOf(impl.RxNode{Kind: impl.RxSet, Lo: -1, Hi: -5, Set: []int{'a', 'b'}}), "[a-b]"}, {rxOf(a, b, impl.RxNode{Kind: impl.RxCat, Lo: -1, Hi: -9, Kids: []int{0, 1}}), "ab"},
	} {
		if text := impl.RxText(c.x); text != c.text {
			t.Errorf("RxText(%v) is %q, not %q", c.x, text, c.text)
		}
		checkTree(t, c.x)
	}
}

// TestTextOfEachKindInEachOther also has lists of the same kind in one another, which need parentheses.
func TestTextOfEachKindInEachOther(t *testing.T) {
	parts := []struct {
		text  string
		nodes []impl.RxNode
	}{
		{"", []impl.RxNode{rxEmpty()}}, {"a", []impl.RxNode{rxChar('a')}}, {".", []impl.RxNode{rxAny()}}, {"[a-c]", []impl.RxNode{rxSet('a', 'c')}}, {"^", []impl.RxNode{rxBegin()}}, {"$", []impl.RxNode{rxEnd()}},
		{"ab", []impl.RxNode{rxChar('a'), rxChar('b'), rxCat(0, 1)}}, {"a|b", []impl.RxNode{rxChar('a'), rxChar('b'), rxAlt(0, 1)}}, {"a*", []impl.RxNode{rxChar('a'), rxRep(0, -1, 0)}},
	}
	for _, part := range parts {
		kid := len(part.nodes) - 1
		kind := part.nodes[kid].Kind
		in := func(enclosed ...int) string {
			if slices.Contains(enclosed, kind) {
				return "(" + part.text + ")"
			}
			return part.text
		}
		cat, alt, rep := in(impl.RxCat, impl.RxAlt, impl.RxEmpty), in(impl.RxAlt), in(impl.RxCat, impl.RxAlt, impl.RxRep, impl.RxEmpty)
		for _, c := range []struct {
			text string
			more []impl.RxNode
		}{
			{cat + "x", []impl.RxNode{rxChar('x'), rxCat(kid, kid+1)}}, {"x" + cat, []impl.RxNode{rxChar('x'), rxCat(kid+1, kid)}}, {alt + "|x", []impl.RxNode{rxChar('x'), rxAlt(kid, kid+1)}}, {"x|" + alt, []impl.RxNode{rxChar('x'), rxAlt(kid+1, kid)}},
			{rep + "*", []impl.RxNode{rxRep(0, -1, kid)}}, {rep + "{2,5}", []impl.RxNode{rxRep(2, 5, kid)}}, {cat, []impl.RxNode{rxCat(kid)}}, {alt, []impl.RxNode{rxAlt(kid)}},
		} {
			x := impl.Rx{Nodes: slices.Concat(part.nodes, c.more)}
			if text := impl.RxText(x); text != c.text {
				t.Errorf("RxText(%v) is %q, not %q", x, text, c.text)
			}
			checkTree(t, x)
		}
	}
}

func TestTextOfCodePoints(t *testing.T) {
	// The least and the greatest one are the other ends of the ranges.
	for c := 2; c < 1114111; c++ {
		if !isPoint(c) || c > 0x3000 && c%13 != 0 {
			continue
		}
		want, inside := pointText(c, `\^$.[|()*+?{`), pointText(c, `\][^-`)
		for text, x := range map[string]impl.Rx{
			want: rxOf(rxChar(c)), "[" + inside + "]": rxOf(rxSet(c, c)), "[^" + inside + "-\U0010ffff]": rxOf(rxNone(c, 1114111)), "[\x01-" + inside + "x]": rxOf(rxSet(1, c, 'x', 'x')),
		} {
			if got := impl.RxText(x); got != text || !impl.RxSound(x) {
				t.Fatalf("RxText(%v) is %q, not %q, or it is not sound", x, got, text)
			}
			if y, _, code := impl.RxRead(text); code != impl.RxOK || !sameRx(x, y) {
				t.Fatalf("RxRead(%q) is %v", text, y)
			}
		}
	}
}

func TestTreesWithoutText(t *testing.T) {
	a := rxChar('a')
	bad := []impl.Rx{
		// a Kind that is not defined, also of a node whose text is not needed
		rxOf(impl.RxNode{}), rxOf(impl.RxNode{Kind: 10}), rxOf(impl.RxNode{Kind: -1, Lo: 'a'}), rxOf(impl.RxNode{Kind: math.MaxInt}), rxOf(impl.RxNode{Kind: math.MinInt}), rxOf(impl.RxNode{Kind: 256 + impl.RxChar, Lo: 'a'}), rxOf(impl.RxNode{Kind: 1<<32 + impl.RxAny}),
		rxOf(impl.RxNode{}, rxRep(0, -1, 0)), rxOf(a, impl.RxNode{Lo: 'b'}, rxCat(0, 1)), rxOf(a, impl.RxNode{Kind: 10, Kids: []int{0}}), rxOf(impl.RxNode{}, impl.RxNode{Kind: impl.RxChar, Lo: 'a', Kids: []int{0}}),
		// a RxRep with no kid or two
		rxOf(rxRep(0, -1)), rxOf(rxRep(2, 3)), rxOf(a, a, rxRep(0, -1, 0, 1)), rxOf(rxRep(0, 1), rxRep(0, 1, 0)), rxOf(a, rxRep(0, 1), rxCat(0, 1)), rxOf(a, a, rxRep(0, 1, 0, 1), impl.RxNode{Kind: impl.RxAny, Kids: []int{2}}),
		// a negative number of times
		rxOf(a, rxRep(-1, -1, 0)), rxOf(a, rxRep(-1, 0, 0)), rxOf(a, rxRep(-1, 1, 0)), rxOf(a, rxRep(-1, 5, 0)), rxOf(a, rxRep(-2, -2, 0)), rxOf(a, rxRep(0, -2, 0)), rxOf(a, rxRep(1, -2, 0)), rxOf(a, rxRep(5, -2, 0)), rxOf(a, rxRep(math.MinInt, 0, 0)), rxOf(a, rxRep(0, math.MinInt, 0)), rxOf(a, rxRep(-1, -1, 0), rxRep(0, -1, 1)),
		// a Set with an odd number of elements
		rxOf(rxSet('a')), rxOf(rxNone('a')), rxOf(rxSet('a', 'b', 'c')), rxOf(rxSet('a'), rxRep(0, 1, 0)), rxOf(a, rxSet('a'), rxCat(0, 1)), rxOf(impl.RxNode{Kind: impl.RxChar, Lo: 'a', Set: []int{'a'}}),
	}
	for _, c := range []int{0, -1, 55296, 56000, 57343, 1114112, math.MaxInt, math.MinInt, 1<<32 + 'a', -'a', 1 << 31} {
		bad = append(bad, rxOf(rxChar(c)), rxOf(a, rxChar(c), rxCat(0, 1)), rxOf(a, rxChar(c), rxAlt(0, 1)), rxOf(rxChar(c), rxRep(0, -1, 0)),
			rxOf(rxSet(c, c)), rxOf(rxSet('a', c)), rxOf(rxSet(c, 'a')), rxOf(rxNone('a', 'b', c, c)), rxOf(rxSet('a', 'b', 'c', c)), rxOf(rxSet(c, c), rxRep(2, 3, 0)))
	}
	for _, x := range bad {
		if text := impl.RxText(x); text != "" || impl.RxSound(x) {
			t.Errorf("RxText(%v) is %q", x, text)
		}
		checkTree(t, x)
	}
}

// catOf is a sequence of count nodes.
func catOf(node impl.RxNode, count int) impl.Rx {
	var x impl.Rx
	var kids []int
	for i := range count {
		x.Nodes = append(x.Nodes, node)
		kids = append(kids, i)
	}
	x.Nodes = append(x.Nodes, rxCat(kids...))
	return x
}

func TestTextsOfMaxTextBytes(t *testing.T) {
	items := func(count int, c int) []int { return slices.Repeat([]int{c, c}, count) }
	for _, c := range []struct {
		x    impl.Rx
		size int
	}{
		{catOf(rxChar('a'), 999), 999}, {catOf(rxChar('a'), 1000), 1000}, {catOf(rxChar('a'), 1001), 1001}, {catOf(rxChar('*'), 500), 1000}, {catOf(rxChar('*'), 501), 1002}, {catOf(rxChar(10), 500), 1000}, {catOf(rxChar(233), 500), 1000}, {catOf(rxChar(233), 501), 1002}, {catOf(rxChar(0x1f600), 250), 1000}, {catOf(rxChar(0x1f600), 251), 1004}, {catOf(rxEmpty(), 500), 1000}, {catOf(rxEmpty(), 501), 1002}, {catOf(rxSet('a', 'c'), 200), 1000}, {catOf(rxSet('a', 'c'), 201), 1005},
		{rxOf(rxSet(items(998, 'a')...)), 1000}, {rxOf(rxSet(items(999, 'a')...)), 1001}, {rxOf(rxNone(items(997, 'a')...)), 1000}, {rxOf(rxNone(items(998, 'a')...)), 1001}, {rxOf(rxSet(items(499, '-')...)), 1000}, {rxOf(rxSet(items(500, '-')...)), 1002}, {rxOf(rxSet(items(998, 'a')...), rxRep(0, -1, 0)), 1001}, {rxOf(rxSet(items(997, 'a')...), rxRep(0, -1, 0)), 1000}, {rxOf(rxSet(items(994, 'a')...), rxRep(60, 60, 0)), 1000}, {rxOf(rxSet(items(995, 'a')...), rxRep(60, 60, 0)), 1001}, {rxOf(rxSet(items(249, 0x1f600)...)), 998}, {rxOf(rxSet(items(250, 0x1f600)...)), 1002}, {rxOf(rxSet(items(100000, 'a')...)), 100002},
	} {
		want := secondText(c.x)
		if (want != "") != (c.size <= impl.MaxText) || want != "" && len(want) != c.size {
			t.Fatalf("the text of %v has %d bytes", c.x, len(want))
		}
		checkTree(t, c.x)
	}
	// the last part does not fit
	last := rxOf(rxSet(items(995, 'a')...), rxChar('x'), rxChar('y'), rxCat(1, 2), rxAlt(0, 3))
	if text := impl.RxText(last); len(text) != 1000 {
		t.Errorf("RxText of a set and xy has %d bytes", len(text))
	}
	last.Nodes[2] = rxChar('$')
	if text := impl.RxText(last); text != "" {
		t.Errorf("RxText of a set and xy has %d bytes", len(text))
	}
}

func TestSoundOfReadAndOtherTrees(t *testing.T) {
	for _, s := range []string{"", "a", "ab", "a|b", "a*", "(ab)*|c[^x-z]+$", "a(b|c)*", "()()|(|){2,3}", "^.$", "[[:alnum:]_]+@", `\n\\`, "((a|b)|c)(de)f"} {
		x := pattern(t, s)
		if !impl.RxSound(x) {
			t.Errorf("RxRead(%q) is not sound", s)
		}
	}
	a, b, c := rxChar('a'), rxChar('b'), rxChar('c')
	for _, x := range []impl.Rx{
		// other trees with the same text
		rxOf(b, a, rxCat(1, 0)), rxOf(b, a, rxAlt(1, 0)), rxOf(a, rxCat(0)), rxOf(a, rxAlt(0)), rxOf(rxCat()), rxOf(rxAlt()), rxOf(rxEmpty(), rxAlt(0)), rxOf(a, b, rxCat(0, 1), rxAlt(2)), rxOf(a, c, b, rxCat(0, 2, 1)), rxOf(a, b, c, rxRep(0, -1, 1), rxCat(0, 3, 2)), rxOf(a, b, rxRep(0, -1, 0), rxCat(2, 1)), rxOf(a, b, c, rxCat(1, 2), rxAlt(0, 3), rxCat(4)), rxOf(rxCat(), a, rxAlt(0, 1)), rxOf(a, rxCat(0), b, rxAlt(1, 2)),
		// texts that cannot be read, or are read otherwise
		rxOf(a, rxRep(3, 2, 0)), rxOf(a, rxRep(61, 61, 0)), rxOf(a, rxRep(0, 61, 0)), rxOf(a, rxRep(61, -1, 0)), rxOf(rxSet()), rxOf(rxNone()), rxOf(rxSet('z', 'a')), rxOf(rxSet(), rxChar(']'), rxCat(0, 1)), rxOf(rxNone(), rxChar(']'), rxCat(0, 1)),
		// RxMany
		rxOf(a, rxRep(60, 60, 0), rxRep(60, 60, 1)),
		// too deep
		rxOf(a, rxRep(0, 1, 0), rxRep(0, 1, 1), rxRep(0, 1, 2), rxRep(0, 1, 3), rxRep(0, 1, 4), rxRep(0, 1, 5), rxRep(0, 1, 6), rxRep(0, 1, 7)),
	} {
		if impl.RxSound(x) {
			t.Errorf("%v is sound", x)
		}
		checkTree(t, x)
	}
	seven := rxOf(a, rxRep(0, 1, 0), rxRep(0, 1, 1), rxRep(0, 1, 2), rxRep(0, 1, 3), rxRep(0, 1, 4), rxRep(0, 1, 5), rxRep(0, 1, 6))
	if !impl.RxSound(seven) || impl.RxText(seven) != "((((((a?)?)?)?)?)?)?" {
		t.Errorf("RxText of seven repetitions is %q", impl.RxText(seven))
	}
}

func TestSoundOfFieldsThatAreNotZero(t *testing.T) {
	for _, s := range []string{"", "a", ".", "^", "$", "[a-c]", "ab", "a|b", "a*", "a{2,3}", "(ab)+|[^x].^$()|"} {
		x := pattern(t, s)
		for i := range x.Nodes {
			for _, change := range []func(n *impl.RxNode){
				func(n *impl.RxNode) { n.Kind++ }, func(n *impl.RxNode) { n.Kind = 0 }, func(n *impl.RxNode) { n.Lo++ }, func(n *impl.RxNode) { n.Lo = -1 }, func(n *impl.RxNode) { n.Hi++ }, func(n *impl.RxNode) { n.Hi = -7 },
				func(n *impl.RxNode) { n.Neg = !n.Neg }, func(n *impl.RxNode) { n.Set = append(slices.Clone(n.Set), 'x') }, func(n *impl.RxNode) { n.Set = append(slices.Clone(n.Set), 'x', 'y') }, func(n *impl.RxNode) { n.Kids = append(slices.Clone(n.Kids), 0) }, func(n *impl.RxNode) { n.Kids = append(slices.Clone(n.Kids), -1) },
			} {
				y := impl.Rx{Nodes: slices.Clone(x.Nodes)}
				change(&y.Nodes[i])
				checkTree(t, y)
				// A set may be another one, a code point too, and a repetition may have other limits.
				kind := x.Nodes[i].Kind
				if kind != impl.RxSet && kind != impl.RxChar && kind != impl.RxRep && x.Nodes[i].Kind == y.Nodes[i].Kind && impl.RxSound(y) {
					t.Errorf("%v is sound", y)
				}
			}
		}
	}
	// An empty list is the same as none.
	x := impl.Rx{Nodes: []impl.RxNode{{Kind: impl.RxChar, Lo: 'a', Set: []int{}, Kids: []int{}}}}
	if !impl.RxSound(x) {
		t.Error("an empty list is not taken for none")
	}
}

func TestSoundWithManyNodesOrLongTexts(t *testing.T) {
	for _, c := range []struct {
		x     impl.Rx
		sound bool
	}{
		{catOf(rxChar('a'), impl.MaxRxNodes-1), true}, {catOf(rxChar('a'), impl.MaxRxNodes), false}, {catOf(rxChar('a'), impl.MaxRxNodes+1), false}, {catOf(rxChar(233), impl.MaxRxNodes-1), true}, {catOf(rxEmpty(), impl.MaxRxNodes-1), true}, {catOf(rxEmpty(), impl.MaxRxNodes), false},
		{catOf(rxChar('a'), impl.MaxPattern), true}, {catOf(rxChar('a'), impl.MaxPattern+1), true}, {catOf(rxChar('*'), 2*impl.MaxPattern-1), true}, {catOf(rxSet('a', 'c'), impl.MaxPattern), true}, {catOf(rxSet('a', 'c'), impl.MaxPattern+1), false},
		{rxOf(rxSet(slices.Repeat([]int{'a', 'c'}, 332)...)), true}, {rxOf(rxSet(slices.Repeat([]int{'a', 'c'}, 333)...)), false}, {catOf(rxChar('a'), 1000), false}, {catOf(rxChar('a'), 100000), false},
	} {
		if got := impl.RxSound(c.x); got != c.sound {
			t.Errorf("RxSound of %d nodes with the text %.20q is %v", len(c.x.Nodes), impl.RxText(c.x), got)
		}
	}
	// sizes around MaxRxSize, in texts that are too long for RxRead: 248 code points four times, and others behind them
	for _, c := range []struct {
		others int
		size   int
	}{{1, 999}, {2, 1000}, {3, 1001}} {
		x := catOf(rxChar('a'), 248)
		x.Nodes = append(x.Nodes, rxRep(4, 4, 248))
		kids := []int{249}
		for range c.others {
			kids = append(kids, len(x.Nodes))
			x.Nodes = append(x.Nodes, rxAny())
		}
		x.Nodes = append(x.Nodes, rxCat(kids...))
		if size, sound := impl.RxSize(x), impl.RxSound(x); size != c.size || sound != (c.size <= impl.MaxRxSize) {
			t.Errorf("RxSound with the size %d is %v", size, sound)
		}
	}
}

// allOf returns every text of at most count of the symbols, behind a beginning.
func allOf(begin string, symbols []string, count int) []string {
	list := []string{begin}
	longest := list
	for range count {
		var longer []string
		for _, s := range longest {
			for _, symbol := range symbols {
				longer = append(longer, s+symbol)
			}
		}
		list = append(list, longer...)
		longest = longer
	}
	return list
}

// TestAllShortPatterns holds RxRead, P6 and the text and size of what is read against the second reader.
func TestAllShortPatterns(t *testing.T) {
	for _, list := range [][]string{
		allOf("", []string{"a", "\u00e9", "(", ")", "|", "*", "{2}", `\`, "[", "]", "^", ".", "$"}, 4),
		allOf("", []string{"a", "(", ")", "|", "*"}, 7),
		allOf("((((((", []string{"a", "(", ")", "|", "?"}, 5),
		allOf("[", []string{"b", "x", "-", "]", "[", ":", "^", `\`}, 5),
		allOf("\u00e9[", []string{"b", "]", "-", "[:", ":]", "digit", `\n`, `\]`, `\q`}, 4),
		allOf("a{", []string{"0", "1", "6", ",", "}", "a", " ", "-"}, 5),
	} {
		for _, s := range list {
			checkRead(t, s)
		}
	}
}

func TestRandomPatterns(t *testing.T) {
	random := rand.New(rand.NewSource(9))
	symbols := []string{
		"a", "b", "z", "\u00e9", "\U0001f600", "\n", "0", "-", ",", "}", "]", ":", ".", "^", "$", "(", ")", "(", ")", "|", "|", "*", "+", "?", "{2}", "{0,}", "{3,5}", "{1,0}", "{61}", "{", "[", "[^", "[a-c]", "[z-a]", "[[:alpha:]", "[:punct:]", "[]x]", "[^]-~]", `\n`, `\t`, `\r`, `\\`, `\.`, `\*`, `\]`, `\q`, `\`,
	}
	for range 100000 {
		var b strings.Builder
		for range random.Intn(25) {
			b.WriteString(symbols[random.Intn(len(symbols))])
		}
		checkRead(t, b.String())
	}
}

// randomPoint is a code point, often one that a pattern has a use for.
func randomPoint(random *rand.Rand) int {
	symbols := []rune("\\^$.[]|()*+?{}-:,abcxyz019 \t\n\r\u00e9\u8a9e\U0001f600\U0010ffff\x01")
	return int(symbols[random.Intn(len(symbols))])
}

// writtenPoint is a code point that denotes itself as an atom or as an end of an item, escaped if need be.
func writtenPoint(c int) string {
	letter := c >= 'a' && c <= 'z' || c >= 'A' && c <= 'Z' || c >= '0' && c <= '9'
	if letter {
		return shortest(c)
	}
	return `\` + shortest(c)
}

func randomBracket(random *rand.Rand) string {
	out := []string{"[", "[^"}[random.Intn(2)]
	for range 1 + random.Intn(4) {
		c, d := randomPoint(random), randomPoint(random)
		switch random.Intn(4) {
		case 0:
			names := []string{"alpha", "digit", "alnum", "upper", "lower", "space", "blank", "punct", "xdigit"}
			out += "[:" + names[random.Intn(len(names))] + ":]"
		case 1:
			out += writtenPoint(min(c, d)) + "-" + writtenPoint(max(c, d))
		default:
			out += writtenPoint(c)
		}
	}
	return out + "]"
}

// randomPattern is a pattern without an error, apart from its length, depth and size: alternatives
// with groups down to a depth.
func randomPattern(random *rand.Rand, deep int) string {
	var alternatives []string
	for range 1 + random.Intn(3)*random.Intn(2) {
		sequence := ""
		for range random.Intn(4) {
			switch {
			case deep > 0 && random.Intn(2) == 0:
				sequence += "(" + randomPattern(random, deep-1) + ")"
			case random.Intn(3) == 0:
				sequence += []string{".", "^", "$"}[random.Intn(3)]
			case random.Intn(3) == 0:
				sequence += randomBracket(random)
			default:
				sequence += writtenPoint(randomPoint(random))
			}
			if random.Intn(3) == 0 {
				sequence += []string{"*", "+", "?", "{0}", "{1}", "{2}", "{0,}", "{1,}", "{2,}", "{0,1}", "{1,1}", "{2,3}", "{0,2}"}[random.Intn(13)]
			}
		}
		alternatives = append(alternatives, sequence)
	}
	return strings.Join(alternatives, "|")
}

func TestP6RandomPatternIsSoundAndRecovered(t *testing.T) {
	random := rand.New(rand.NewSource(10))
	read := 0
	for range 60000 {
		s := randomPattern(random, random.Intn(impl.MaxRxDeep+1))
		x, _, code := impl.RxRead(s)
		if code != impl.RxOK && code != impl.RxLong && code != impl.RxMany {
			t.Fatalf("RxRead(%q) returns the code %d", s, code)
		}
		if code == impl.RxOK {
			read++
			checkRecovered(t, s, x)
			checkRead(t, s)
		}
	}
	if read < 30000 {
		t.Errorf("only %d patterns are read", read)
	}
}

func TestP6EachKindInEachOtherIsSoundAndRecovered(t *testing.T) {
	leaves := []string{"", "a", `\*`, `\n`, "\u00e9", ".", "^", "$", "[a-c]", "[^]x-]", "[[:punct:]]", `[\t-\]\--a]`}
	outer := []string{"(X)", "(X)b", "b(X)", "b(X)(X)", "(X)|b", "b|(X)", "(X)|", "|(X)", "(X)|(X)"}
	for _, times := range []string{"*", "+", "?", "{0}", "{1}", "{2}", "{0,}", "{1,}", "{2,}", "{0,1}", "{0,2}", "{1,2}", "{2,2}"} {
		outer = append(outer, "(X)"+times)
	}
	list := leaves
	for range 3 {
		var longer []string
		for _, inner := range list {
			for _, form := range outer {
				longer = append(longer, strings.ReplaceAll(form, "X", inner))
			}
		}
		for _, s := range longer {
			checkRecovered(t, s, pattern(t, s))
		}
		list = longer
	}
}

func TestP6LongestPatternsAreSound(t *testing.T) {
	// Each of these has a text that is as long as it gets: with escapes, or with code points of four bytes.
	for _, s := range []string{
		"[" + strings.Repeat("^", impl.MaxPattern-2) + "]", "[" + strings.Repeat("-", impl.MaxPattern-2) + "]", "[[" + strings.Repeat("[", impl.MaxPattern-3) + "]", strings.Repeat("\n", impl.MaxPattern), "[" + strings.Repeat("\t", impl.MaxPattern-2) + "]", strings.Repeat("\U0001f600", impl.MaxPattern), "[" + strings.Repeat("\U0001f600", impl.MaxPattern-2) + "]",
		"[" + strings.Repeat("[:punct:]", 22) + "]", "[^" + strings.Repeat("[:alnum:]", 21) + "]", "[" + strings.Repeat("[:space:]", 22) + "]", strings.Repeat("()", impl.MaxPattern/2), strings.Repeat("|", impl.MaxPattern), strings.Repeat("a*", impl.MaxPattern/2), strings.Repeat("aa|", 66) + "aa", strings.Repeat(`\.`, impl.MaxPattern/2), strings.Repeat("(|)", 66) + "aa", strings.Repeat("(aa|aa)", 28),
	} {
		x := pattern(t, s)
		checkRecovered(t, s, x)
		checkRead(t, s)
		if len(x.Nodes) > utf8.RuneCountInString(s)+2 {
			t.Errorf("%q has %d nodes", s, len(x.Nodes))
		}
	}
}

// randomTree is a tree of nodes of any kind, with any number of kids and numbers that are often not valid.
func randomTree(random *rand.Rand) impl.Rx {
	numbers := []int{-2, -1, -1, 0, 0, 1, 1, 2, 3, 59, 60, 61, 'a', math.MaxInt, math.MinInt, 55296, 1114112}
	x := impl.Rx{}
	var free []int
	for size := 1 + random.Intn(8); len(x.Nodes) < size || len(free) > 1; {
		node := impl.RxNode{Kind: []int{1, 2, 2, 3, 4, 5, 6, 7, 7, 8, 8, 9, 9}[random.Intn(13)]}
		if node.Kind == impl.RxChar {
			node.Lo = randomPoint(random)
		}
		if node.Kind == impl.RxSet {
			for range 1 + random.Intn(3) {
				c, d := randomPoint(random), randomPoint(random)
				node.Set = append(node.Set, min(c, d), max(c, d))
			}
		}
		if node.Kind == impl.RxRep {
			node.Lo = random.Intn(3)
			node.Hi = []int{-1, node.Lo, node.Lo + random.Intn(3)}[random.Intn(3)]
		}
		take := 0
		switch node.Kind {
		case impl.RxRep:
			take = 1
		case impl.RxCat, impl.RxAlt:
			take = 2 + random.Intn(3)
		}
		take = min(take, len(free))
		node.Kids = slices.Clone(free[len(free)-take:])
		free = free[:len(free)-take]
		if random.Intn(30) == 0 {
			node.Lo = numbers[random.Intn(len(numbers))]
		}
		if random.Intn(30) == 0 {
			node.Hi = numbers[random.Intn(len(numbers))]
		}
		if random.Intn(60) == 0 {
			node.Set = append(node.Set, numbers[random.Intn(len(numbers))])
		}
		if random.Intn(60) == 0 {
			node.Kids = append(node.Kids, random.Intn(10)-1)
		}
		if random.Intn(60) == 0 {
			node.Kind = random.Intn(12) - 1
		}
		free = append(free, len(x.Nodes))
		x.Nodes = append(x.Nodes, node)
	}
	return x
}

func TestRandomTrees(t *testing.T) {
	random := rand.New(rand.NewSource(11))
	texts, sound := 0, 0
	for range 200000 {
		x := randomTree(random)
		checkTree(t, x)
		if impl.RxText(x) != "" {
			texts++
		}
		if impl.RxSound(x) {
			sound++
		}
	}
	if texts < 50000 || sound < 10000 {
		t.Errorf("%d of the trees have a text, and %d are sound", texts, sound)
	}
}

func TestTreesOfAnyDepth(t *testing.T) {
	for _, kinds := range [][]int{{impl.RxRep}, {impl.RxCat}, {impl.RxAlt}, {impl.RxCat, impl.RxAlt}, {impl.RxRep, impl.RxCat, impl.RxAlt}, {impl.RxAlt, impl.RxCat, impl.RxRep}} {
		x := rxOf(rxChar('a'))
		for i := range 500000 {
			x.Nodes = append(x.Nodes, impl.RxNode{Kind: kinds[i%len(kinds)], Lo: 0, Hi: -1, Kids: []int{i}})
		}
		if text, size := impl.RxText(x), impl.RxSize(x); text != "" || size != 100000 || impl.RxSound(x) {
			t.Errorf("a deep tree has the text %.20q and the size %d", text, size)
		}
	}
	// Nothing of these kids is in the text.
	x := rxOf(rxChar(0))
	for i := range 200000 {
		x.Nodes = append(x.Nodes, rxRep(0, -1, i))
	}
	x.Nodes = append(x.Nodes, impl.RxNode{Kind: impl.RxAny, Kids: []int{len(x.Nodes) - 1}})
	if text := impl.RxText(x); text != "." || impl.RxSound(x) {
		t.Errorf("RxText of . with a deep kid is %q", text)
	}
}

// roomy returns list with spare room, in which there are numbers that must be neither read nor written.
func roomy(list []int) []int {
	return append(slices.Clone(list), -77, 3, 'x', 1<<40)[: len(list) : len(list)+4]
}

// spareNode is what is behind the nodes of a roomyRx.
func spareNode() impl.RxNode {
	return impl.RxNode{Kind: 99, Lo: -5, Set: []int{1}, Kids: []int{-3}}
}

// roomyRx returns x with spare room behind each of its lists.
func roomyRx(x impl.Rx) impl.Rx {
	var y impl.Rx
	for _, node := range x.Nodes {
		node.Set, node.Kids = roomy(node.Set), roomy(node.Kids)
		y.Nodes = append(y.Nodes, node)
	}
	y.Nodes = append(y.Nodes, spareNode())[:len(x.Nodes)]
	return y
}

// checkUntouched holds that y is what roomyRx made of x, also behind its lists.
func checkUntouched(t *testing.T, y impl.Rx, x impl.Rx) {
	t.Helper()
	for i, node := range y.Nodes {
		for _, list := range [][]int{node.Set, node.Kids} {
			if !slices.Equal(list[len(list):len(list)+4], []int{-77, 3, 'x', 1 << 40}) {
				t.Errorf("what is behind the lists of node %d of %q is changed", i, impl.RxText(x))
			}
		}
	}
	if !sameRx(y, x) || !reflect.DeepEqual(y.Nodes[:len(y.Nodes)+1][len(y.Nodes)], spareNode()) {
		t.Errorf("the pattern %q is changed", impl.RxText(x))
	}
}

func TestPatternsAreNotChanged(t *testing.T) {
	for _, s := range []string{"", "a(b|c)*", "[^a-c[:digit:]]{2,3}", "(ab|())+$", strings.Repeat("a", impl.MaxPattern)} {
		x := pattern(t, s)
		y := roomyRx(x)
		for range 2 {
			if impl.RxText(y) != impl.RxText(x) || impl.RxSize(y) != impl.RxSize(x) || !impl.RxSound(y) {
				t.Errorf("what is behind the lists of %q is read", s)
			}
		}
		checkUntouched(t, y, x)
	}
	broken := notTrees()
	for i, x := range notTrees() {
		impl.RxText(x)
		impl.RxSize(x)
		impl.RxSound(x)
		if !sameRx(x, broken[i]) {
			t.Errorf("%v is changed", x)
		}
	}
}

// spoil overwrites a list and the spare room behind it.
func spoil(list []int) {
	list = list[:cap(list)]
	for i := range list {
		list[i] = -99
	}
}

func TestListsOfPatternShareNothing(t *testing.T) {
	for _, s := range []string{"a(b|c)*d|[x-z0]{2}", "[[:punct:]][[:punct:]]|[[:alpha:]a]", "(((a)b)c|d)e|f|[^x]", strings.Repeat("(ab|c)*", 25)} {
		want := pattern(t, s)
		for i, node := range want.Nodes {
			x := pattern(t, s)
			spoil(x.Nodes[i].Set)
			x.Nodes[i].Set = node.Set
			sets := sameRx(x, want)
			spoil(x.Nodes[i].Kids)
			x.Nodes[i].Kids = node.Kids
			if !sets || !sameRx(x, want) || !sameRx(pattern(t, s), want) {
				t.Fatalf("a list of node %d of %q is shared", i, s)
			}
		}
	}
}
