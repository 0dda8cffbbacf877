package tests

import (
	"math"
	"math/rand"
	"reflect"
	"slices"
	"strings"
	"testing"
	"time"
	"unicode/utf8"

	"loop.example/g00417/impl"
)

func noChar(c int) impl.NfaOp         { return impl.NfaOp{Op: impl.NoChar, A: c} }
func noAny() impl.NfaOp               { return impl.NfaOp{Op: impl.NoAny} }
func noSet(ends ...int) impl.NfaOp    { return impl.NfaOp{Op: impl.NoSet, Set: ends} }
func noNone(ends ...int) impl.NfaOp   { return impl.NfaOp{Op: impl.NoSet, Neg: true, Set: ends} }
func noBegin() impl.NfaOp             { return impl.NfaOp{Op: impl.NoBegin} }
func noEnd() impl.NfaOp               { return impl.NfaOp{Op: impl.NoEnd} }
func noSplit(a int, b int) impl.NfaOp { return impl.NfaOp{Op: impl.NoSplit, A: a, B: b} }
func noJump(a int) impl.NfaOp         { return impl.NfaOp{Op: impl.NoJump, A: a} }
func noFits() impl.NfaOp              { return impl.NfaOp{Op: impl.NoFits} }

// nfaWith is the automaton of these operations and NoFits behind them.
func nfaWith(ops ...impl.NfaOp) impl.Nfa {
	return impl.Nfa{Ops: append(slices.Clone(ops), noFits())}
}

func sameNfa(m impl.Nfa, n impl.Nfa) bool {
	return slices.EqualFunc(m.Ops, n.Ops, func(o impl.NfaOp, p impl.NfaOp) bool {
		return o.Op == p.Op && o.A == p.A && o.B == p.B && o.Neg == p.Neg && slices.Equal(o.Set, p.Set)
	})
}

func automaton(t *testing.T, x impl.Rx) impl.Nfa {
	t.Helper()
	m, ok := impl.NfaOf(x)
	if !ok {
		t.Fatalf("NfaOf(%.100q) returns false", impl.RxText(x))
	}
	return m
}

// secondCount is how many operations the node i has, without looking at them.
func secondCount(x impl.Rx, i int) int {
	node, count := x.Nodes[i], 0
	for _, kid := range node.Kids {
		count += secondCount(x, kid)
	}
	switch node.Kind {
	case impl.RxEmpty, impl.RxCat:
		return count
	case impl.RxAlt:
		return count + 2*len(node.Kids) - 2
	case impl.RxRep:
		if node.Hi == -1 {
			return count*(node.Lo+1) + 2
		}
		return count*node.Hi + node.Hi - node.Lo
	}
	return 1
}

// secondOps are the operations of the node i, of which the first one has the index base: where each of them
// leads is known beforehand, by secondCount.
func secondOps(x impl.Rx, i int, base int) []impl.NfaOp {
	node := x.Nodes[i]
	var ops []impl.NfaOp
	behind := base + secondCount(x, i)
	switch node.Kind {
	case impl.RxEmpty:
		return nil
	case impl.RxChar:
		return []impl.NfaOp{noChar(node.Lo)}
	case impl.RxSet:
		return []impl.NfaOp{{Op: impl.NoSet, Neg: node.Neg, Set: node.Set}}
	case impl.RxAny, impl.RxBegin, impl.RxEnd:
		return []impl.NfaOp{{Op: map[int]int{impl.RxAny: impl.NoAny, impl.RxBegin: impl.NoBegin, impl.RxEnd: impl.NoEnd}[node.Kind]}}
	case impl.RxCat:
		for _, kid := range node.Kids {
			ops = append(ops, secondOps(x, kid, base+len(ops))...)
		}
		return ops
	case impl.RxAlt:
		for k, kid := range node.Kids {
			at := base + len(ops)
			if k == len(node.Kids)-1 {
				return append(ops, secondOps(x, kid, at)...)
			}
			ops = append(ops, noSplit(at+1, at+2+secondCount(x, kid)))
			ops = append(append(ops, secondOps(x, kid, at+1)...), noJump(behind))
		}
	}
	kid := node.Kids[0]
	for range node.Lo {
		ops = append(ops, secondOps(x, kid, base+len(ops))...)
	}
	if node.Hi == -1 {
		at := base + len(ops)
		return append(append(append(ops, noSplit(at+1, behind)), secondOps(x, kid, at+1)...), noJump(at))
	}
	for base+len(ops) < behind && node.Hi > node.Lo {
		at := base + len(ops)
		ops = append(append(ops, noSplit(at+1, behind)), secondOps(x, kid, at+1)...)
	}
	return ops
}

// checkAutomaton holds NfaOf of a sound pattern against its definition, with every field, and returns the automaton.
func checkAutomaton(t *testing.T, x impl.Rx) impl.Nfa {
	t.Helper()
	m := automaton(t, x)
	if want := nfaWith(secondOps(x, len(x.Nodes)-1, 0)...); !sameNfa(m, want) {
		t.Fatalf("NfaOf(%.100q) returns %v, not %v", impl.RxText(x), m, want)
	}
	if impl.NfaSound(m) != (len(m.Ops) <= impl.MaxNfa) {
		t.Fatalf("NfaSound of the automaton of %.100q is %v", impl.RxText(x), impl.NfaSound(m))
	}
	return m
}

// checkFinds holds NfaFind of the automaton of a pattern against RxFind, from every position and from outside.
func checkFinds(t *testing.T, x impl.Rx, m impl.Nfa, s string) {
	t.Helper()
	for from := -1; from <= impl.Length(s)+1; from++ {
		wantAt, wantEnd := impl.RxFind(x, s, from)
		if at, end := impl.NfaFind(m, s, from); at != wantAt || end != wantEnd {
			t.Fatalf("NfaFind of %q, %.70q from %d returns %d, %d, not %d, %d", impl.RxText(x), s, from, at, end, wantAt, wantEnd)
		}
	}
}

// secondEnds are the positions, as bits, at which an automaton that begins at a position of a text of less than
// 64 code points reaches NoFits: all operations lead on from all positions until nothing is added.
func secondEnds(m impl.Nfa, points []int, begin int) uint64 {
	sets := make([]uint64, len(m.Ops))
	sets[0] = 1 << begin
	for added := true; added; {
		added = false
		add := func(index int, set uint64) {
			added = added || sets[index]|set != sets[index]
			sets[index] |= set
		}
		for i, op := range m.Ops {
			switch op.Op {
			case impl.NoJump:
				add(op.A, sets[i])
			case impl.NoSplit:
				add(op.B, sets[i])
				add(op.A, sets[i])
			case impl.NoBegin:
				add(i+1, sets[i]&1)
			case impl.NoEnd:
				add(i+1, sets[i]&(1<<len(points)))
			case impl.NoChar, impl.NoAny, impl.NoSet:
				add(i+1, (sets[i]&secondTakes(op, points))<<1)
			}
		}
	}
	return sets[len(sets)-1]
}

// secondTakes are the positions, as bits, of the code points that an operation reads.
func secondTakes(op impl.NfaOp, points []int) uint64 {
	set := uint64(0)
	for p, c := range points {
		if op.Op == impl.NoAny || op.Op == impl.NoChar && op.A == c || op.Op == impl.NoSet && secondHas(op.Set, op.Neg, c) {
			set |= 1 << p
		}
	}
	return set
}

// checkReads holds NfaFind over a text of less than 64 code points, from every position and from outside of the
// text, against the definition.
func checkReads(t *testing.T, m impl.Nfa, s string) {
	t.Helper()
	points, _ := impl.Runes(s)
	at, end := -1, -1
	for from := len(points); from >= 0; from-- {
		if last := greatest(secondEnds(m, points, from)); last >= 0 {
			at, end = from, last
		}
		if gotAt, gotEnd := impl.NfaFind(m, s, from); gotAt != at || gotEnd != end {
			t.Fatalf("NfaFind of %v, %q from %d returns %d, %d, not %d, %d", m, s, from, gotAt, gotEnd, at, end)
		}
	}
	checkNothingOutside(t, m, s, len(points))
}

func checkNothingFound(t *testing.T, m impl.Nfa, s string, from int) {
	t.Helper()
	if at, end := impl.NfaFind(m, s, from); at != -1 || end != -1 {
		t.Fatalf("NfaFind of %.100v, %.20q from %d returns %d, %d", m.Ops[:min(len(m.Ops), 9)], s, from, at, end)
	}
}

func checkNothingOutside(t *testing.T, m impl.Nfa, s string, length int) {
	t.Helper()
	for _, from := range []int{-1, length + 1, -2, length + 2, -64, length + 64, math.MinInt, math.MaxInt, math.MaxInt - 1, 1 << 32} {
		checkNothingFound(t, m, s, from)
	}
}

func TestConstantsOfAutomata(t *testing.T) {
	constants := []int{impl.NoChar, impl.NoAny, impl.NoSet, impl.NoBegin, impl.NoEnd, impl.NoSplit, impl.NoJump, impl.NoFits}
	if impl.MaxNfa != 4000 || !slices.Equal(constants, []int{1, 2, 3, 4, 5, 6, 7, 8}) {
		t.Error(impl.MaxNfa, constants)
	}
}

func TestExamplesOfAutomata(t *testing.T) {
	m := checkAutomaton(t, pattern(t, "a|b*"))
	if len(m.Ops) != 7 || m.Ops[0].Op != impl.NoSplit || m.Ops[0].A != 1 || m.Ops[0].B != 3 || m.Ops[6].Op != impl.NoFits {
		t.Error("NfaOf of a|b* returns", m)
	}
	if at, end := impl.NfaFind(m, "xbb", 1); at != 1 || end != 3 {
		t.Error("NfaFind of a|b* in xbb from 1 returns", at, end)
	}
	if at, end := impl.NfaFind(m, "xbb", 0); at != 0 || end != 0 {
		t.Error("NfaFind of a|b* in xbb returns", at, end)
	}
}

// written is a pattern and the operations of its automaton, without NoFits.
type written struct {
	pattern string
	ops     []impl.NfaOp
}

func ops(list ...impl.NfaOp) []impl.NfaOp { return list }

func checkWritten(t *testing.T, list []written) {
	t.Helper()
	for _, c := range list {
		x := pattern(t, c.pattern)
		m := checkAutomaton(t, x)
		if !sameNfa(m, nfaWith(c.ops...)) {
			t.Errorf("NfaOf(%q) returns %v, not %v", c.pattern, m, nfaWith(c.ops...))
		}
		for _, s := range shortTexts() {
			checkFinds(t, x, m, s)
		}
	}
}

func TestOperationsOfLeavesAndSequences(t *testing.T) {
	a, b, c := noChar('a'), noChar('b'), noChar('c')
	checkWritten(t, []written{
		{"", nil}, {"()", nil}, {"(())", nil},
		{"a", ops(a)}, {"\u00e9", ops(noChar(233))}, {"\U0010ffff", ops(noChar(1114111))}, {`\n`, ops(noChar(10))}, {`\.`, ops(noChar('.'))}, {"\x01", ops(noChar(1))},
		{".", ops(noAny())}, {"^", ops(noBegin())}, {"$", ops(noEnd())},
		{"[a-c]", ops(noSet('a', 'c'))}, {"[^a-c]", ops(noNone('a', 'c'))}, {"[ca-b\u00e9]", ops(noSet('c', 'c', 'a', 'b', 233, 233))}, {"[^[:space:]]", ops(noNone(9, 13, 32, 32))}, {"[aa]", ops(noSet('a', 'a', 'a', 'a'))},
		{"ab", ops(a, b)}, {"abc", ops(a, b, c)}, {"a(bc)", ops(a, b, c)}, {"(ab)c", ops(a, b, c)}, {"a()b", ops(a, b)}, {"()()", nil}, {"()a", ops(a)}, {"a()", ops(a)}, {"^.[b]$", ops(noBegin(), noAny(), noSet('b', 'b'), noEnd())}, {"$^", ops(noEnd(), noBegin())},
	})
}

func TestOperationsOfAlternatives(t *testing.T) {
	a, b, c := noChar('a'), noChar('b'), noChar('c')
	checkWritten(t, []written{
		{"a|b", ops(noSplit(1, 3), a, noJump(4), b)},
		{"(a|b)", ops(noSplit(1, 3), a, noJump(4), b)},
		{"ab|c", ops(noSplit(1, 4), a, b, noJump(5), c)},
		{"a|bc", ops(noSplit(1, 3), a, noJump(5), b, c)},
		{"a|b|c", ops(noSplit(1, 3), a, noJump(7), noSplit(4, 6), b, noJump(7), c)},
		{".|^|$|[b]", ops(noSplit(1, 3), noAny(), noJump(10), noSplit(4, 6), noBegin(), noJump(10), noSplit(7, 9), noEnd(), noJump(10), noSet('b', 'b'))},
		// kids that have no operations
		{"|", ops(noSplit(1, 2), noJump(2))},
		{"||", ops(noSplit(1, 2), noJump(4), noSplit(3, 4), noJump(4))},
		{"a|", ops(noSplit(1, 3), a, noJump(3))},
		{"|a", ops(noSplit(1, 2), noJump(3), a)},
		{"a||b", ops(noSplit(1, 3), a, noJump(6), noSplit(4, 5), noJump(6), b)},
		{"|a|", ops(noSplit(1, 2), noJump(5), noSplit(3, 5), a, noJump(5))},
		{"||a", ops(noSplit(1, 2), noJump(5), noSplit(3, 4), noJump(5), a)},
		{"a||", ops(noSplit(1, 3), a, noJump(5), noSplit(4, 5), noJump(5))},
		{"a{0}|b", ops(noSplit(1, 2), noJump(3), b)},
		// in and around others
		{"c(a|b)c", ops(c, noSplit(2, 4), a, noJump(5), b, c)},
		{"(a|b)(b|c)", ops(noSplit(1, 3), a, noJump(4), b, noSplit(5, 7), b, noJump(8), c)},
		{"(a|b)|c", ops(noSplit(1, 6), noSplit(2, 4), a, noJump(5), b, noJump(7), c)},
		{"a|(b|c)", ops(noSplit(1, 3), a, noJump(7), noSplit(4, 6), b, noJump(7), c)},
		{"a*|b", ops(noSplit(1, 5), noSplit(2, 4), a, noJump(1), noJump(6), b)},
		{"a|b*", ops(noSplit(1, 3), a, noJump(6), noSplit(4, 6), b, noJump(3))},
	})
}

func TestOperationsOfRepetitions(t *testing.T) {
	a, b := noChar('a'), noChar('b')
	checkWritten(t, []written{
		// without an upper limit: Lo 0, 1 and more
		{"a*", ops(noSplit(1, 3), a, noJump(0))},
		{"a+", ops(a, noSplit(2, 4), a, noJump(1))},
		{"a{2,}", ops(a, a, noSplit(3, 5), a, noJump(2))},
		{"a{3,}b", ops(a, a, a, noSplit(4, 6), a, noJump(3), b)},
		{"ba*", ops(b, noSplit(2, 4), a, noJump(1))},
		{"(ab)*", ops(noSplit(1, 4), a, b, noJump(0))},
		{"(ab)+", ops(a, b, noSplit(3, 6), a, b, noJump(2))},
		// Hi equal to Lo
		{"a{0}", nil}, {"ba{0}b", ops(b, b)}, {"(a*|b){0}", nil}, {"a{1}", ops(a)}, {"a{2}", ops(a, a)}, {"a{2}b", ops(a, a, b)}, {"(ab){2}", ops(a, b, a, b)},
		// Hi greater than Lo
		{"a?", ops(noSplit(1, 2), a)},
		{"a?b", ops(noSplit(1, 2), a, b)},
		{"a{0,2}", ops(noSplit(1, 4), a, noSplit(3, 4), a)},
		{"a{0,3}b", ops(noSplit(1, 6), a, noSplit(3, 6), a, noSplit(5, 6), a, b)},
		{"a{1,2}", ops(a, noSplit(2, 3), a)},
		{"a{1,3}", ops(a, noSplit(2, 5), a, noSplit(4, 5), a)},
		{"ba{2,4}b", ops(b, a, a, noSplit(4, 7), a, noSplit(6, 7), a, b)},
		{"(ab){1,2}", ops(a, b, noSplit(3, 5), a, b)},
		// a kid that has no operations
		{"()*", ops(noSplit(1, 2), noJump(0))},
		{"()+", ops(noSplit(1, 2), noJump(0))},
		{"b(){3,}", ops(b, noSplit(2, 3), noJump(1))},
		{"(){5}", nil}, {"(){0}", nil},
		{"()?", ops(noSplit(1, 1))},
		{"(){0,3}a", ops(noSplit(1, 3), noSplit(2, 3), noSplit(3, 3), a)},
		{"(){2,4}", ops(noSplit(1, 2), noSplit(2, 2))},
		{"(a{0})*", ops(noSplit(1, 2), noJump(0))},
		// nested, and with alternatives
		{"(a*)*", ops(noSplit(1, 5), noSplit(2, 4), a, noJump(1), noJump(0))},
		{"(a*)+", ops(noSplit(1, 3), a, noJump(0), noSplit(4, 8), noSplit(5, 7), a, noJump(4), noJump(3))},
		{"(a+)?", ops(noSplit(1, 5), a, noSplit(3, 5), a, noJump(2))},
		{"(a?){2}", ops(noSplit(1, 2), a, noSplit(3, 4), a)},
		{"(a?){1,2}", ops(noSplit(1, 2), a, noSplit(3, 5), noSplit(4, 5), a)},
		{"(a{2}){2}", ops(a, a, a, a)},
		{"(a|b)*", ops(noSplit(1, 6), noSplit(2, 4), a, noJump(5), b, noJump(0))},
		{"(a|b){2}", ops(noSplit(1, 3), a, noJump(4), b, noSplit(5, 7), a, noJump(8), b)},
		{"(a|)?", ops(noSplit(1, 4), noSplit(2, 4), a, noJump(4))},
		{"^*$?[a]+", ops(noSplit(1, 3), noBegin(), noJump(0), noSplit(4, 5), noEnd(), noSet('a', 'a'), noSplit(7, 9), noSet('a', 'a'), noJump(6))},
	})
}

// sharedNodes are patterns whose last node does not reach each of the others, or reaches one more than once.
func sharedNodes() []impl.Rx {
	a, b := rxChar('a'), rxChar('b')
	return []impl.Rx{
		rxOf(a, b), rxOf(b, a, rxRep(0, -1, 1)), rxOf(rxEmpty(), a), rxOf(a, rxAny(), b, rxCat(0, 2)), rxOf(a, b, rxCat(0, 1), b),
		rxOf(a, rxCat(0, 0)), rxOf(a, rxAlt(0, 0)), rxOf(a, b, rxCat(0, 1, 0)), rxOf(a, rxRep(0, -1, 0), rxCat(0, 1)), rxOf(a, b, rxCat(0, 1), rxAlt(0, 2)),
	}
}

func TestP8AutomataOfSoundPatternsAlone(t *testing.T) {
	for _, x := range append(notSound(), sharedNodes()...) {
		if m, ok := impl.NfaOf(x); ok || len(m.Ops) != 0 {
			t.Errorf("NfaOf of %.100v returns %.100v, %v", x.Nodes[:min(len(x.Nodes), 5)], m.Ops[:min(len(m.Ops), 5)], ok)
		}
	}
	// a fault that is added to a pattern takes its automaton away, and one that is taken back returns it
	for _, p := range []string{"", "a", "[^a]", "^$", "a|b|", "(ab){2,3}", "(a|b*)+"} {
		x := pattern(t, p)
		for i := range x.Nodes {
			for _, fault := range []func(n *impl.RxNode){
				func(n *impl.RxNode) { n.Kind = 0 }, func(n *impl.RxNode) { n.Kind = 10 }, func(n *impl.RxNode) { n.Lo = -1 }, func(n *impl.RxNode) { n.Hi = -2 }, func(n *impl.RxNode) { n.Set = append(slices.Clone(n.Set), 'a') }, func(n *impl.RxNode) { n.Kids = append(slices.Clone(n.Kids), i) },
			} {
				kept := x.Nodes[i]
				fault(&x.Nodes[i])
				if m, ok := impl.NfaOf(x); ok || len(m.Ops) != 0 {
					t.Errorf("NfaOf of a faulty %q, %v, returns %v, %v", p, x, m, ok)
				}
				x.Nodes[i] = kept
			}
		}
		checkAutomaton(t, x)
	}
}

func TestP8AutomataFindTheMatchesOfKindsInKinds(t *testing.T) {
	for _, p := range kindsInKinds() {
		x := pattern(t, p)
		m := checkAutomaton(t, x)
		for _, s := range shortTexts() {
			checkFinds(t, x, m, s)
		}
	}
}

func TestP8AutomataFindTheMatchesOfShortPatterns(t *testing.T) {
	for _, x := range shortPatterns(t) {
		m := checkAutomaton(t, x)
		for _, s := range []string{"", "a", "ab", "bab", "abbaa"} {
			checkFinds(t, x, m, s)
		}
	}
}

func TestP8AutomataFindTheMatchesOfRandomPatterns(t *testing.T) {
	random := rand.New(rand.NewSource(16))
	read, matches := 0, 0
	for range 4000 {
		x, _, code := impl.RxRead(matchingPattern(random, random.Intn(5)))
		if code != impl.RxOK {
			continue
		}
		m := checkAutomaton(t, x)
		if !impl.NfaSound(m) {
			continue
		}
		read++
		checkFinds(t, x, m, matchingText(random, random.Intn(20)))
		s := matchingText(random, random.Intn(300))
		wantAt, wantEnd := libraryFind(x, s)
		at, end := impl.NfaFind(m, s, 0)
		if at != wantAt || end != wantEnd {
			t.Fatalf("NfaFind of %q, %q returns %d, %d, not %d, %d", impl.RxText(x), s, at, end, wantAt, wantEnd)
		}
		if at >= 0 {
			matches++
		}
	}
	if matches < 2000 || read-matches < 200 {
		t.Errorf("%d patterns are read, and %d match", read, matches)
	}
	// code points of every kind, in patterns of every kind
	for range 3000 {
		x, _, code := impl.RxRead(randomPattern(random, random.Intn(4)))
		if code != impl.RxOK {
			continue
		}
		var points []int
		for range random.Intn(30) {
			points = append(points, randomPoint(random))
		}
		s, _ := impl.TextOf(points)
		checkFinds(t, x, checkAutomaton(t, x), s)
	}
}

// TestP8AutomataOfLongPatterns is about patterns that RxRead rejects because of their length, but that are sound.
func TestP8AutomataOfLongPatterns(t *testing.T) {
	most := impl.MaxRxNodes - 1
	either := catOf(rxChar('a'), most)
	either.Nodes[most].Kind = impl.RxAlt
	for i := range most {
		either.Nodes[i] = rxChar('a' + i%26)
	}
	for _, x := range []impl.Rx{
		catOf(rxChar('a'), most), catOf(rxEmpty(), most), catOf(rxBegin(), most), catOf(rxEnd(), most), catOf(rxAny(), most), either,
		rxOf(rxSet(slices.Repeat([]int{'b', 'c'}, 331)...), rxRep(0, -1, 0)), rxOf(rxNone(slices.Repeat([]int{'b', 'c'}, 330)...), rxRep(2, 3, 0)),
	} {
		m := checkAutomaton(t, x)
		for _, s := range []string{"", "a", "abcb", "zzzb\u00e9", strings.Repeat("a", most), strings.Repeat("b", 3) + strings.Repeat("a", most+1)} {
			for _, from := range []int{0, 1, 3, 4, len(s), len(s) + 1} {
				wantAt, wantEnd := impl.RxFind(x, s, from)
				if at, end := impl.NfaFind(m, s, from); at != wantAt || end != wantEnd {
					t.Errorf("NfaFind of %.40q, %.40q from %d returns %d, %d, not %d, %d", impl.RxText(x), s, from, at, end, wantAt, wantEnd)
				}
			}
		}
	}
}

// checkFindsSoon holds that NfaFind ends long before something that multiplies in circles would.
func checkFindsSoon(t *testing.T, name string, m impl.Nfa, s string, from int, wantAt int, wantEnd int) {
	t.Helper()
	results := make(chan [2]int, 1)
	go func() {
		at, end := impl.NfaFind(m, s, from)
		results <- [2]int{at, end}
	}()
	select {
	case got := <-results:
		if got != [2]int{wantAt, wantEnd} {
			t.Fatalf("NfaFind of %.60q, %.10q from %d returns %v, not %d, %d", name, s, from, got, wantAt, wantEnd)
		}
	case <-time.After(30 * time.Second):
		t.Fatalf("%.60q does not end over %.10q", name, s)
	}
}

func TestP8AutomataOfTheLargestNestedRepetitions(t *testing.T) {
	texts := []string{strings.Repeat("a", impl.MaxText), strings.Repeat("a", impl.MaxText-1) + "b", strings.Repeat("aab", impl.MaxText/3), strings.Repeat("\u00e9", impl.MaxText/2)}
	read, large := 0, 0
	for i, p := range largestNested() {
		for k, q := range []string{p, p + "|x", p + "c"} {
			x, _, code := impl.RxRead(q)
			if code != impl.RxOK {
				continue
			}
			m := checkAutomaton(t, x)
			if !impl.NfaSound(m) {
				large++
				continue
			}
			read++
			s := texts[(i+k)%4]
			at, end := impl.RxFind(x, s, 0)
			checkFindsSoon(t, q, m, s, 0, at, end)
		}
	}
	if read < 200 || large == 0 {
		t.Errorf("%d automata are sound, %d are not", read, large)
	}
}

// TestAutomataOfMoreThanMaxNfaOperations: each + doubles its kid, but adds only 1 to the size of the pattern. By the
// direct reading of the document such a pattern has an automaton too, which is not sound.
func TestAutomataOfMoreThanMaxNfaOperations(t *testing.T) {
	for _, c := range []struct {
		pattern string
		count   int
	}{
		{"((((a{60}){8})+)+)+a{60}a{60}a{24}", impl.MaxNfa - 1}, {"((((a{60}){8})+)+)+a{60}a{60}a{25}", impl.MaxNfa}, {"((((a{60}){8})+)+)+a{60}a{60}a{26}", impl.MaxNfa + 1},
		{"((((((" + strings.Repeat("a", 182) + ")+)+)+)+)+)+", 11775}, {"(((((a{60}){16})+)+)+)+", 15391}, {"((((((" + strings.Repeat("a|", 19) + "a){45})+)+)+)+)+", 83583},
	} {
		x := pattern(t, c.pattern)
		m := checkAutomaton(t, x)
		if len(m.Ops) != c.count {
			t.Errorf("the automaton of %q has %d operations", c.pattern, len(m.Ops))
		}
		s := "b" + strings.Repeat("a", impl.MaxText-1)
		if c.count > impl.MaxNfa {
			checkNothingFound(t, m, s, 0)
		} else {
			at, end := impl.RxFind(x, s, 0)
			checkFindsSoon(t, c.pattern, m, s, 0, at, end)
		}
	}
}

// TestSetsOfAutomataAreNew overwrites each set, with the room behind it: no other one and no pattern may change.
func TestSetsOfAutomataAreNew(t *testing.T) {
	for _, p := range []string{"[a-c]", "[^a-cx]+", "([a-c]|[x-z]){3}[a-c]", "([ab]{2,4}){2,}", "(([abc]+)*)?[abc]"} {
		x := pattern(t, p)
		m, again := automaton(t, x), automaton(t, x)
		for i := range m.Ops {
			whole := m.Ops[i].Set[:cap(m.Ops[i].Set)]
			for k := range whole {
				whole[k] = -i - 1
			}
			// Appending writes behind the set, if there is room.
			_ = append(m.Ops[i].Set, -i-1, -i-1)
		}
		for i, op := range m.Ops {
			for _, c := range op.Set {
				if c != -i-1 {
					t.Errorf("the sets %d and %d of the automaton of %q share memory", i, -c-1, p)
				}
			}
		}
		if !sameRx(x, pattern(t, p)) {
			t.Errorf("the automaton of %q shares memory with the pattern", p)
		}
		if !sameNfa(again, checkAutomaton(t, x)) {
			t.Errorf("two automata of %q share memory", p)
		}
		// nor the other way around
		for i := range x.Nodes {
			for k := range x.Nodes[i].Set {
				x.Nodes[i].Set[k] = 1
			}
		}
		if !sameNfa(again, automaton(t, pattern(t, p))) {
			t.Errorf("the automaton of %q changes with the pattern", p)
		}
	}
}

// manyOps is an automaton of count operations, all but the last one the same.
func manyOps(op impl.NfaOp, count int) impl.Nfa {
	return nfaWith(slices.Repeat([]impl.NfaOp{op}, count-1)...)
}

// soundAutomata are automata that no pattern has, in their different forms.
func soundAutomata() []impl.Nfa {
	all := func(op int) impl.NfaOp { return impl.NfaOp{Op: op, A: 1, B: 1, Neg: true} }
	return []impl.Nfa{
		nfaWith(), nfaWith(noAny()), nfaWith(noBegin()), nfaWith(noEnd()), nfaWith(noAny(), noAny()), nfaWith(noBegin(), noEnd()),
		// code points at the edges
		nfaWith(noChar(1)), nfaWith(noChar(55295)), nfaWith(noChar(57344)), nfaWith(noChar(1114111)),
		// sets: empty, in the wrong order, with numbers at the edges
		nfaWith(noSet()), nfaWith(noNone()), nfaWith(impl.NfaOp{Op: impl.NoSet, Set: []int{}}), nfaWith(noSet('a', 'a')), nfaWith(noSet('z', 'a')), nfaWith(noSet('a', 'b', 'x', 'z')), nfaWith(noSet(1, 1114111)), nfaWith(noNone(55295, 57344)), nfaWith(noSet(slices.Repeat([]int{'a'}, 5000)...)),
		// the first and the last index, and the operation itself
		nfaWith(noJump(0)), nfaWith(noJump(1)), nfaWith(noAny(), noJump(0)), nfaWith(noAny(), noJump(2)), nfaWith(noSplit(0, 0)), nfaWith(noSplit(0, 1)), nfaWith(noSplit(1, 0)), nfaWith(noSplit(1, 1)),
		// fields that the operation does not name
		nfaWith(impl.NfaOp{Op: impl.NoChar, A: 'a', B: -1, Neg: true, Set: []int{1}}), nfaWith(impl.NfaOp{Op: impl.NoAny, A: -1, B: 99, Neg: true, Set: []int{0}}), nfaWith(impl.NfaOp{Op: impl.NoSet, A: -1, B: -1}), nfaWith(impl.NfaOp{Op: impl.NoBegin, A: math.MinInt, B: 7, Set: []int{1}}), nfaWith(impl.NfaOp{Op: impl.NoEnd, A: 2, B: math.MaxInt, Neg: true}), nfaWith(impl.NfaOp{Op: impl.NoSplit, A: 1, B: 1, Neg: true, Set: []int{-1}}), nfaWith(impl.NfaOp{Op: impl.NoJump, A: 1, B: -1, Neg: true, Set: []int{0, 0}}), {Ops: []impl.NfaOp{{Op: impl.NoFits, A: -1, B: 1, Neg: true, Set: []int{-1}}}},
		nfaWith(all(impl.NoChar), all(impl.NoAny), all(impl.NoSet), all(impl.NoBegin), all(impl.NoEnd), all(impl.NoSplit), all(impl.NoJump)),
		// as many operations as there may be
		manyOps(noAny(), impl.MaxNfa), manyOps(noJump(impl.MaxNfa-1), impl.MaxNfa), manyOps(noSplit(0, impl.MaxNfa-1), impl.MaxNfa),
	}
}

// otherAutomata are automata that are not sound.
func otherAutomata() []impl.Nfa {
	list := []impl.Nfa{
		{}, {Ops: []impl.NfaOp{}}, {Ops: nfaWith(noAny()).Ops[:0]},
		// too many operations
		manyOps(noAny(), impl.MaxNfa+1), manyOps(noJump(0), impl.MaxNfa+1), manyOps(noAny(), 100000),
		// NoFits is not the last one, or not the only one
		{Ops: ops(noAny())}, {Ops: ops(noBegin())}, {Ops: ops(noJump(0))}, {Ops: ops(noFits(), noAny())}, {Ops: ops(noChar('a'), noChar('b'))}, {Ops: ops(noFits(), noFits())}, {Ops: ops(noAny(), noFits(), noFits())}, {Ops: ops(noFits(), noAny(), noFits())}, {Ops: ops(noSplit(1, 2), noFits(), noChar('a'), noFits())}, {Ops: nfaWith(noAny()).Ops[:1]}, {Ops: manyOps(noAny(), impl.MaxNfa+1).Ops[:impl.MaxNfa]},
	}
	for _, op := range []int{0, -1, 9, 10, 256 + impl.NoAny, 1<<32 + impl.NoAny, math.MinInt, math.MaxInt} {
		list = append(list, nfaWith(impl.NfaOp{Op: op}), nfaWith(impl.NfaOp{Op: op, A: 1, B: 1}), impl.Nfa{Ops: ops(impl.NfaOp{Op: op})}, impl.Nfa{Ops: ops(noJump(1), impl.NfaOp{Op: op})}, nfaWith(noJump(2), impl.NfaOp{Op: op}))
	}
	for _, c := range []int{0, -1, -'a', 55296, 56000, 57343, 1114112, 1<<32 + 'a', math.MinInt, math.MaxInt} {
		list = append(list, nfaWith(noChar(c)), nfaWith(noJump(2), noChar(c)), nfaWith(noSet(c, 'z')), nfaWith(noSet('a', c)), nfaWith(noNone(c, c)), nfaWith(noSet('a', 'b', 'c', 'd', c, 'z')), nfaWith(noJump(2), noSet('a', 'b', 'c', c)))
	}
	for _, set := range [][]int{{'a'}, {'a', 'b', 'c'}, slices.Repeat([]int{'a'}, 5001)} {
		list = append(list, nfaWith(noSet(set...)), nfaWith(noNone(set...)), nfaWith(noJump(2), noSet(set...)))
	}
	for _, index := range []int{-1, 3, 4, -3, 1 << 32, math.MinInt, math.MaxInt} {
		list = append(list, nfaWith(noJump(index), noAny()), nfaWith(noAny(), noJump(index)), nfaWith(noSplit(index, 1), noAny()), nfaWith(noSplit(1, index), noAny()), nfaWith(noAny(), noSplit(index, 2)), nfaWith(noAny(), noSplit(2, index)), nfaWith(noSplit(index, index), noAny()), nfaWith(noJump(2), noSplit(0, index)))
	}
	return list
}

func TestSoundAutomata(t *testing.T) {
	for _, m := range soundAutomata() {
		if !impl.NfaSound(m) {
			t.Errorf("%.200v is not sound", m.Ops[:min(len(m.Ops), 9)])
		}
	}
	for _, m := range otherAutomata() {
		if impl.NfaSound(m) {
			t.Errorf("%d operations %.200v are sound", len(m.Ops), m.Ops[:min(len(m.Ops), 9)])
		}
	}
}

func TestIndexesOfAutomata(t *testing.T) {
	for size := 2; size <= 6; size++ {
		for at := range size - 1 {
			for a := -2; a <= size+1; a++ {
				for b := -2; b <= size+1; b++ {
					m := manyOps(noAny(), size)
					inside := a >= 0 && a < size
					m.Ops[at] = impl.NfaOp{Op: impl.NoJump, A: a, B: b}
					if impl.NfaSound(m) != inside {
						t.Errorf("%v is sound: %v", m, !inside)
					}
					inside = inside && b >= 0 && b < size
					m.Ops[at] = noSplit(a, b)
					if impl.NfaSound(m) != inside {
						t.Errorf("%v is sound: %v", m, !inside)
					}
				}
			}
		}
	}
}

// reading is what an automaton finds in a text from a position.
type reading struct {
	m    impl.Nfa
	s    string
	from int
	at   int
	end  int
}

func checkReadings(t *testing.T, list []reading) {
	t.Helper()
	for _, c := range list {
		if !impl.NfaSound(c.m) {
			t.Fatalf("%v is not sound", c.m)
		}
		if at, end := impl.NfaFind(c.m, c.s, c.from); at != c.at || end != c.end {
			t.Errorf("NfaFind of %v, %q from %d returns %d, %d, not %d, %d", c.m, c.s, c.from, at, end, c.at, c.end)
		}
		checkReads(t, c.m, c.s)
	}
}

func TestReadingOfEachOperation(t *testing.T) {
	a, b := noChar('a'), noChar('b')
	checkReadings(t, []reading{
		{nfaWith(), "", 0, 0, 0}, {nfaWith(), "ab", 0, 0, 0}, {nfaWith(), "ab", 1, 1, 1}, {nfaWith(), "ab", 2, 2, 2},
		{nfaWith(a), "", 0, -1, -1}, {nfaWith(a), "ba", 0, 1, 2}, {nfaWith(a), "ba", 1, 1, 2}, {nfaWith(a), "ba", 2, -1, -1}, {nfaWith(a), "bb", 0, -1, -1}, {nfaWith(a, b), "aab", 0, 1, 3}, {nfaWith(a, b), "aba", 1, -1, -1},
		{nfaWith(noAny()), "", 0, -1, -1}, {nfaWith(noAny()), "\n", 0, 0, 1}, {nfaWith(noAny()), "ab", 1, 1, 2}, {nfaWith(noAny()), "ab", 2, -1, -1}, {nfaWith(noAny(), a), "aab", 1, -1, -1},
		// sets, also empty ones and items in the wrong order, by RxHas
		{nfaWith(noSet('b', 'd')), "abe", 0, 1, 2}, {nfaWith(noNone('b', 'd')), "bce", 0, 2, 3}, {nfaWith(noSet()), "ab", 0, -1, -1}, {nfaWith(noNone()), "ab", 1, 1, 2}, {nfaWith(noNone()), "", 0, -1, -1}, {nfaWith(noNone()), "a", 1, -1, -1}, {nfaWith(noSet('d', 'b')), "bcd", 0, -1, -1}, {nfaWith(noNone('d', 'b')), "bcd", 0, 0, 1}, {nfaWith(noSet('x', 'z', 'b', 'b')), "aby", 0, 1, 2}, {nfaWith(noSet('x', 'z', 'b', 'b')), "aby", 2, 2, 3}, {nfaWith(noSet(1, 1114111)), "\U0010ffff", 0, 0, 1},
		// the beginning and the end of the text, not of the search
		{nfaWith(noBegin()), "", 0, 0, 0}, {nfaWith(noBegin()), "ab", 0, 0, 0}, {nfaWith(noBegin()), "ab", 1, -1, -1}, {nfaWith(noBegin()), "\na", 1, -1, -1}, {nfaWith(noEnd()), "", 0, 0, 0}, {nfaWith(noEnd()), "ab", 0, 2, 2}, {nfaWith(noEnd()), "a\n", 0, 2, 2}, {nfaWith(noBegin(), noEnd()), "", 0, 0, 0}, {nfaWith(noEnd(), noBegin()), "", 0, 0, 0}, {nfaWith(noEnd(), noBegin()), "a", 0, -1, -1}, {nfaWith(noAny(), noBegin()), "ab", 0, -1, -1}, {nfaWith(noEnd(), noAny()), "ab", 0, -1, -1}, {nfaWith(noAny(), noEnd()), "ab", 0, 1, 2}, {nfaWith(noBegin(), noAny(), noEnd()), "ab", 0, -1, -1}, {nfaWith(noBegin(), noBegin(), a, noEnd(), noEnd()), "a", 0, 0, 1},
		{nfaWith(noJump(1)), "ab", 1, 1, 1}, {nfaWith(noJump(2), a), "b", 0, 0, 0}, {nfaWith(noJump(2), a, b), "ab", 0, 1, 2},
		{nfaWith(noSplit(1, 2), a), "ab", 0, 0, 1}, {nfaWith(noSplit(2, 1), a), "ab", 0, 0, 1}, {nfaWith(noSplit(1, 1), a), "ba", 0, 1, 2}, {nfaWith(noSplit(2, 2), a), "a", 0, 0, 0}, {nfaWith(noSplit(1, 3), a, noJump(4), b), "b", 0, 0, 1},
		// fields that an operation does not name change nothing
		{nfaWith(impl.NfaOp{Op: impl.NoChar, A: 'a', B: -7, Neg: true, Set: []int{'b'}}), "ba", 0, 1, 2}, {nfaWith(impl.NfaOp{Op: impl.NoAny, A: 'a', Neg: true, Set: []int{'a', 'a'}}), "ba", 0, 0, 1}, {nfaWith(impl.NfaOp{Op: impl.NoSet, A: 'b', B: 'b', Set: []int{'a', 'a'}}), "ba", 0, 1, 2}, {nfaWith(impl.NfaOp{Op: impl.NoBegin, A: -1, Neg: true}), "a", 1, -1, -1}, {nfaWith(impl.NfaOp{Op: impl.NoEnd, A: -1, Neg: true}), "a", 0, 1, 1}, {nfaWith(impl.NfaOp{Op: impl.NoJump, A: 2, B: 1, Neg: true}, a), "b", 0, 0, 0}, {nfaWith(impl.NfaOp{Op: impl.NoSplit, A: 1, B: 1, Neg: true}, a), "b", 0, -1, -1}, {impl.Nfa{Ops: ops(impl.NfaOp{Op: impl.NoFits, A: -3, B: 5, Neg: true, Set: []int{7}})}, "ab", 1, 1, 1},
	})
}

func TestReadingInCircles(t *testing.T) {
	a, b, c := noChar('a'), noChar('b'), noChar('c')
	checkReadings(t, []reading{
		// circles that read nothing
		{nfaWith(noJump(0)), "", 0, -1, -1}, {nfaWith(noJump(0)), "ab", 0, -1, -1}, {nfaWith(noSplit(0, 0)), "ab", 0, -1, -1}, {nfaWith(noSplit(0, 1)), "ab", 0, 0, 0}, {nfaWith(noSplit(1, 0)), "ab", 2, 2, 2}, {nfaWith(noJump(1), noJump(0)), "a", 0, -1, -1}, {nfaWith(noJump(1), noJump(1), a), "a", 0, -1, -1}, {nfaWith(noSplit(1, 2), noSplit(2, 0), noSplit(0, 1)), "a", 0, -1, -1}, {nfaWith(noSplit(1, 2), noSplit(2, 0), noSplit(0, 3), a), "ba", 0, 1, 2}, {nfaWith(noBegin(), noJump(0)), "a", 0, -1, -1}, {nfaWith(noSplit(1, 3), noEnd(), noJump(0), a), "aa", 0, 0, 1}, {nfaWith(noSplit(1, 3), noBegin(), noJump(0), b), "ab", 0, 1, 2},
		// circles that read
		{nfaWith(a, noSplit(0, 2)), "baaa", 0, 1, 4}, {nfaWith(a, noSplit(2, 0)), "baaa", 2, 2, 4}, {nfaWith(noAny(), noJump(0)), "aaa", 0, -1, -1}, {nfaWith(noSplit(1, 3), noAny(), noJump(0)), "aaa", 1, 1, 3}, {nfaWith(noSplit(1, 3), a, noJump(0), b), "caab", 0, 1, 4}, {nfaWith(a, noSplit(2, 5), b, noSplit(4, 5), noJump(0)), "ababa", 0, 0, 5},
		// jumps backward
		{nfaWith(noJump(3), b, noJump(5), a, noJump(1)), "bab", 0, 1, 3}, {nfaWith(noJump(2), noJump(4), a, noJump(1)), "a", 0, 0, 1}, {nfaWith(noJump(4), c, b, noJump(6), a, noSplit(1, 2)), "abac", 0, 0, 2}, {nfaWith(noSplit(2, 4), noJump(5), a, noJump(1), b), "ba", 1, 1, 2},
		// operations that nothing reaches
		{nfaWith(noJump(2), a, b), "ab", 0, 1, 2}, {nfaWith(noJump(3), noSplit(0, 3), noJump(3)), "ab", 0, 0, 0}, {nfaWith(a, noJump(4), noAny(), noJump(2)), "ba", 0, 1, 2}, {nfaWith(noJump(0), a, b), "ab", 0, -1, -1}, {nfaWith(noSplit(0, 0), noJump(2)), "ab", 0, -1, -1},
		// the beginning and the end, behind and before what reads
		{nfaWith(noSplit(1, 3), a, noJump(0), noBegin(), b), "ab", 0, -1, -1}, {nfaWith(noSplit(1, 3), a, noJump(0), noBegin(), b), "ba", 0, 0, 1}, {nfaWith(noSplit(1, 3), a, noJump(0), noEnd()), "baab", 0, 4, 4}, {nfaWith(noSplit(1, 3), a, noJump(0), noEnd()), "baa", 0, 1, 3}, {nfaWith(noEnd(), noSplit(2, 4), a, noJump(1)), "aa", 0, 2, 2}, {nfaWith(noSplit(1, 4), noBegin(), a, noJump(0), b), "aab", 0, 2, 3}, {nfaWith(noSplit(1, 4), noBegin(), a, noJump(0), b), "abb", 0, 0, 2},
		// a longer match that is found later, a shorter one too, and one that begins earlier but does not end
		{nfaWith(noSplit(5, 1), a, a, a, noJump(7), a, noJump(7)), "aaa", 0, 0, 3}, {nfaWith(noSplit(1, 3), a, noJump(6), a, b, noAny()), "abb", 0, 0, 3}, {nfaWith(noSplit(3, 1), a, noJump(6), a, b, noAny()), "abb", 0, 0, 3}, {nfaWith(noSplit(1, 3), a, noJump(6), a, b, b), "abab", 0, 0, 1}, {nfaWith(noSplit(1, 5), a, a, c, noJump(6), b), "aaab", 0, 3, 4}, {nfaWith(noSplit(1, 4), noSplit(2, 3), noAny(), noJump(6), a, a), "aab", 0, 0, 2}, {nfaWith(noSplit(6, 1), a, noSplit(0, 3), a, a, a), "aaaa", 0, 0, 4},
	})
}

func TestReadingOfOtherCodePoints(t *testing.T) {
	accent, word, face := noChar(0xe9), noChar(0x8a9e), noChar(0x1f600)
	s := "\u00e9\u8a9e\U0001f600a"
	checkReadings(t, []reading{
		{nfaWith(accent), s, 0, 0, 1}, {nfaWith(word), s, 0, 1, 2}, {nfaWith(face), s, 0, 2, 3}, {nfaWith(noChar('a')), s, 0, 3, 4}, {nfaWith(noChar('a')), s, 4, -1, -1}, {nfaWith(noEnd()), s, 0, 4, 4}, {nfaWith(noEnd()), s, 4, 4, 4}, {nfaWith(accent, word, face), s, 0, 0, 3}, {nfaWith(word, noAny(), noAny(), noEnd()), s, 0, 1, 4}, {nfaWith(noAny(), noAny(), noAny(), noAny(), noAny()), s, 0, -1, -1},
		{nfaWith(noSet(0x100, 0x10ffff), noSplit(0, 2)), s, 0, 1, 3}, {nfaWith(noNone(1, 127), noSplit(0, 2)), s, 0, 0, 3}, {nfaWith(noSet(0x80, 0xbf)), s, 0, -1, -1}, {nfaWith(noChar(0xc3)), s, 0, -1, -1},
	})
	for _, from := range []int{5, 6, 9, 10, 11} {
		checkNothingFound(t, nfaWith(), s, from)
	}
}

// smallOps are operations of every kind for an automaton of this size.
func smallOps(size int) []impl.NfaOp {
	list := ops(noChar('a'), noChar('b'), noAny(), noNone('a', 'a'), noBegin(), noEnd())
	for a := range size {
		list = append(list, noJump(a))
		for b := range size {
			list = append(list, noSplit(a, b))
		}
	}
	return list
}

func TestReadingOfAllSmallAutomata(t *testing.T) {
	checkAll := func(texts []string, list ...impl.NfaOp) {
		for _, s := range texts {
			checkReads(t, nfaWith(list...), s)
		}
	}
	texts := []string{"", "a", "b", "ab", "aab", "bab", "abba"}
	for _, first := range smallOps(2) {
		checkAll(texts, first)
	}
	for _, first := range smallOps(3) {
		for _, second := range smallOps(3) {
			checkAll(texts, first, second)
		}
	}
	for _, first := range smallOps(4) {
		for _, second := range smallOps(4) {
			for _, third := range smallOps(4) {
				checkAll([]string{"ab", "baa"}, first, second, third)
			}
		}
	}
}

func randomNfa(random *rand.Rand, count int) impl.Nfa {
	var list []impl.NfaOp
	for range count {
		a, b := random.Intn(count+1), random.Intn(count+1)
		list = append(list, ops(noChar('a'), noChar('a'), noChar('b'), noChar(233), noAny(), noSet('a', 'b'), noNone('b', 'b'), noSet('b', 'a', 233, 300), noBegin(), noEnd(), noJump(a), noJump(count), noSplit(a, b), noSplit(a, b), noSplit(min(len(list)+1, count), b), noSplit(a, min(len(list)+1, count)))[random.Intn(16)])
	}
	return nfaWith(list...)
}

func TestReadingOfRandomAutomata(t *testing.T) {
	random := rand.New(rand.NewSource(17))
	matches := 0
	for range 30000 {
		m := randomNfa(random, 1+random.Intn(14))
		s := matchingText(random, random.Intn(12))
		checkReads(t, m, s)
		if _, end := impl.NfaFind(m, s, 0); end > 1 {
			matches++
		}
	}
	if matches < 2500 {
		t.Errorf("only %d automata match", matches)
	}
	for range 100 {
		m := randomNfa(random, 100+random.Intn(400))
		checkReads(t, m, matchingText(random, random.Intn(60)))
	}
}

// TestReadingAtEveryPosition goes over texts of any length, up to the longest one.
func TestReadingAtEveryPosition(t *testing.T) {
	b, over, behind := automaton(t, pattern(t, "b")), automaton(t, pattern(t, "a*b")), automaton(t, pattern(t, "ba*$"))
	for size := 1; size <= impl.MaxText; size = min(size+1+size/63*37, max(size+1, impl.MaxText)) {
		for k := range size {
			if k > 70 && k < size-70 && k%64 > 1 && k%64 < 62 {
				continue
			}
			s := strings.Repeat("a", k) + "b" + strings.Repeat("a", size-k-1)
			at, end := impl.NfaFind(b, s, k/2)
			from, to := impl.NfaFind(over, s, k/2)
			begin, last := impl.NfaFind(behind, s, 0)
			if at != k || end != k+1 || from != k/2 || to != k+1 || begin != k || last != size {
				t.Fatalf("b at %d of %d is found at %d, %d, %d, %d, %d, %d", k, size, at, end, from, to, begin, last)
			}
			checkNothingFound(t, b, s, k+1)
		}
	}
}

// inRing is an automaton of MaxNfa operations, which goes through all of them in a circle. Every nth of them is the
// operation given, and the others are splits that also lead backward, in a few steps to the first one. That one leads
// to NoFits as well, behind a c.
func inRing(op impl.NfaOp, nth int) impl.Nfa {
	last := impl.MaxNfa - 3
	var m impl.Nfa
	for i := range last {
		if i%nth == nth-1 {
			m.Ops = append(m.Ops, op)
		} else {
			m.Ops = append(m.Ops, noSplit(i+1, i/4))
		}
	}
	m.Ops[0] = noSplit(1, last+1)
	return impl.Nfa{Ops: append(m.Ops, noJump(0), noChar('c'), noFits())}
}

func TestReadingOfTheLargestAutomataEndsSoon(t *testing.T) {
	a := strings.Repeat("a", impl.MaxText)
	behind := a[1:] + "c"
	var chain, spread impl.Nfa
	for i := range impl.MaxNfa - 2 {
		chain.Ops = append(chain.Ops, noJump(i+1))
		spread.Ops = append(spread.Ops, noSplit(i+1, 0))
		if i%2 == 1 {
			spread.Ops[i] = noAny()
		}
	}
	chain.Ops = append(chain.Ops, noChar('c'), noFits())
	spread.Ops[impl.MaxNfa-3] = noJump(0)
	spread.Ops[0].B = impl.MaxNfa - 2
	spread.Ops = append(spread.Ops, noChar('c'), noFits())
	for _, c := range []struct {
		name string
		m    impl.Nfa
		s    string
		at   int
		end  int
	}{
		{"a chain", chain, a, -1, -1}, {"a chain", chain, behind, 999, 1000}, {"spread", spread, a, -1, -1}, {"spread", spread, behind, 0, 1000},
		{"a ring of splits", inRing(noJump(0), impl.MaxNfa), a, -1, -1}, {"a ring of splits", inRing(noJump(0), impl.MaxNfa), behind, 999, 1000},
		{"any", inRing(noAny(), 2), a, -1, -1}, {"any", inRing(noAny(), 2), behind, 0, 1000}, {"any, seldom", inRing(noAny(), 1000), a, -1, -1}, {"any, seldom", inRing(noAny(), 1000), behind, 0, 1000}, {"a char", inRing(noChar('a'), 3), behind, 0, 1000}, {"a char", inRing(noChar('a'), 3), a, -1, -1}, {"another char", inRing(noChar('b'), 2), behind, 999, 1000},
		{"long sets", inRing(noSet(slices.Repeat([]int{'b', 'b'}, 400)...), 2), behind, 999, 1000}, {"long sets", inRing(noNone(slices.Repeat([]int{'b', 'b'}, 400)...), 2), a, -1, -1}, {"begin", inRing(noBegin(), 2), a, -1, -1}, {"end", inRing(noEnd(), 2), a, -1, -1}, {"end", inRing(noEnd(), 2), behind, 999, 1000},
		{"only any", manyOps(noAny(), impl.MaxNfa), a, -1, -1}, {"only jumps to themselves", manyOps(noJump(0), impl.MaxNfa), a, -1, -1}, {"only splits", manyOps(noSplit(0, impl.MaxNfa-1), impl.MaxNfa), a, 0, 0}, {"as long as the text", manyOps(noAny(), impl.MaxText+1), a, 0, 1000}, {"longer than the text", manyOps(noAny(), impl.MaxText+2), a, -1, -1},
	} {
		if !impl.NfaSound(c.m) {
			t.Fatalf("%s is not sound", c.name)
		}
		checkFindsSoon(t, c.name, c.m, c.s, 0, c.at, c.end)
	}
	// other code points, and searches from later positions
	faces := strings.Repeat("\U0001f600", 249) + "c"
	checkFindsSoon(t, "faces", inRing(noAny(), 2), faces, 0, 0, 250)
	checkFindsSoon(t, "faces", inRing(noAny(), 2), faces, 200, 200, 250)
	checkFindsSoon(t, "faces", inRing(noAny(), 2), faces, 250, -1, -1)
	checkFindsSoon(t, "any", inRing(noAny(), 2), behind, 500, 500, 1000)
}

func TestReadingFromOutsideOfTheText(t *testing.T) {
	for _, m := range soundAutomata() {
		for _, s := range []string{"", "a", "\u00e9", "\U0001f600a", strings.Repeat("a", 63), strings.Repeat("a", 64), strings.Repeat("a", impl.MaxText), strings.Repeat("\u00e9", impl.MaxText/2)} {
			checkNothingOutside(t, m, s, impl.Length(s))
		}
	}
}

func TestReadingOfAutomataThatAreNotSound(t *testing.T) {
	for _, m := range otherAutomata() {
		for _, s := range []string{"", "a", "ab", "\u00e9", strings.Repeat("a", impl.MaxText), "\xff"} {
			for _, from := range []int{0, 1, impl.Length(s), -1, impl.MaxText + 1} {
				checkNothingFound(t, m, s, from)
			}
		}
	}
}

func TestReadingOfStringsThatAreNotTexts(t *testing.T) {
	for _, m := range []impl.Nfa{nfaWith(), nfaWith(noAny()), nfaWith(noBegin()), nfaWith(noEnd()), nfaWith(noNone()), nfaWith(noSplit(1, 3), noAny(), noJump(0)), nfaWith(noChar(0xfffd)), nfaWith(noJump(0))} {
		for _, s := range append(notTexts(), strings.Repeat("\u00e9", impl.MaxText/2+1), strings.Repeat("\U0001f600", impl.MaxText/4+1)) {
			for _, from := range []int{0, 1, len(s), utf8.RuneCountInString(s), -1, math.MaxInt} {
				checkNothingFound(t, m, s, from)
			}
		}
	}
}

// spareOp is what is behind the operations of a roomyNfa.
func spareOp() impl.NfaOp {
	return impl.NfaOp{Op: impl.NoFits, A: -5, Set: []int{1}}
}

// roomyNfa returns m with spare room behind each of its lists.
func roomyNfa(m impl.Nfa) impl.Nfa {
	var n impl.Nfa
	for _, op := range m.Ops {
		op.Set = roomy(op.Set)
		n.Ops = append(n.Ops, op)
	}
	n.Ops = append(n.Ops, spareOp())[:len(m.Ops)]
	return n
}

// checkSameOps holds that n is what roomyNfa made of m, also behind its lists.
func checkSameOps(t *testing.T, n impl.Nfa, m impl.Nfa) {
	t.Helper()
	for i, op := range n.Ops {
		if !slices.Equal(op.Set[len(op.Set):len(op.Set)+4], []int{-77, 3, 'x', 1 << 40}) {
			t.Errorf("what is behind the set of operation %d of %v is changed", i, m)
		}
	}
	if !sameNfa(n, m) || !reflect.DeepEqual(n.Ops[:len(n.Ops)+1][len(n.Ops)], spareOp()) {
		t.Errorf("%v is changed", m)
	}
}

// TestAutomataChangeNothing also has spare room behind the lists of the pattern and of the automaton, which is
// neither read nor written.
func TestAutomataChangeNothing(t *testing.T) {
	for _, p := range []string{"", "a(b|c)*", "[^a-c[:digit:]]{2,3}", "(ab|())+$", "(a{2,}|^b)*c", "a*|[x-z]{0}", "([ab]+|[^a]){2,}"} {
		x := pattern(t, p)
		y := roomyRx(x)
		m := checkAutomaton(t, x)
		n := roomyNfa(m)
		// Nothing is kept either: the same call returns the same again, whatever came between.
		for range 2 {
			if !sameNfa(checkAutomaton(t, y), m) || !impl.NfaSound(n) {
				t.Errorf("what is behind the lists of %q is read", p)
			}
			for _, s := range []string{"", "a", "abcbc", "xx9y", "ababc", "baac"} {
				checkReads(t, n, s)
				checkFinds(t, x, n, s)
			}
		}
		checkUntouched(t, y, x)
		checkSameOps(t, n, m)
	}
	for _, m := range soundAutomata() {
		n := roomyNfa(m)
		impl.NfaFind(n, "ab", 0)
		checkSameOps(t, n, m)
	}
	// lists of length 0 with something behind them
	if impl.NfaSound(impl.Nfa{Ops: roomyNfa(nfaWith()).Ops[:0]}) {
		t.Error("what is behind no operations is read")
	}
	unchanged := otherAutomata()
	for i, m := range otherAutomata() {
		impl.NfaSound(m)
		impl.NfaFind(m, "ab", 0)
		if !sameNfa(m, unchanged[i]) {
			t.Errorf("the automaton %d is changed", i)
		}
	}
	faulty := append(notSound(), sharedNodes()...)
	for i, x := range append(notSound(), sharedNodes()...) {
		impl.NfaOf(x)
		if !sameRx(x, faulty[i]) {
			t.Errorf("the pattern %d is changed", i)
		}
	}
}
