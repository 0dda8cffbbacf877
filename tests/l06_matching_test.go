package tests

import (
	"math"
	"math/rand"
	"regexp"
	"slices"
	"strings"
	"testing"
	"time"
	"unicode/utf8"

	"loop.example/g00417/impl"
)

// relation has for each position of a short text the positions that something leads to, as bits.
type relation []uint64

func (r relation) then(s relation) relation {
	out := make(relation, len(r))
	for p := range r {
		for q := range s {
			if r[p]>>q&1 == 1 {
				out[p] |= s[q]
			}
		}
	}
	return out
}

func (r relation) or(s relation) relation {
	out := slices.Clone(r)
	for p := range out {
		out[p] |= s[p]
	}
	return out
}

// stays leads from each position that holds to itself.
func stays(size int, holds func(p int) bool) relation {
	out := make(relation, size)
	for p := range out {
		if holds(p) {
			out[p] = 1 << p
		}
	}
	return out
}

// steps leads over each code point that fits.
func steps(points []int, fits func(c int) bool) relation {
	out := make(relation, len(points)+1)
	for p, c := range points {
		if fits(c) {
			out[p] = 1 << (p + 1)
		}
	}
	return out
}

func anywhere(int) bool { return true }

// secondHas is RxHas by other means.
func secondHas(set []int, neg bool, c int) bool {
	return neg != slices.ContainsFunc(slices.Collect(slices.Chunk(set, 2)), func(item []int) bool {
		return len(item) == 2 && max(item[0], c) == c && min(item[1], c) == c
	})
}

// secondLeads is what the node i leads to, by its definition: a repetition goes through the powers of its
// kid. More than all positions in addition to lo times lead nowhere else.
func secondLeads(x impl.Rx, i int, points []int) relation {
	node, size := x.Nodes[i], len(points)+1
	same := stays(size, anywhere)
	switch node.Kind {
	case impl.RxEmpty:
		return same
	case impl.RxChar:
		return steps(points, func(c int) bool { return c == node.Lo })
	case impl.RxAny:
		return steps(points, anywhere)
	case impl.RxSet:
		return steps(points, func(c int) bool { return secondHas(node.Set, node.Neg, c) })
	case impl.RxBegin:
		return stays(size, func(p int) bool { return p == 0 })
	case impl.RxEnd:
		return stays(size, func(p int) bool { return p == len(points) })
	case impl.RxCat:
		for _, kid := range node.Kids {
			same = same.then(secondLeads(x, kid, points))
		}
		return same
	}
	out := make(relation, size)
	if node.Kind == impl.RxAlt {
		for _, kid := range node.Kids {
			out = out.or(secondLeads(x, kid, points))
		}
		return out
	}
	kid, most := secondLeads(x, node.Kids[0], points), node.Hi
	if most == -1 {
		most = node.Lo + size
	}
	for times := 0; times <= most; times++ {
		if times >= node.Lo {
			out = out.or(same)
		}
		same = same.then(kid)
	}
	return out
}

// greatest is the greatest position in a set of them, or -1.
func greatest(set uint64) int {
	last := -1
	for p := range 64 {
		if set>>p&1 == 1 {
			last = p
		}
	}
	return last
}

// checkMatches holds RxMatch, RxFind and RxFits over a text of less than 64 code points, from every
// position and from outside of the text, against the definition.
func checkMatches(t *testing.T, x impl.Rx, s string) {
	t.Helper()
	points, _ := impl.Runes(s)
	leads := secondLeads(x, len(x.Nodes)-1, points)
	at, end := -1, -1
	for from := len(points); from >= 0; from-- {
		want := greatest(leads[from])
		if want >= 0 {
			at, end = from, want
		}
		if got := impl.RxMatch(x, s, from); got != want {
			t.Fatalf("RxMatch of %q, %q from %d returns %d, not %d", impl.RxText(x), s, from, got, want)
		}
		if gotAt, gotEnd := impl.RxFind(x, s, from); gotAt != at || gotEnd != end {
			t.Fatalf("RxFind of %q, %q from %d returns %d, %d, not %d, %d", impl.RxText(x), s, from, gotAt, gotEnd, at, end)
		}
	}
	if got := impl.RxFits(x, s); got != (at >= 0) {
		t.Fatalf("RxFits of %q, %q is %v", impl.RxText(x), s, got)
	}
	checkOutside(t, x, s, len(points))
}

// checkOutside holds that nothing is found from positions outside of 0..length.
func checkOutside(t *testing.T, x impl.Rx, s string, length int) {
	t.Helper()
	for _, from := range []int{-1, length + 1, -2, length + 2, -64, length + 64, math.MinInt, math.MaxInt, math.MaxInt - 1, 1 << 32} {
		checkNoMatch(t, x, s, from)
	}
}

func checkNoMatch(t *testing.T, x impl.Rx, s string, from int) {
	t.Helper()
	if got := impl.RxMatch(x, s, from); got != -1 {
		t.Fatalf("RxMatch of %.40q, %.20q from %d returns %d", impl.RxText(x), s, from, got)
	}
	if at, end := impl.RxFind(x, s, from); at != -1 || end != -1 {
		t.Fatalf("RxFind of %.40q, %.20q from %d returns %d, %d", impl.RxText(x), s, from, at, end)
	}
}

// libraryFind is RxFind from 0 over any text by the library, which takes the text of a pattern as it is.
func libraryFind(x impl.Rx, s string) (int, int) {
	form := regexp.MustCompile("(?s)(?:" + impl.RxText(x) + ")")
	form.Longest()
	ends := form.FindStringIndex(s)
	if ends == nil {
		return -1, -1
	}
	return utf8.RuneCountInString(s[:ends[0]]), utf8.RuneCountInString(s[:ends[1]])
}

func checkLibrary(t *testing.T, x impl.Rx, s string) {
	t.Helper()
	wantAt, wantEnd := libraryFind(x, s)
	at, end := impl.RxFind(x, s, 0)
	if at != wantAt || end != wantEnd || impl.RxFits(x, s) != (at >= 0) || at >= 0 && impl.RxMatch(x, s, at) != end {
		t.Fatalf("RxFind of %q, %.70q returns %d, %d, not %d, %d", impl.RxText(x), s, at, end, wantAt, wantEnd)
	}
}

// found is what a pattern finds in a text from a position: where it begins and where it ends.
type found struct {
	pattern string
	s       string
	from    int
	at      int
	end     int
}

func checkFound(t *testing.T, list []found) {
	t.Helper()
	for _, c := range list {
		x := pattern(t, c.pattern)
		if at, end := impl.RxFind(x, c.s, c.from); at != c.at || end != c.end {
			t.Errorf("RxFind of %q, %q from %d returns %d, %d, not %d, %d", c.pattern, c.s, c.from, at, end, c.at, c.end)
		}
		want := -1
		if c.at == c.from {
			want = c.end
		}
		if got := impl.RxMatch(x, c.s, c.from); got != want {
			t.Errorf("RxMatch of %q, %q from %d returns %d, not %d", c.pattern, c.s, c.from, got, want)
		}
		checkMatches(t, x, c.s)
	}
}

func TestExamplesOfMatching(t *testing.T) {
	x := pattern(t, "a+|ab")
	if at, end := impl.RxFind(x, "xaab", 0); at != 1 || end != 3 {
		t.Error("RxFind of a+|ab in xaab returns", at, end)
	}
	if got := impl.RxMatch(x, "xaab", 2); got != 4 {
		t.Error("RxMatch of a+|ab in xaab from 2 returns", got)
	}
	if !impl.RxHas([]int{97, 99}, false, 98) {
		t.Error("98 is not in 97..99")
	}
	checkMatches(t, x, "xaab")
}

func TestHas(t *testing.T) {
	for _, c := range []struct {
		set []int
		c   int
		has bool
	}{
		// no items
		{nil, 'a', false}, {[]int{}, 'a', false}, {nil, 0, false}, {nil, -1, false}, {[]int{'a', 'c'}[:0], 'b', false},
		// a last element without a greatest one
		{[]int{'a'}, 'a', false}, {[]int{'a'}, 'b', false}, {[]int{'a', 'c', 'x'}, 'x', false}, {[]int{'a', 'c', 'x'}, 'b', true}, {[]int{0}, 0, false}, {[]int{'a', 'c'}[:1], 'b', false}, {[]int{'a', 'c', 'x', 'z'}[:3], 'y', false},
		// ends in the wrong order
		{[]int{'c', 'a'}, 'a', false}, {[]int{'c', 'a'}, 'b', false}, {[]int{'c', 'a'}, 'c', false}, {[]int{'c', 'a', 'a', 'c'}, 'b', true}, {[]int{'a', 'c', 'c', 'a'}, 'b', true}, {[]int{'b', 'a'}, 'a', false}, {[]int{'b', 'a'}, 'b', false},
		// both ends and what is outside of them
		{[]int{'b', 'd'}, 'a', false}, {[]int{'b', 'd'}, 'b', true}, {[]int{'b', 'd'}, 'c', true}, {[]int{'b', 'd'}, 'd', true}, {[]int{'b', 'd'}, 'e', false}, {[]int{'b', 'b'}, 'a', false}, {[]int{'b', 'b'}, 'b', true}, {[]int{'b', 'b'}, 'c', false},
		// several items, in any order, one in another, and the gap between them
		{[]int{'x', 'z', 'a', 'c'}, 'a', true}, {[]int{'x', 'z', 'a', 'c'}, 'z', true}, {[]int{'x', 'z', 'a', 'c'}, 'm', false}, {[]int{'a', 'z', 'c', 'd'}, 'x', true}, {[]int{'c', 'd', 'a', 'z'}, 'x', true}, {[]int{'a', 'c', 'd', 'f'}, 'd', true}, {[]int{'a', 'b', 'd', 'e'}, 'c', false}, {[]int{'a', 'a', 'a', 'a'}, 'a', true},
		// the greatest of an item is not the least of another
		{[]int{'a', 'c', 'e', 'g'}, 'd', false}, {[]int{1, 5, 3, 2, 9, 9}, 4, true}, {[]int{5, 1, 7, 2, 9, 9}, 3, false},
		// numbers that are no code points
		{[]int{-5, -1}, -3, true}, {[]int{-5, -1}, -6, false}, {[]int{-5, -1}, 0, false}, {[]int{0, 0}, 0, true}, {[]int{-1, 1}, 0, true}, {[]int{55296, 57343}, 56000, true}, {[]int{1, 1114111}, 56000, true}, {[]int{1, 1114111}, 1114112, false}, {[]int{1, 1114111}, 0, false}, {[]int{1114112, math.MaxInt}, math.MaxInt, true},
		{[]int{math.MinInt, math.MaxInt}, math.MinInt, true}, {[]int{math.MinInt, math.MaxInt}, math.MaxInt, true}, {[]int{math.MaxInt, math.MinInt}, 0, false}, {[]int{'a', 'c'}, 1<<32 + 'b', false}, {[]int{1<<32 + 'a', 1<<32 + 'c'}, 'b', false}, {[]int{'a', 'c'}, -'b', false}, {[]int{'a', 'c'}, 256 + 'b', false},
	} {
		if got := impl.RxHas(c.set, false, c.c); got != c.has {
			t.Errorf("RxHas(%v, false, %d) is %v", c.set, c.c, got)
		}
		if got := impl.RxHas(c.set, true, c.c); got == c.has {
			t.Errorf("RxHas(%v, true, %d) is %v", c.set, c.c, got)
		}
	}
}

func TestHasByDefinition(t *testing.T) {
	random := rand.New(rand.NewSource(12))
	for range 200000 {
		set := make([]int, random.Intn(8))
		for i := range set {
			set[i] = random.Intn(12) - 2
		}
		c, neg := random.Intn(14)-3, random.Intn(2) == 0
		spare := roomy(set)
		if got := impl.RxHas(spare, neg, c); got != secondHas(set, neg, c) {
			t.Fatalf("RxHas(%v, %v, %d) is %v", set, neg, c, got)
		}
		if !slices.Equal(spare[:len(set)+4], append(set, -77, 3, 'x', 1<<40)) {
			t.Fatalf("RxHas changes %v", set)
		}
	}
}

func TestMatchesOfEachKind(t *testing.T) {
	checkFound(t, []found{
		// RxEmpty
		{"", "", 0, 0, 0}, {"", "abc", 0, 0, 0}, {"", "abc", 2, 2, 2}, {"", "abc", 3, 3, 3}, {"()", "ab", 1, 1, 1}, {"a()b", "ab", 0, 0, 2}, {"()a", "ba", 0, 1, 2}, {"a|", "ba", 0, 0, 0}, {"|a", "ba", 1, 1, 2}, {"()*", "ab", 1, 1, 1},
		// RxChar
		{"a", "", 0, -1, -1}, {"a", "a", 0, 0, 1}, {"a", "a", 1, -1, -1}, {"a", "b", 0, -1, -1}, {"a", "bab", 0, 1, 2}, {"a", "bab", 1, 1, 2}, {"a", "bab", 2, -1, -1}, {"a", "A", 0, -1, -1}, {`\n`, "a\nb", 0, 1, 2}, {`\t`, " \t", 0, 1, 2}, {`\r`, "\n\r", 0, 1, 2}, {`\.`, "a.", 0, 1, 2}, {`\*\\`, `a*\`, 0, 1, 3},
		// RxAny is any code point, also the end of a line
		{".", "", 0, -1, -1}, {".", "\n", 0, 0, 1}, {".", "\x01", 0, 0, 1}, {".", "\U0010ffff", 0, 0, 1}, {".", "ab", 1, 1, 2}, {".", "ab", 2, -1, -1}, {"..", "abc", 0, 0, 2}, {"a.c", "a\nc", 0, 0, 3}, {"a.c", "aac", 0, 0, 3}, {".a", "a", 0, -1, -1}, {"a.", "ba", 0, -1, -1},
		// RxSet
		{"[b-d]", "abcde", 0, 1, 2}, {"[b-d]+", "abcde", 0, 1, 4}, {"[^b-d]", "bcde", 0, 3, 4}, {"[^b-d]+", "abcde", 0, 0, 1}, {"[^a]", "", 0, -1, -1}, {"[^a]", "\n", 0, 0, 1}, {"[[:digit:]_]+", "a12_3b", 0, 1, 5}, {"[^[:space:]]+", " ab\tc", 0, 1, 3}, {"[]]", "a]", 0, 1, 2}, {"[^]]", "]a", 0, 1, 2}, {"[a-]+", "b-a-", 0, 1, 4},
		// RxCat
		{"ab", "aab", 0, 1, 3}, {"abc", "abab", 0, -1, -1}, {"aab", "aaab", 0, 1, 4}, {"ab", "ba", 0, -1, -1}, {"a(bc)d", "xabcd", 0, 1, 5},
		// RxAlt
		{"a|b", "cba", 0, 1, 2}, {"ab|cd", "acd", 0, 1, 3}, {"x|y|z", "az", 0, 1, 2}, {"(a|b)(c|d)", "acbd", 0, 0, 2}, {"(a|b)(c|d)", "adbc", 1, 2, 4},
	})
}

func TestBeginAndEnd(t *testing.T) {
	checkFound(t, []found{
		// alone
		{"^", "", 0, 0, 0}, {"^", "ab", 0, 0, 0}, {"^", "ab", 1, -1, -1}, {"^", "ab", 2, -1, -1}, {"$", "", 0, 0, 0}, {"$", "ab", 0, 2, 2}, {"$", "ab", 1, 2, 2}, {"$", "ab", 2, 2, 2}, {"^$", "", 0, 0, 0}, {"^$", "a", 0, -1, -1}, {"$^", "", 0, 0, 0}, {"$^", "a", 0, -1, -1}, {"^^", "a", 0, 0, 0}, {"$$", "a", 0, 1, 1},
		// not at the ends of lines, nor at the position from which it is searched
		{"^", "\n", 1, -1, -1}, {"$", "\n", 0, 1, 1}, {"^b", "a\nb", 0, -1, -1}, {"a$", "a\nb", 0, -1, -1}, {"a$", "a\n", 0, -1, -1}, {"^a", "aa", 1, -1, -1}, {"^a", "ba", 0, -1, -1}, {"^a", "ba", 1, -1, -1},
		// in sequences: at the beginning, in the middle and at the end
		{"^a", "aa", 0, 0, 1}, {"a$", "aa", 0, 1, 2}, {"^a$", "a", 0, 0, 1}, {"^a$", "aa", 0, -1, -1}, {"a^", "a", 0, -1, -1}, {"$a", "a", 0, -1, -1}, {"a^b", "ab", 0, -1, -1}, {"a$b", "ab", 0, -1, -1}, {"a*^b", "ab", 0, -1, -1}, {"a*^b", "b", 0, 0, 1}, {"a$b*", "ca", 0, 1, 2}, {"a?$b?", "ab", 0, 2, 2}, {"^()a", "a", 0, 0, 1}, {"()^a", "a", 0, 0, 1}, {"a()$", "a", 0, 0, 1}, {"a$()", "a", 0, 0, 1}, {"^b*$", "bbb", 0, 0, 3}, {"^b*$", "ab", 0, -1, -1}, {"^b*$", "", 0, 0, 0}, {"b*$", "abb", 0, 1, 3}, {"^a*", "baa", 0, 0, 0},
		// in alternatives
		{"^|a", "ba", 0, 0, 0}, {"^|a", "ba", 1, 1, 2}, {"a|$", "ba", 0, 1, 2}, {"a|$", "bb", 0, 2, 2}, {"^a|b", "ab", 1, 1, 2}, {"a|b$", "bab", 0, 1, 2}, {"a|b$", "bbb", 0, 2, 3}, {"^|$", "ab", 0, 0, 0}, {"^|$", "ab", 1, 2, 2}, {"(^|b)a", "aba", 0, 0, 1}, {"(^|b)a", "aba", 1, 1, 3}, {"a(b|$)", "aab", 0, 1, 3}, {"a(b|$)", "aba", 1, 2, 3}, {"(^|$)a", "a", 0, 0, 1}, {"a(^|$)", "a", 0, 0, 1},
		// in repetitions
		{"(^)*", "a", 0, 0, 0}, {"(^)*", "a", 1, 1, 1}, {"^*a", "ba", 0, 1, 2}, {"^+a", "ba", 0, -1, -1}, {"^+a", "ab", 0, 0, 1}, {"(^){3}a", "a", 0, 0, 1}, {"(^){3}a", "ba", 0, -1, -1}, {"(^){0}a", "ba", 0, 1, 2}, {"$*", "a", 0, 0, 0}, {"$+", "a", 0, 1, 1}, {"a($)*", "ab", 0, 0, 1}, {"a($)+", "ab", 0, -1, -1}, {"a$?", "ab", 0, 0, 1}, {"a${2,}", "ba", 0, 1, 2}, {"(^a)*", "aa", 0, 0, 1}, {"(^a)*", "aa", 1, 1, 1}, {"(^a)+", "baa", 0, -1, -1}, {"(^a){2}", "aa", 0, -1, -1}, {"(a$)*", "aa", 0, 0, 0}, {"(a$)+", "aa", 0, 1, 2}, {"(a$){2}", "aa", 0, -1, -1}, {"(^|a)*", "aab", 0, 0, 2}, {"(^|a){4}", "aab", 0, 0, 2}, {"(^|a){2}", "aab", 1, -1, -1}, {"(a|$)*", "aab", 0, 0, 2}, {"(a|$){4}", "aa", 0, 0, 2}, {"(a|$){4}", "aab", 0, 3, 3}, {"(^a*$)+", "aaa", 0, 0, 3}, {"(^*a$*)+", "baa", 0, 1, 3},
	})
}

func TestLongestMatches(t *testing.T) {
	checkFound(t, []found{
		// by an alternative that comes later
		{"a|ab", "ab", 0, 0, 2}, {"ab|a", "ab", 0, 0, 2}, {"a|ab|abc", "abcd", 0, 0, 3}, {"|a", "a", 0, 0, 1}, {"a|", "a", 0, 0, 1}, {"(a|ab)(c|bcd)", "abcd", 0, 0, 4}, {"(a|ab)(bcd|c)", "abcd", 0, 0, 4}, {"(|a)(|b)(|c)", "abc", 0, 0, 3}, {"(a|ab)(b|)", "abb", 0, 0, 3}, {"a(b|bc)?", "abc", 0, 0, 3}, {"(a|ab|b)*c", "xababc", 0, 1, 6}, {"(a|abc|b)*", "ababca", 0, 0, 6}, {"x*|b", "b", 0, 0, 1}, {"(a|aab)*", "aaab", 0, 0, 4},
		// by fewer times of an earlier repetition
		{"a*ab", "aaab", 0, 0, 4}, {"a*(ab)?", "aab", 0, 0, 3}, {"a?(ab)?", "ab", 0, 0, 2}, {"a?(ab)?", "aab", 0, 0, 3}, {"a+(ab)*", "aabab", 0, 0, 5}, {"a*(aab|b)", "aaaab", 0, 0, 5}, {"(ab?)*(bc)?", "ababc", 0, 0, 5}, {"a{0,2}(abb)?", "aabb", 0, 0, 4}, {"a{1,3}(aaaaa)?", "aaaaaa", 0, 0, 6}, {"(aa)*(aaa)?", "aaaaa", 0, 0, 5}, {"(a|ab)*bc", "aababc", 0, 0, 6}, {".*a", "babab", 0, 0, 4}, {"[ab]*b", "abba", 0, 0, 3}, {"(a*b?)(bbc)?", "aabbc", 0, 0, 5},
		// from the first position, even if a later match is longer
		{"a|bbb", "abbb", 0, 0, 1}, {"a*", "baaa", 0, 0, 0}, {"a*", "baaa", 1, 1, 4}, {"ab|b+", "abbb", 0, 0, 2}, {"ab|b+", "abbb", 1, 1, 4}, {"b|abc|cdefg", "xabcdefg", 0, 1, 4}, {"a+|ab", "xaab", 0, 1, 3}, {"a+|ab", "xaab", 2, 2, 4}, {"", "abc", 0, 0, 0},
		// a match that begins earlier is not one if it does not end
		{"aab|b", "aaaab", 0, 2, 5}, {"abcd|bc", "abce", 0, 1, 3}, {"a*c|b", "aaab", 0, 3, 4}, {"(ab)*c|b", "ababab", 0, 1, 2}, {"(a|b)*c|a$", "ababa", 0, 4, 5}, {"a*b*c|b+", "aabb", 0, 2, 4}, {"((a*b)*c)*d|a", "babca", 0, 1, 2},
	})
}

func TestRepetitionsThatLeadToThemselves(t *testing.T) {
	checkFound(t, []found{
		{"(a*)*", "", 0, 0, 0}, {"(a*)*", "aab", 0, 0, 2}, {"(a*)*", "b", 0, 0, 0}, {"(a*)+", "baa", 0, 0, 0}, {"(a*)+", "baa", 1, 1, 3}, {"(a*)*b", "aab", 0, 0, 3}, {"(a*)+b", "caab", 0, 1, 4}, {"(a*){3}", "aab", 0, 0, 2}, {"(a*){3}b", "b", 0, 0, 1}, {"(a*){2,}b", "aab", 0, 0, 3}, {"(a?)*", "aaa", 0, 0, 3}, {"(a?)+b", "aab", 0, 0, 3}, {"(a?){3}", "aaaa", 0, 0, 3}, {"(a?){2,}", "aaaa", 0, 0, 4}, {"((a*)*)*b", "aab", 0, 0, 3}, {"((a+)+)+b", "aab", 0, 0, 3}, {"((a?)?)?b", "aab", 0, 1, 3},
		{"(|a){3}", "", 0, 0, 0}, {"(|a){3}", "a", 0, 0, 1}, {"(|a){3}", "aaaa", 0, 0, 3}, {"(|a){3}b", "aab", 0, 0, 3}, {"(|a)*", "aab", 0, 0, 2}, {"(|a)+", "aab", 0, 0, 2}, {"(a|)+", "baa", 1, 1, 3}, {"(|a){2,}", "aaaab", 0, 0, 4}, {"(|a){2,3}", "aaaab", 0, 0, 3}, {"(|a)?", "aa", 0, 0, 1}, {"(|a|bb)*", "abbab", 0, 0, 4},
		{"()*", "", 0, 0, 0}, {"()+", "", 0, 0, 0}, {"()+", "ab", 1, 1, 1}, {"(()*)*", "ab", 2, 2, 2}, {"(()+)+a", "ba", 0, 1, 2}, {"(){5}", "a", 0, 0, 0}, {"(){60}a", "ba", 0, 1, 2}, {"(){3,}", "a", 1, 1, 1}, {"(){0,3}a", "a", 0, 0, 1}, {"(|)*a", "ba", 0, 1, 2}, {"(^*)*", "a", 0, 0, 0}, {"(^*)*", "a", 1, 1, 1}, {"($*)*", "a", 0, 0, 0}, {"(^*|a)*b", "aab", 0, 0, 3}, {"($|a)*b", "aab", 0, 0, 3}, {"(a*|b*)*", "abbac", 0, 0, 4}, {"(a*b*)*", "abbac", 0, 0, 4}, {"(a*b*)+c", "abbac", 0, 0, 5}, {"(a*^b*)*c", "abc", 0, 2, 3}, {"(a*$b*)*", "aab", 0, 0, 0},
	})
}

func TestLimitsOfRepetitions(t *testing.T) {
	checkFound(t, []found{
		// {0} leads to itself, whatever its kid is
		{"a{0}", "a", 0, 0, 0}, {"a{0}b", "ab", 0, 1, 2}, {"a{0,0}b", "ab", 0, 1, 2}, {"(a{60}){0}", "a", 1, 1, 1}, {"(^){0}a", "ba", 0, 1, 2}, {"(a{0})*b", "ab", 0, 1, 2}, {"(a{0}){60}b", "ab", 0, 1, 2}, {"(a*){0}b", "ab", 0, 1, 2},
		// lo equal to hi
		{"a{1}", "aaa", 0, 0, 1}, {"a{2}", "aaa", 0, 0, 2}, {"a{2}", "aaa", 1, 1, 3}, {"a{2}", "aaa", 2, -1, -1}, {"a{3}", "baaaa", 0, 1, 4}, {"(ab){2}", "ababab", 0, 0, 4}, {"(ab){2}", "aabab", 0, 1, 5}, {"(a|bb){2}", "abba", 0, 0, 3}, {"a{2}b", "aaab", 0, 1, 4}, {"(a{2}){3}", "aaaaaaa", 0, 0, 6}, {"(a{2}){3}", "aaaaa", 0, -1, -1},
		// lo greater than what the text has
		{"a{3}", "aa", 0, -1, -1}, {"a{60}", "aaaa", 0, -1, -1}, {"a{4,}", "aaa", 0, -1, -1}, {"a{4,60}", "aaa", 0, -1, -1}, {"a{60,}", "a", 0, -1, -1}, {"a+", "", 0, -1, -1}, {"a{4,}|b", "aaab", 0, 3, 4}, {"(a*b){3}", "abaab", 0, -1, -1}, {"(a?b){3,}", "abbc", 0, -1, -1},
		// between lo and hi
		{"a?", "aa", 0, 0, 1}, {"a?", "b", 0, 0, 0}, {"a{0,2}", "aaa", 0, 0, 2}, {"a{1,2}", "aaa", 0, 0, 2}, {"a{1,2}", "baaa", 0, 1, 3}, {"a{2,3}", "aaaa", 0, 0, 3}, {"a{2,3}", "aa", 0, 0, 2}, {"a{2,3}", "a", 0, -1, -1}, {"a{2,3}b", "aaaab", 0, 1, 5}, {"a{0,60}b", "aaab", 0, 0, 4}, {"(a{1,2}){2}", "aaaaa", 0, 0, 4}, {"(a{1,2}){2}", "aa", 0, 0, 2}, {"(a{2,3}){2}$", "aaaaa", 0, 0, 5}, {"(ab|c){1,2}", "abcab", 0, 0, 3},
		// without an upper limit
		{"a*", "aaa", 0, 0, 3}, {"a+", "aaa", 1, 1, 3}, {"a{0,}", "aaa", 0, 0, 3}, {"a{1,}", "baaa", 0, 1, 4}, {"a{2,}", "aaa", 0, 0, 3}, {"a{2,}", "aaa", 1, 1, 3}, {"a{2,}", "aaa", 2, -1, -1}, {"(ab){2,}", "abababa", 0, 0, 6}, {"(ab){2,}", "abaabab", 0, 3, 7}, {"(a{2,}){2,}", "aaaaa", 0, 0, 5}, {"(a{2,}){2,}", "aaa", 0, -1, -1}, {"(a{2,}b){2,}", "aabaaab", 0, 0, 7}, {"(a{2,}b){2,}", "aabab", 0, -1, -1}, {"(aa|aaa){2,}$", "aaaaaaa", 0, 0, 7},
	})
	for size := range 62 {
		s := strings.Repeat("a", size)
		for lo := range impl.MaxTimes + 1 {
			for _, hi := range []int{-1, lo, min(lo+1, impl.MaxTimes), impl.MaxTimes} {
				times, _ := timesText(lo, hi)
				want := -1
				if size >= lo {
					want = size
				}
				if hi >= 0 {
					want = min(want, hi)
				}
				if got := impl.RxMatch(pattern(t, "a"+times), s, 0); got != want {
					t.Fatalf("RxMatch of a%s over %d code points returns %d, not %d", times, size, got, want)
				}
			}
		}
	}
}

func TestMatchesOfOtherCodePoints(t *testing.T) {
	checkFound(t, []found{
		{"b", "\u00e9b", 0, 1, 2}, {"b", "\u8a9eb", 0, 1, 2}, {"b", "\U0001f600b", 0, 1, 2}, {"b", "\u00e9b", 1, 1, 2}, {"b", "\u00e9b", 2, -1, -1}, {"b", "e\u0301b", 0, 2, 3}, {"\u00e9", "e\u0301\u00e9", 0, 2, 3}, {"\U0001f600+", "\u00e9\U0001f600\U0001f600\u00e9", 0, 1, 3}, {"$", "\u00e9\u8a9e\U0001f600", 0, 3, 3}, {".", "\U0001f600\u00e9", 1, 1, 2}, {"..", "\U0001f600\u00e9", 0, 0, 2}, {"...", "\U0001f600\u00e9", 0, -1, -1}, {".{3}", "\u00e9\u8a9e\U0001f600", 0, 0, 3},
		{"(a|\u00e9){2}", "x\u00e9aa", 0, 1, 3}, {"[\u00e9-\u8a9e]+", "a\u00e8\u00e9\u8a9e\u8a9f", 0, 2, 4}, {"[^\u00e9]+", "\u00e9a\U0001f600\u00e9", 0, 1, 3}, {"[\U0001f600-\U0010ffff]", "\uffff\U0010ffff", 0, 1, 2}, {"[^a-z]", "a\u00e9", 0, 1, 2}, {"[[:alpha:]]+", "\u00e9a\u00e9", 0, 1, 2}, {"[[:space:]]", "\u00a0 ", 0, 1, 2}, {"[\x01-\U0010ffff]*", "\x01\ud7ff\ue000\U0010ffff", 0, 0, 4}, {"\ufffd", "\ufffd", 0, 0, 1}, {"^\u8a9e$", "\u8a9e", 0, 0, 1},
		// the parts of a code point are not found in it
		{"\u00a9", "\u00e9", 0, -1, -1}, {"[\u0080-\u00bf]", "\u00e9\u8a9e\U0001f600", 0, -1, -1},
	})
}

// TestMatchesAtEveryPosition goes over texts of any length, up to the longest one.
func TestMatchesAtEveryPosition(t *testing.T) {
	b, over, behind, upTo := pattern(t, "b"), pattern(t, "a*b"), pattern(t, "ba*$"), pattern(t, "^a*b")
	for size := 1; size <= impl.MaxText; size = min(size+1+size/63*37, max(size+1, impl.MaxText)) {
		for k := range size {
			if k > 70 && k < size-70 && k%64 > 1 && k%64 < 62 {
				continue
			}
			s := strings.Repeat("a", k) + "b" + strings.Repeat("a", size-k-1)
			at, end := impl.RxFind(b, s, k/2)
			from, to := impl.RxFind(over, s, k/2)
			begin, last := impl.RxFind(behind, s, 0)
			if at != k || end != k+1 || from != k/2 || to != k+1 || begin != k || last != size || impl.RxMatch(upTo, s, 0) != k+1 || impl.RxMatch(b, s, k) != k+1 {
				t.Fatalf("b at %d of %d is found at %d, %d, %d, %d, %d, %d", k, size, at, end, from, to, begin, last)
			}
			if at, end = impl.RxFind(b, s, k+1); at != -1 || end != -1 {
				t.Fatalf("b at %d of %d is found behind it, at %d, %d", k, size, at, end)
			}
		}
	}
}

func TestMatchesOfTheLongestTexts(t *testing.T) {
	for _, one := range []string{"a", "\u00e9", "\u8a9e", "\U0001f600"} {
		s := strings.Repeat(one, impl.MaxText/len(one))
		length := impl.Length(s)
		for _, c := range []struct {
			pattern string
			from    int
			at      int
			end     int
		}{
			{"", length, length, length}, {"$", 0, length, length}, {".*", 0, 0, length}, {".*", length, length, length}, {".", length - 1, length - 1, length}, {".", length, -1, -1}, {one + "+$", 1, 1, length}, {"(.{60}){2}", 3, 3, 123}, {".{60}", length - 60, length - 60, length}, {".{60}", length - 59, -1, -1}, {"^.", 1, -1, -1}, {"..$", 0, length - 2, length}, {one + "*b", 0, -1, -1}, {"b*", length, length, length}, {"(.|..)*$", length - 1, length - 1, length},
		} {
			x := pattern(t, c.pattern)
			if at, end := impl.RxFind(x, s, c.from); at != c.at || end != c.end {
				t.Errorf("RxFind of %q over %d times %q from %d returns %d, %d", c.pattern, length, one, c.from, at, end)
			}
			if c.from == 0 {
				checkLibrary(t, x, s)
			}
			checkOutside(t, x, s, length)
		}
	}
}

func TestPositionsOutsideOfTheText(t *testing.T) {
	for _, p := range []string{"", "a", "a*", "^", "$", "^$", ".*", "(|a)*", "a{0}", "[^a]*"} {
		x := pattern(t, p)
		for _, s := range []string{"", "a", "aa", "\u00e9", "\U0001f600a", strings.Repeat("a", 63), strings.Repeat("a", 64), strings.Repeat("a", 65), strings.Repeat("a", impl.MaxText), strings.Repeat("\u00e9", impl.MaxText/2)} {
			checkOutside(t, x, s, impl.Length(s))
		}
		// positions count code points, not bytes
		checkNoMatch(t, x, "\u00e9\u8a9e\U0001f600", 4)
		checkNoMatch(t, x, "\u00e9\u8a9e\U0001f600", 9)
	}
}

// nested returns the forms with each of the parts in place of X.
func nested(forms []string, parts []string) []string {
	var list []string
	for _, part := range parts {
		for _, form := range forms {
			list = append(list, strings.ReplaceAll(form, "X", part))
		}
	}
	return list
}

// kindsInKinds are patterns of every kind, and of every kind in every other one, two deep.
func kindsInKinds() []string {
	leaves := []string{"", "a", ".", "[a\u00e9]", "[^b]", "^", "$"}
	forms := []string{"(X)b", "b(X)", "(X)(X)", "(X)|b", "ab|(X)", "(X)|", "|(X)", "(X)*", "(X)+", "(X)?", "(X){0}", "(X){2}", "(X){2,}", "(X){1,3}", "(X){0,2}"}
	once := nested(forms, leaves)
	return slices.Concat(leaves, once, nested(forms, once))
}

// shortTexts are texts in which the patterns of kindsInKinds match in many ways.
func shortTexts() []string {
	return append(allOf("", []string{"a", "b"}, 3), "\u00e9", "\u00e9ab", "b\u00e9\u00e9a", "c", "aabb", "abab", "bbaab", "aaaaa")
}

func TestP7WhatIsFoundMatchesAndNothingLongerOrBefore(t *testing.T) {
	matches := 0
	for _, p := range kindsInKinds() {
		x := pattern(t, p)
		for _, s := range shortTexts() {
			// what is longer is ruled out by the definition
			checkMatches(t, x, s)
			for from := 0; from <= impl.Length(s); from++ {
				at, end := impl.RxFind(x, s, from)
				if at >= 0 && impl.RxMatch(x, s, at) != end {
					t.Fatalf("RxFind of %q, %q from %d returns %d, %d, where it does not match", p, s, from, at, end)
				}
				if at < 0 {
					at = impl.Length(s) + 1
				} else {
					matches++
				}
				for before := from; before < at; before++ {
					if impl.RxMatch(x, s, before) != -1 {
						t.Fatalf("RxFind of %q, %q from %d passes over %d", p, s, from, before)
					}
				}
			}
		}
	}
	if matches < 10000 {
		t.Errorf("there are only %d matches", matches)
	}
}

func checkAlternatives(t *testing.T, s string, list ...string) {
	t.Helper()
	both := pattern(t, strings.Join(list, "|"))
	var each []impl.Rx
	for _, p := range list {
		each = append(each, pattern(t, p))
	}
	for from := 0; from <= impl.Length(s); from++ {
		match, at, end := -1, -1, -1
		for _, x := range each {
			match = max(match, impl.RxMatch(x, s, from))
			begin, to := impl.RxFind(x, s, from)
			switch {
			case begin >= 0 && (at < 0 || begin < at):
				at, end = begin, to
			case begin == at:
				end = max(end, to)
			}
		}
		gotAt, gotEnd := impl.RxFind(both, s, from)
		if got := impl.RxMatch(both, s, from); got != match || gotAt != at || gotEnd != end {
			t.Fatalf("%q match %q from %d as %d and %d, %d, not %d and %d, %d", list, s, from, got, gotAt, gotEnd, match, at, end)
		}
	}
}

func TestP7AlternativesMatchWhereOneOfThemDoes(t *testing.T) {
	list := []string{"", "a", "b", ".", "[^a]", "^", "$", "ab", "ba", "a|b", "a|ab", "a*", "b+", "a?b", "(ab)*", "(a|bb){2}", "^a", "b$", "(^a|b)+", "a*b*$", "(|a){3}", "a{2,}", "\u00e9", "[\u00e9b]{1,2}", "(a*)*b", "()+"}
	for _, p := range list {
		for _, q := range list {
			for _, s := range []string{"", "a", "b", "ab", "ba", "aab", "abb", "bbaab", "b\u00e9\u00e9a", "cacb"} {
				checkAlternatives(t, s, p, q)
				checkAlternatives(t, s, q, p, "(a)b|c")
			}
		}
	}
	random := rand.New(rand.NewSource(13))
	for range 4000 {
		p, q := matchingPattern(random, random.Intn(3)), matchingPattern(random, random.Intn(3))
		if _, _, code := impl.RxRead(p + "|" + q); code != impl.RxOK {
			continue
		}
		checkAlternatives(t, matchingText(random, random.Intn(20)), p, q)
	}
}

// checkAlone holds that what a pattern without RxBegin and RxEnd matches is matched by it completely alone.
func checkAlone(t *testing.T, x impl.Rx, s string) {
	t.Helper()
	for from := 0; from <= impl.Length(s); from++ {
		end := impl.RxMatch(x, s, from)
		if end < 0 {
			continue
		}
		alone := impl.Part(s, from+1, end-from)
		at, to := impl.RxFind(x, alone, 0)
		if at != 0 || to != end-from || impl.RxMatch(x, alone, 0) != end-from || !impl.RxFits(x, alone) {
			t.Fatalf("%q matches %q in %q, but alone it is %d, %d", impl.RxText(x), alone, s, at, to)
		}
	}
}

func TestP7MatchesAreMatchedCompletelyAlone(t *testing.T) {
	texts := append(shortTexts(), strings.Repeat("ab\u00e9", 30), strings.Repeat("a", 70)+"b")
	for _, p := range kindsInKinds() {
		if strings.Contains(strings.ReplaceAll(p, "[^", ""), "^") || strings.Contains(p, "$") {
			continue
		}
		for _, s := range texts[:len(texts)-2+len(p)%3] {
			checkAlone(t, pattern(t, p), s)
		}
	}
	random := rand.New(rand.NewSource(14))
	for range 3000 {
		p := strings.NewReplacer("[^", "[^", "^", "b", "$", "\u00e9").Replace(matchingPattern(random, random.Intn(4)))
		if x, _, code := impl.RxRead(p); code == impl.RxOK {
			checkAlone(t, x, matchingText(random, random.Intn(30)))
		}
	}
}

// matchingPattern is a pattern over few code points, with groups down to a depth, and () in them.
func matchingPattern(random *rand.Rand, deep int) string {
	var alternatives []string
	for range 1 + random.Intn(3)*random.Intn(2) {
		sequence := ""
		for range random.Intn(4) {
			if deep > 0 && random.Intn(2) == 0 {
				sequence += "(" + matchingPattern(random, deep-1) + ")"
			} else {
				sequence += []string{"a", "a", "b", "b", "\u00e9", ".", "[ab]", "[^a]", "[^b\u00e9]", "^", "$", "ab", "()"}[random.Intn(13)]
			}
			if random.Intn(3) == 0 {
				sequence += []string{"*", "+", "?", "{0}", "{1}", "{2}", "{3,}", "{2,}", "{1,3}", "{0,4}", "{0,2}"}[random.Intn(11)]
			}
		}
		alternatives = append(alternatives, sequence)
	}
	return strings.Join(alternatives, "|")
}

func matchingText(random *rand.Rand, length int) string {
	var b strings.Builder
	for range length {
		b.WriteString([]string{"a", "a", "a", "b", "b", "\u00e9"}[random.Intn(6)])
	}
	return b.String()
}

// shortPatterns are all short patterns over few symbols.
func shortPatterns(t *testing.T) []impl.Rx {
	t.Helper()
	var list []impl.Rx
	for _, p := range slices.Concat(
		allOf("", []string{"a", "b", "(", ")", "|", "*", "{2}", "^", ".", "$"}, 4),
		allOf("", []string{"a", "(", ")", "|", "*"}, 6),
		allOf("(a", []string{"b", "(", ")", "|", "+", "{0,2}"}, 5),
	) {
		if x, _, code := impl.RxRead(p); code == impl.RxOK {
			list = append(list, x)
		}
	}
	if len(list) < 5000 {
		t.Errorf("only %d patterns are read", len(list))
	}
	return list
}

func TestMatchesOfAllShortPatterns(t *testing.T) {
	for _, x := range shortPatterns(t) {
		for _, s := range []string{"", "a", "b", "ab", "aab", "bab", "abbaa"} {
			checkMatches(t, x, s)
		}
	}
}

func TestMatchesOfRandomPatterns(t *testing.T) {
	random := rand.New(rand.NewSource(15))
	read, matches := 0, 0
	for range 6000 {
		p := matchingPattern(random, random.Intn(impl.MaxRxDeep))
		x, _, code := impl.RxRead(p)
		if code != impl.RxOK {
			if code != impl.RxLong && code != impl.RxMany {
				t.Fatalf("RxRead(%q) returns the code %d", p, code)
			}
			continue
		}
		read++
		s := matchingText(random, random.Intn(12))
		checkMatches(t, x, s)
		s = matchingText(random, random.Intn(300))
		checkLibrary(t, x, s)
		if impl.RxFits(x, s) {
			matches++
		}
	}
	if matches < 3000 || read-matches < 300 {
		t.Errorf("%d patterns are read, and %d match", read, matches)
	}
	// code points of every kind, in patterns of every kind
	for range 4000 {
		x, _, code := impl.RxRead(randomPattern(random, random.Intn(4)))
		if code != impl.RxOK {
			continue
		}
		var points []int
		for range random.Intn(40) {
			points = append(points, randomPoint(random))
		}
		s, _ := impl.TextOf(points)
		checkMatches(t, x, s)
		checkLibrary(t, x, s)
	}
}

// checkSoon holds that RxFind and RxMatch end long before something that multiplies in nested repetitions would.
func checkSoon(t *testing.T, x impl.Rx, s string) {
	t.Helper()
	results := make(chan []int, 1)
	go func() {
		at, end := impl.RxFind(x, s, 0)
		results <- []int{at, end, impl.RxMatch(x, s, at)}
	}()
	wantAt, wantEnd := libraryFind(x, s)
	select {
	case got := <-results:
		if !slices.Equal(got, []int{wantAt, wantEnd, wantEnd}) {
			t.Fatalf("RxFind and RxMatch of %q, %.10q return %v, not %d, %d", impl.RxText(x), s, got, wantAt, wantEnd)
		}
	case <-time.After(30 * time.Second):
		t.Fatalf("%q does not end over %.10q", impl.RxText(x), s)
	}
}

// largestNested are nested repetitions, each as large as RxRead accepts it.
func largestNested() []string {
	var list []string
	for _, form := range []string{"(X)", "(X$|a)", "(Xb|a)", "(a|X)", "(X|aa|aaa)", "(aX|a)", "(Xa|a)", "(X|^a|b)", "(X?b?a)", "(|X)"} {
		for _, times := range []string{"*", "+", "{2,}", "{2}", "{0,3}"} {
			for _, first := range []string{"a*", "a{30,}", "a{0,40}"} {
				p := first
				for {
					longer := strings.ReplaceAll(form, "X", p) + times
					if _, _, code := impl.RxRead(longer); code != impl.RxOK {
						longer = strings.ReplaceAll(form, "X", p) + "*"
					}
					if _, _, code := impl.RxRead(longer); code != impl.RxOK {
						break
					}
					p = longer
				}
				list = append(list, p)
			}
		}
	}
	a := func(n int) string { return strings.Repeat("a", n) }
	return append(list, "(a{60}){16}", "(a{0,60}){0,16}", "(a{0,60}){16,}", "(a?){60}a{60}", "((a?){30}){30}", "((a{0,3}){0,15}){0,20}", "("+a(36)+"){27}", "("+a(36)+"){3,27}", "("+a(36)+"){27,}", strings.Repeat("a*", impl.MaxPattern/2), strings.Repeat("a?", 60)+a(60), strings.Repeat("|", impl.MaxPattern), strings.Repeat("()", impl.MaxPattern/2), "("+strings.Repeat("a|", 80)+"a)*", strings.Repeat(".*", 90)+"c", "("+strings.Repeat("a*", 8)+"){40}c")
}

func TestLargestNestedRepetitionsEndSoon(t *testing.T) {
	texts := []string{strings.Repeat("a", impl.MaxText), strings.Repeat("a", impl.MaxText-1) + "b", strings.Repeat("aab", impl.MaxText/3), strings.Repeat("\u00e9", impl.MaxText/2)}
	for i, p := range largestNested() {
		for k, s := range texts {
			if i%2 != k%2 {
				continue
			}
			// alone, with an alternative, and with an end that is not there
			for _, q := range []string{p, p + "|x", p + "c"} {
				if x, _, code := impl.RxRead(q); code == impl.RxOK {
					checkSoon(t, x, s)
				}
			}
		}
	}
}

// notSound are patterns that RxSound rejects.
func notSound() []impl.Rx {
	a, b := rxChar('a'), rxChar('b')
	deep := rxOf(a)
	for i := range 100000 {
		deep.Nodes = append(deep.Nodes, rxRep(0, -1, i))
	}
	return append(notTrees(),
		// no text
		rxOf(impl.RxNode{}), rxOf(impl.RxNode{Kind: 10}), rxOf(impl.RxNode{Kind: -1}), rxOf(rxChar(0)), rxOf(rxChar(-1)), rxOf(rxChar(55296)), rxOf(rxChar(1114112)), rxOf(rxChar(1<<32+'a')), rxOf(rxSet('a')), rxOf(rxSet('a', 'b', 'c')), rxOf(rxSet(0, 'z')), rxOf(rxSet('a', 1114112)), rxOf(a, rxRep(-1, -1, 0)), rxOf(a, rxRep(0, -2, 0)), rxOf(a, rxRep(math.MinInt, 0, 0)), rxOf(rxRep(0, -1)), rxOf(a, b, rxRep(0, -1, 0, 1)),
		// a text that is read otherwise, or not at all
		rxOf(rxCat()), rxOf(rxAlt()), rxOf(a, rxCat(0)), rxOf(a, rxAlt(0)), rxOf(b, a, rxCat(1, 0)), rxOf(a, rxRep(3, 2, 0)), rxOf(a, rxRep(61, 61, 0)), rxOf(a, rxRep(0, 61, 0)), rxOf(a, rxRep(math.MaxInt, math.MaxInt, 0)), rxOf(a, rxRep(0, math.MaxInt, 0)), rxOf(rxSet()), rxOf(rxNone()), rxOf(rxSet('z', 'a')), rxOf(a, rxRep(60, 60, 0), rxRep(60, 60, 1)), rxOf(a, rxRep(60, 60, 0), rxRep(60, 60, 1), rxRep(0, 0, 2)),
		// fields that are not zero
		rxOf(impl.RxNode{Kind: impl.RxEmpty, Lo: 1}), rxOf(impl.RxNode{Kind: impl.RxChar, Lo: 'a', Hi: 1}), rxOf(impl.RxNode{Kind: impl.RxAny, Neg: true}), rxOf(impl.RxNode{Kind: impl.RxChar, Lo: 'a', Neg: true}), rxOf(impl.RxNode{Kind: impl.RxBegin, Set: []int{'a', 'b'}}), rxOf(impl.RxNode{Kind: impl.RxEnd, Hi: -1}), rxOf(impl.RxNode{Kind: impl.RxSet, Lo: 1, Set: []int{'a', 'b'}}), rxOf(a, impl.RxNode{Kind: impl.RxAny, Kids: []int{0}}), rxOf(a, b, impl.RxNode{Kind: impl.RxCat, Lo: 1, Kids: []int{0, 1}}), rxOf(a, impl.RxNode{Kind: impl.RxRep, Neg: true, Hi: -1, Kids: []int{0}}),
		// too many nodes, too long, too deep
		catOf(a, impl.MaxRxNodes), catOf(a, 100000), catOf(rxEmpty(), impl.MaxRxNodes), catOf(rxSet('a', 'c'), impl.MaxPattern+1), rxOf(rxSet(slices.Repeat([]int{'a', 'c'}, 333)...)), deep, impl.Rx{Nodes: deep.Nodes[:9]},
	)
}

func TestMatchingPatternsThatAreNotSound(t *testing.T) {
	for _, x := range notSound() {
		if impl.RxSound(x) {
			t.Fatalf("%v is sound", x)
		}
		for _, s := range []string{"", "a", "ab", "aaa", "\u00e9", strings.Repeat("a", impl.MaxText), "\xff"} {
			for _, from := range []int{0, 1, impl.Length(s), -1, impl.MaxText + 1} {
				checkNoMatch(t, x, s, from)
			}
			if impl.RxFits(x, s) {
				t.Errorf("%.100v fits %.10q", impl.RxText(x), s)
			}
		}
	}
}

func TestMatchingStringsThatAreNotTexts(t *testing.T) {
	for _, p := range []string{"", "a", ".*", "^", "$", "(|a)*", "[^a]", "a{0}", "\ufffd"} {
		x := pattern(t, p)
		for _, s := range append(notTexts(), strings.Repeat("\u00e9", impl.MaxText/2+1), strings.Repeat("\U0001f600", impl.MaxText/4+1)) {
			for _, from := range []int{0, 1, len(s), utf8.RuneCountInString(s), -1, math.MaxInt} {
				checkNoMatch(t, x, s, from)
			}
			if impl.RxFits(x, s) {
				t.Errorf("%q fits %.20q", p, s)
			}
		}
	}
}

// TestMatchesOfLongPatterns is about patterns that RxRead rejects because of their length, but that are sound.
func TestMatchesOfLongPatterns(t *testing.T) {
	most := impl.MaxRxNodes - 1
	either := catOf(rxEmpty(), 240)
	for i := range 240 {
		either.Nodes[i] = rxChar(0x1000 + i)
	}
	either.Nodes[240].Kind = impl.RxAlt
	set := rxOf(rxSet(slices.Repeat([]int{'b', 'c'}, 331)...), rxRep(0, -1, 0))
	large := catOf(rxChar('a'), 248)
	large.Nodes = append(large.Nodes, rxRep(4, 4, 248), rxAny(), rxAny(), rxCat(249, 250, 251))
	a := func(n int) string { return strings.Repeat("a", n) }
	for _, c := range []struct {
		x    impl.Rx
		s    string
		from int
		at   int
		end  int
	}{
		{catOf(rxChar('a'), impl.MaxPattern+1), a(impl.MaxPattern + 1), 0, 0, 201}, {catOf(rxChar('a'), impl.MaxPattern+1), a(impl.MaxPattern), 0, -1, -1}, {catOf(rxChar('a'), impl.MaxPattern+1), "b" + a(300), 0, 1, 202},
		{catOf(rxChar('a'), most), a(most - 1), 0, -1, -1}, {catOf(rxChar('a'), most), a(most), 0, 0, most}, {catOf(rxChar('a'), most), a(most-1) + "b" + a(most+1), 0, most, 2 * most}, {catOf(rxChar('a'), most), a(1000), 601, 601, 1000}, {catOf(rxChar('a'), most), a(1000), 602, -1, -1},
		{catOf(rxEmpty(), most), "ab", 1, 1, 1}, {catOf(rxBegin(), most), "ab", 0, 0, 0}, {catOf(rxBegin(), most), "ab", 1, -1, -1}, {catOf(rxAny(), most), a(500), 101, 101, 500}, {catOf(rxChar(233), most), strings.Repeat("\u00e9", 500), 7, 7, 7 + most},
		{either, "a" + shortest(0x1000+239) + shortest(0x1000), 0, 1, 2}, {either, "a" + shortest(0x1000+240), 0, -1, -1}, {either, shortest(0x1000), 0, 0, 1},
		{set, "abcb", 0, 0, 0}, {set, "abcba", 1, 1, 4},
		{large, a(994), 0, 0, 994}, {large, a(993), 0, -1, -1}, {large, "bb" + a(998), 0, 2, 996}, {large, a(992) + "bc", 0, 0, 994},
	} {
		if !impl.RxSound(c.x) || utf8.RuneCountInString(impl.RxText(c.x)) <= impl.MaxPattern {
			t.Fatalf("%.40q is not sound, or not long", impl.RxText(c.x))
		}
		if at, end := impl.RxFind(c.x, c.s, c.from); at != c.at || end != c.end || c.from == 0 && impl.RxFits(c.x, c.s) != (at >= 0) {
			t.Errorf("RxFind of %.40q, %.40q from %d returns %d, %d, not %d, %d", impl.RxText(c.x), c.s, c.from, at, end, c.at, c.end)
		}
		if c.at == c.from && impl.RxMatch(c.x, c.s, c.from) != c.end {
			t.Errorf("RxMatch of %.40q, %.40q from %d returns %d", impl.RxText(c.x), c.s, c.from, impl.RxMatch(c.x, c.s, c.from))
		}
		checkOutside(t, c.x, c.s, impl.Length(c.s))
	}
}

// TestMatchingChangesNothing also has spare room behind the lists of the pattern, which is neither read nor written.
func TestMatchingChangesNothing(t *testing.T) {
	for _, p := range []string{"", "a(b|c)*", "[^a-c[:digit:]]{2,3}", "(ab|())+$", "(a{2,}|^b)*c", "a*|[x-z]{0}"} {
		x := pattern(t, p)
		y := roomyRx(x)
		// Nothing is kept either: the same call returns the same again, whatever came between.
		for range 2 {
			for _, s := range []string{"", "a", "abcbc", "xx9y", "ababc", "baac"} {
				checkMatches(t, y, s)
			}
		}
		checkUntouched(t, y, x)
	}
	unchanged := notSound()
	for i, x := range notSound() {
		impl.RxMatch(x, "ab", 0)
		impl.RxFind(x, "ab", 0)
		impl.RxFits(x, "ab")
		if !sameRx(x, unchanged[i]) {
			t.Errorf("the pattern %d is changed", i)
		}
	}
}
