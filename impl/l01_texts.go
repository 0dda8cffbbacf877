package impl

import (
	"strconv"
	"strings"
	"unicode/utf8"
)

const MaxText = 1000

// isCodePoint works on ints, so that no number is cut to 32 bits before it is judged.
func isCodePoint(c int) bool {
	return c >= 1 && c <= 1114111 && (c < 55296 || c > 57343)
}

// wellFormed is the condition of a text without its limit on the number of bytes.
func wellFormed(s string) bool {
	return utf8.ValidString(s) && strings.IndexByte(s, 0) < 0
}

// offsetsOf returns the byte offsets of the code points of s and, behind them, of its end,
// so that the code points a..b, numbered from 1, are the bytes from offset a-1 to offset b.
func offsetsOf(s string) []int {
	offsets := make([]int, 0, len(s)+1)
	for at := range s {
		offsets = append(offsets, at)
	}
	return append(offsets, len(s))
}

func TextOk(s string) bool {
	return len(s) <= MaxText && wellFormed(s)
}

func Runes(s string) ([]int, bool) {
	if !TextOk(s) {
		return nil, false
	}
	var list []int
	for _, c := range s {
		list = append(list, int(c))
	}
	return list, true
}

func TextOf(list []int) (string, bool) {
	var out []byte
	for _, c := range list {
		if !isCodePoint(c) {
			return "", false
		}
		out = utf8.AppendRune(out, rune(c))
		if len(out) > MaxText {
			return "", false
		}
	}
	return string(out), true
}

func Length(s string) int {
	if !TextOk(s) {
		return -1
	}
	return utf8.RuneCountInString(s)
}

func Part(s string, from int, count int) string {
	if !TextOk(s) || count <= 0 {
		return ""
	}
	offsets := offsetsOf(s)
	length := len(offsets) - 1
	last := length
	// from + count may overflow, length - count does not: count is positive.
	if from <= length-count {
		last = from + count - 1
	}
	first := max(from, 1)
	if first > last {
		return ""
	}
	return strings.Clone(s[offsets[first-1]:offsets[last]])
}

func Find(s string, t string) int {
	if !TextOk(s) || !TextOk(t) || t == "" {
		return 0
	}
	number := 0
	for at := range s {
		number++
		if strings.HasPrefix(s[at:], t) {
			return number
		}
	}
	return 0
}

func Upper(s string) string {
	return shifted(s, 'a', 'z', 'A')
}

func Lower(s string) string {
	return shifted(s, 'A', 'Z', 'a')
}

// shifted replaces the letters from..to by those that begin at goal. It goes by bytes:
// in UTF-8 the bytes of other code points are never ASCII letters.
func shifted(s string, from byte, to byte, goal byte) string {
	if !TextOk(s) {
		return ""
	}
	out := []byte(s)
	for i, c := range out {
		if c >= from && c <= to {
			out[i] = c - from + goal
		}
	}
	return string(out)
}

func NumText(n int) string {
	return strconv.Itoa(n)
}

func Quote(s string) string {
	if !TextOk(s) {
		return ""
	}
	out := []byte{'"'}
	for _, c := range s {
		switch c {
		case '"', '\\':
			out = append(out, '\\', byte(c))
		case '\n':
			out = append(out, '\\', 'n')
		case '\t':
			out = append(out, '\\', 't')
		case '\r':
			out = append(out, '\\', 'r')
		default:
			out = utf8.AppendRune(out, c)
		}
	}
	return string(append(out, '"'))
}
