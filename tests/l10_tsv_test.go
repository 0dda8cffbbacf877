package tests

import (
	"math/rand"
	"regexp"
	"slices"
	"strings"
	"testing"

	"loop.example/g00417/impl"
)

var rightlyEscaped = regexp.MustCompile(`^(?:[^\\]|\\[tnr\\])*`)

// secondTsv divides a file into lines, and these into cells, before it looks for escapes.
func secondTsv(s string) ([]impl.Row, int, int) {
	if !impl.FileOk(s) {
		return nil, 0, impl.CsFile
	}
	denoted := strings.NewReplacer(`\t`, "\t", `\n`, "\n", `\r`, "\r", `\\`, `\`)
	var all []impl.Row
	at := 0
	for line := range strings.Lines(s) {
		var cells []string
		for _, written := range strings.Split(strings.TrimSuffix(line, "\n"), "\t") {
			if len(cells) == impl.MaxFields {
				return all, at, impl.CsMany
			}
			if right := rightlyEscaped.FindString(written); right != written {
				return all, at + len(right), impl.CsEscape
			}
			cell := denoted.Replace(written)
			if len(cell) > impl.MaxText {
				return all, at, impl.CsLong
			}
			cells = append(cells, cell)
			at += len(written) + 1
		}
		all = append(all, row(cells...))
	}
	return all, 0, impl.CsOK
}

var escapes = strings.NewReplacer("\t", `\t`, "\n", `\n`, "\r", `\r`, `\`, `\\`)

// escaped writes a cell without looking at its length.
func escaped(cell string) string { return escapes.Replace(cell) }

// secondTsvText escapes whole rows, in which 0 stands between the cells.
func secondTsvText(all []impl.Row) (string, bool) {
	var b strings.Builder
	for _, r := range all {
		b.WriteString(escaped(strings.Join(r.Cells, "\x00")) + "\n")
	}
	if !secondRowsOk(all) || b.Len() > impl.MaxFile {
		return "", false
	}
	return strings.ReplaceAll(b.String(), "\x00", "\t"), true
}

func tsvFormat() rowFormat {
	return rowFormat{name: "Tsv", read: impl.TsvRead, secondRead: secondTsv, text: impl.TsvText, secondText: secondTsvText}
}

func checkTsv(t *testing.T, s string, want []impl.Row, wantAt int, wantCode int) {
	t.Helper()
	tsvFormat().checkRead(t, s, want, wantAt, wantCode)
}

func checkTsvAgain(t *testing.T, s string) {
	t.Helper()
	tsvFormat().checkReadAgain(t, s)
}

func checkTsvText(t *testing.T, all []impl.Row, want string, wantOk bool) {
	t.Helper()
	tsvFormat().checkText(t, all, want, wantOk)
}

// checkTsvRecovered holds P10 for rows that are RowsOk, and wants each line of the text to have one more cell than tabs.
// It returns whether they have a text.
func checkTsvRecovered(t *testing.T, all []impl.Row) bool {
	t.Helper()
	if !tsvFormat().checkRecovered(t, all) {
		return false
	}
	s, _ := impl.TsvText(all)
	number := 0
	for line := range strings.Lines(s) {
		if number == len(all) || len(all[number].Cells) != strings.Count(line, "\t")+1 {
			t.Fatalf("the line %d of the text %.200q has another number of cells than the row", number, s)
		}
		number++
	}
	if number != len(all) {
		t.Fatalf("the text %.200q of %d rows has %d lines", s, len(all), number)
	}
	return true
}

func checkCellText(t *testing.T, s string, want string) {
	t.Helper()
	got := impl.CellText(s)
	if got != want {
		t.Fatalf("CellText(%.200q) returns %.200q, not %.200q", s, got, want)
	}
	checkNew(t, "CellText", got, s)
}

// checkCellTextAgain holds CellText of a text against a second one, and its being read.
func checkCellTextAgain(t *testing.T, s string) {
	t.Helper()
	checkCellText(t, s, escaped(s))
	for _, end := range list("\n", "\tx\n", "\t") {
		cells := strings.Split(s+"\x00"+strings.TrimSpace(end), "\x00")[:1+strings.Count(end, "\t")]
		checkTsv(t, impl.CellText(s)+end, rows(row(cells...)), 0, impl.CsOK)
	}
}

func TestExamplesOfTsv(t *testing.T) {
	checkTsv(t, "a\nb\\q", rows(row("a")), 3, impl.CsEscape)
	checkTsvText(t, rows(row("a\tb", "\\")), "a\\tb\t\\\\\n", true)
}

func TestTsvRows(t *testing.T) {
	for _, c := range []struct {
		s    string
		want []impl.Row
	}{
		// no row begins at the end of the text
		{"", nil}, {"\n", rows(row(""))}, {"\n\n", rows(row(""), row(""))}, {"a", rows(row("a"))}, {"a\n", rows(row("a"))}, {"a\n\n", rows(row("a"), row(""))}, {"\na", rows(row(""), row("a"))}, {"\na\n", rows(row(""), row("a"))}, {"a\nb", rows(row("a"), row("b"))}, {"a\nb\n", rows(row("a"), row("b"))}, {"a\n\n\nb\n", rows(row("a"), row(""), row(""), row("b"))},
		// empty cells
		{"\t", rows(row("", ""))}, {"\t\n", rows(row("", ""))}, {"\t\t", rows(row("", "", ""))}, {"\ta", rows(row("", "a"))}, {"\ta\n", rows(row("", "a"))}, {"a\t", rows(row("a", ""))}, {"a\t\n", rows(row("a", ""))}, {"a\t\n\tb", rows(row("a", ""), row("", "b"))}, {"a\t\tb", rows(row("a", "", "b"))}, {"\ta\t", rows(row("", "a", ""))}, {"\t\ta\t\tb\t\t\n", rows(row("", "", "a", "", "b", "", ""))}, {"\n\t\n", rows(row(""), row("", ""))}, {"\n\t", rows(row(""), row("", ""))}, {"\t\n\n\t\t\n", rows(row("", ""), row(""), row("", "", ""))}, {"\\t\t\n", rows(row("\t", ""))},
		// cells of several rows
		{"a\tb\tc", rows(row("a", "b", "c"))}, {"a\tb\nc\td", rows(row("a", "b"), row("c", "d"))}, {"a\nb\tc\nd\te\tf\n", rows(row("a"), row("b", "c"), row("d", "e", "f"))},
		// each escape, alone, in pairs, and beside a tab and a newline
		{`\t`, rows(row("\t"))}, {`\n`, rows(row("\n"))}, {`\r`, rows(row("\r"))}, {`\\`, rows(row(`\`))}, {`\t\t`, rows(row("\t\t"))}, {`\n\n`, rows(row("\n\n"))}, {`\r\r`, rows(row("\r\r"))}, {`\\\\`, rows(row(`\\`))}, {`\t\n\r\\`, rows(row("\t\n\r\\"))}, {`\\\r\n\t`, rows(row("\\\r\n\t"))}, {`\r\n`, rows(row("\r\n"))}, {"\\t\t\\t", rows(row("\t", "\t"))}, {"\\n\n\\n", rows(row("\n"), row("\n"))}, {"\\t\n\\t\n", rows(row("\t"), row("\t"))}, {"\\n\t\\n\n", rows(row("\n", "\n"))}, {"\t\\t\t\n\\t", rows(row("", "\t", ""), row("\t"))}, {"\n\\n\n", rows(row(""), row("\n"))}, {"\\\\\t\\\\\n\\\\", rows(row(`\`, `\`), row(`\`))}, {"\\r\t\\r\n\\r", rows(row("\r", "\r"), row("\r"))}, {`a\tb`, rows(row("a\tb"))}, {`a\nb\rc\\d`, rows(row("a\nb\rc\\d"))}, {"a\\tb\tc\n\t\nx", rows(row("a\tb", "c"), row("", ""), row("x"))},
		// a backslash behind another one escapes nothing
		{`\\t`, rows(row(`\t`))}, {`\\n`, rows(row(`\n`))}, {`\\r`, rows(row(`\r`))}, {`\\q`, rows(row(`\q`))}, {`\\\t`, rows(row("\\\t"))}, {`\\\\n`, rows(row(`\\n`))}, {`\\\\\n`, rows(row("\\\\\n"))}, {"\\\\\t", rows(row(`\`, ""))}, {"\\\\\n", rows(row(`\`))}, {"a\\\\", rows(row(`a\`))}, {"a\t\\\\", rows(row("a", `\`))}, {"a\n\\\\", rows(row("a"), row(`\`))}, {`\tt`, rows(row("\tt"))}, {`\nn\n`, rows(row("\nn\n"))}, {`\rr`, rows(row("\rr"))}, {`t\tn\nr\r`, rows(row("t\tn\nr\r"))},
		// what has no meaning here
		{"\r", rows(row("\r"))}, {"\r\n", rows(row("\r"))}, {"a\r\nb\r\n", rows(row("a\r"), row("b\r"))}, {"\ra\r\tb\rc", rows(row("\ra\r", "b\rc"))}, {"\r\r\n\r", rows(row("\r\r"), row("\r"))}, {"\r\\r", rows(row("\r\r"))}, {"\\r\r\n", rows(row("\r\r"))}, {`"`, rows(row(`"`))}, {`"a"`, rows(row(`"a"`))}, {"\"a\tb\"", rows(row(`"a`, `b"`))}, {"\"\n\"\"", rows(row(`"`), row(`""`))}, {`a"b`, rows(row(`a"b`))}, {`"\t"`, rows(row("\"\t\""))}, {",", rows(row(","))}, {"a,b\tc", rows(row("a,b", "c"))}, {`"a","b"`, rows(row(`"a","b"`))}, {" a \t b \n ", rows(row(" a ", " b "), row(" "))}, {"/t;n'\u00a0", rows(row("/t;n'\u00a0"))}, {"\x01\x08\x0b\x0c\x7f", rows(row("\x01\x08\x0b\x0c\x7f"))}, {"\ufeffa\tb", rows(row("\ufeffa", "b"))},
		// code points that are not ASCII
		{"\u00e9\t\u8a9e\n\U0001f600", rows(row("\u00e9", "\u8a9e"), row("\U0001f600"))}, {"\u00e9\\t\u8a9e\\\\\U0001f600\\n\n\U0010ffff", rows(row("\u00e9\t\u8a9e\\\U0001f600\n"), row("\U0010ffff"))}, {"a\u2028b\u0085c\t\u2029", rows(row("a\u2028b\u0085c", "\u2029"))}, {"\uff3ct\u2409\u240a", rows(row("\uff3ct\u2409\u240a"))}, {"\u0109\u010a\u010d\u015c", rows(row("\u0109\u010a\u010d\u015c"))},
	} {
		checkTsv(t, c.s, c.want, 0, impl.CsOK)
		checkTsvAgain(t, c.s)
	}
}

// writtenTsvCells are cells of each kind.
func writtenTsvCells() []writtenCell {
	return []writtenCell{
		{"", ""}, {"a", "a"}, {" ", " "}, {"\u00e9\u8a9e", "\u00e9\u8a9e"}, {`\t`, "\t"}, {`\n`, "\n"}, {`\r`, "\r"}, {"\r", "\r"}, {`\\`, `\`}, {`\\t`, `\t`}, {`\\\n`, "\\\n"}, {`x\ty`, "x\ty"}, {`t\\n`, `t\n`}, {`"`, `"`}, {"p,q", "p,q"},
	}
}

func TestTsvCellsOfEachKindBesideEachOther(t *testing.T) {
	for _, one := range writtenTsvCells() {
		for _, two := range writtenTsvCells() {
			for _, three := range writtenTsvCells() {
				cells := rows(row(one.cell, two.cell, three.cell))
				s := one.s + "\t" + two.s + "\t" + three.s
				checkTsv(t, s, cells, 0, impl.CsOK)
				checkTsv(t, s+"\n", cells, 0, impl.CsOK)
				whole := one.cell + two.cell + three.cell
				checkTsv(t, one.s+two.s+three.s+"\n", rows(row(whole)), 0, impl.CsOK)
			}
		}
	}
}

func TestTsvRowsOfEachKindBehindEachOther(t *testing.T) {
	for _, one := range writtenTsvCells() {
		for _, two := range writtenTsvCells() {
			for _, three := range writtenTsvCells() {
				s := one.s + "\n" + two.s + "\n\n" + three.s + "\t" + one.s
				want := rows(row(one.cell), row(two.cell), row(""), row(three.cell, one.cell))
				checkTsv(t, s, want, 0, impl.CsOK)
				checkTsv(t, s+"\n", want, 0, impl.CsOK)
				checkTsv(t, s+"\n\n", append(want, row("")), 0, impl.CsOK)
			}
		}
	}
}

func checkTsvFaults(t *testing.T, all []fault) {
	t.Helper()
	tsvFormat().checkFaults(t, list("x\n", "\n", "\n\n", "x\ty\n", "\\\\\n", "p\\nq\t\n\u00e9\r\n", "\"\n", strings.Repeat("\t", impl.MaxFields-1)+"\n", strings.Repeat(`\r`, impl.MaxText/2)+"\n"), all)
}

func TestTsvBackslashesThatEscapeNothing(t *testing.T) {
	checkTsvFaults(t, []fault{
		// at the end of the text
		{`\`, nil, 0, impl.CsEscape}, {`a\`, nil, 1, impl.CsEscape}, {"a\t\\", nil, 2, impl.CsEscape}, {"\t\\", nil, 1, impl.CsEscape}, {"a\n\\", rows(row("a")), 2, impl.CsEscape}, {"\n\\", rows(row("")), 1, impl.CsEscape}, {`\\\`, nil, 2, impl.CsEscape}, {`\\\\\`, nil, 4, impl.CsEscape}, {`\t\`, nil, 2, impl.CsEscape}, {`\n\`, nil, 2, impl.CsEscape}, {`\r\`, nil, 2, impl.CsEscape}, {"\r\\", nil, 1, impl.CsEscape}, {"\u00e9\\", nil, 2, impl.CsEscape}, {"\U0001f600\\", nil, 4, impl.CsEscape}, {"a\tb\nc\td\\", rows(row("a", "b")), 7, impl.CsEscape},
		// at the end of a cell before a tab
		{"\\\t", nil, 0, impl.CsEscape}, {"a\\\t", nil, 1, impl.CsEscape}, {"a\\\tb", nil, 1, impl.CsEscape}, {"\\\tt", nil, 0, impl.CsEscape}, {"a\tb\\\tc", nil, 3, impl.CsEscape}, {"\\\\\\\t", nil, 2, impl.CsEscape}, {"\\t\\\t", nil, 2, impl.CsEscape}, {"a\nb\\\t\n", rows(row("a")), 3, impl.CsEscape}, {"\\\t\n", nil, 0, impl.CsEscape},
		// at the end of a row before a newline
		{"\\\n", nil, 0, impl.CsEscape}, {"a\\\n", nil, 1, impl.CsEscape}, {"a\\\nb", nil, 1, impl.CsEscape}, {"\\\nn", nil, 0, impl.CsEscape}, {"a\tb\\\nc", nil, 3, impl.CsEscape}, {"\\\\\\\n", nil, 2, impl.CsEscape}, {"\\n\\\n", nil, 2, impl.CsEscape}, {"a\n\\\n\n", rows(row("a")), 2, impl.CsEscape}, {"\\\n\t", nil, 0, impl.CsEscape}, {"\\\r\n", nil, 0, impl.CsEscape}, {"a\\\r", nil, 1, impl.CsEscape},
		// before a letter
		{`\q`, nil, 0, impl.CsEscape}, {`b\q`, nil, 1, impl.CsEscape}, {`\a`, nil, 0, impl.CsEscape}, {`\T`, nil, 0, impl.CsEscape}, {`\N`, nil, 0, impl.CsEscape}, {`\R`, nil, 0, impl.CsEscape}, {`\s`, nil, 0, impl.CsEscape}, {`\u0009`, nil, 0, impl.CsEscape}, {`\x09`, nil, 0, impl.CsEscape}, {`\0`, nil, 0, impl.CsEscape}, {`\"`, nil, 0, impl.CsEscape}, {`\,`, nil, 0, impl.CsEscape}, {`\/`, nil, 0, impl.CsEscape}, {`\ t`, nil, 0, impl.CsEscape}, {`a\ `, nil, 1, impl.CsEscape}, {`\\\q`, nil, 2, impl.CsEscape}, {`\t\nq\q`, nil, 5, impl.CsEscape}, {"a\tb\\qc\td", nil, 3, impl.CsEscape}, {"a\nb\\\\\n\\q", rows(row("a"), row(`b\`)), 6, impl.CsEscape}, {"\\t\n\\v", rows(row("\t")), 3, impl.CsEscape},
		// before a code point that is not ASCII
		{"\\\u00e9", nil, 0, impl.CsEscape}, {"a\\\u8a9e", nil, 1, impl.CsEscape}, {"\u00e9\\\u00e9", nil, 2, impl.CsEscape}, {"\\\U0001f600t", nil, 0, impl.CsEscape}, {"\\\uff54", nil, 0, impl.CsEscape}, {"a\t\\\u0174\n", nil, 2, impl.CsEscape}, {"\u8a9e\n\\\\\\\u00e9", rows(row("\u8a9e")), 6, impl.CsEscape}, {"\\\U00010074", nil, 0, impl.CsEscape},
		// the first one of several
		{`\q\w`, nil, 0, impl.CsEscape}, {`a\\\q\`, nil, 3, impl.CsEscape}, {"a\\\t\\\n\\", nil, 1, impl.CsEscape}, {"a\n\\\n\\q", rows(row("a")), 2, impl.CsEscape},
	})
}

func TestTsvBackslashBeforeEachCodePoint(t *testing.T) {
	denoted := map[int]string{'t': "\t", 'n': "\n", 'r': "\r", '\\': `\`}
	random := rand.New(rand.NewSource(101))
	var points []int
	for c := range 0x800 {
		points = append(points, c+1)
	}
	for range 2000 {
		points = append(points, randomPoint(random))
	}
	for _, c := range points {
		for _, s := range list("", "a", "a\t", "a\n", `\\`, "\u00e9\n\\t") {
			for _, more := range list("", "t", "\n", "\\\\") {
				checkTsvAgain(t, s+`\`+shortest(c)+more)
			}
		}
		if cell, ok := denoted[c]; ok {
			checkTsv(t, `\`+shortest(c), rows(row(cell)), 0, impl.CsOK)
		} else {
			checkTsv(t, `\`+shortest(c), nil, 0, impl.CsEscape)
			checkTsv(t, "a\n\tb\\"+shortest(c)+"\n", rows(row("a")), 4, impl.CsEscape)
		}
	}
}

func TestTsvManyCells(t *testing.T) {
	most := impl.MaxFields
	for _, c := range writtenTsvCells() {
		full := row(slices.Repeat(list(c.cell), most)...)
		s := strings.Repeat(c.s+"\t", most)
		whole := s[:len(s)-1]
		checkTsv(t, whole, rows(full), 0, impl.CsOK)
		checkTsv(t, whole+"\n", rows(full), 0, impl.CsOK)
		checkTsv(t, whole+"\nx", rows(full, row("x")), 0, impl.CsOK)
		checkTsv(t, whole+"\n"+whole+"\n", rows(full, full), 0, impl.CsOK)
		checkTsv(t, "x\n"+s+"\n", rows(row("x")), 2+len(s), impl.CsMany)
		checkTsv(t, whole+"\n"+s+"x", rows(full), len(whole)+1+len(s), impl.CsMany)
		// whatever the cell that is one too many would be
		for _, more := range list("", "x", "\n", "\t", "\t\t", "\u00e9", `\`, `\\`, `\q`, "\\\n", `x\q`, strings.Repeat("x", impl.MaxText+1), s) {
			checkTsv(t, s+more, nil, len(s), impl.CsMany)
		}
		// one cell less is not too many
		less := full.Cells[1:]
		s = strings.Repeat(c.s+"\t", most-1)
		checkTsv(t, s, rows(row(append(slices.Clone(less), "")...)), 0, impl.CsOK)
		checkTsv(t, s+"x", rows(row(append(slices.Clone(less), "x")...)), 0, impl.CsOK)
		// what is wrong with the last cell comes first
		checkTsv(t, s+"x\\\t", nil, len(s)+1, impl.CsEscape)
		checkTsv(t, s+"\\q\t", nil, len(s), impl.CsEscape)
		checkTsv(t, s+strings.Repeat("x", impl.MaxText+1)+"\t", nil, len(s), impl.CsLong)
	}
	// many more
	checkTsv(t, strings.Repeat("a\t", impl.MaxFile/2), nil, 2*most, impl.CsMany)
}

// waysToEscape are ways in which a cell can be written.
func waysToEscape(cell string) []string {
	return slices.Compact(list(escaped(cell), strings.ReplaceAll(escaped(cell), `\r`, "\r")))
}

// longestTsvCells are cells of MaxText bytes, with and without what must be escaped.
func longestTsvCells() []string {
	most := impl.MaxText
	return append(longestCells(), strings.Repeat("\t", most), strings.Repeat(`\`, most), strings.Repeat("\r", most-1)+"a", strings.Repeat(`a\`, most/2), strings.Repeat(`\a`, most/2), strings.Repeat("a", most-1)+`\`, `\`+strings.Repeat("a", most-1), strings.Repeat("\u00e9", most/2-1)+"\t\n", strings.Repeat("t", most), strings.Repeat(`\t`, most/2), strings.Repeat("\\\t\n\r", most/4))
}

func TestTsvLongestCells(t *testing.T) {
	for _, cell := range longestTsvCells() {
		for _, s := range waysToEscape(cell) {
			for _, end := range list("", "\n") {
				checkTsv(t, s+end, rows(row(cell)), 0, impl.CsOK)
				checkTsv(t, "x\t"+s+"\ty"+end, rows(row("x", cell, "y")), 0, impl.CsOK)
				checkTsv(t, "\t"+s+end, rows(row("", cell)), 0, impl.CsOK)
			}
			checkTsv(t, "x\n"+s+"\n\t", rows(row("x"), row(cell), row("", "")), 0, impl.CsOK)
			// what is wrong behind it
			checkTsv(t, s+"\n\\", rows(row(cell)), len(s)+1, impl.CsEscape)
			checkTsv(t, s+"\t\\q", nil, len(s)+1, impl.CsEscape)
			checkTsv(t, s+`\`, nil, len(s), impl.CsEscape)
		}
		for _, more := range list("a", "\u00e9", "\t", `\`, "\r", strings.Repeat("a", impl.MaxText)) {
			for _, s := range waysToEscape(cell + more) {
				for _, end := range list("", "\n", "\t", "\t\n", "\ty", "\ny", "\n\n", "\n\\", "\t\\", "\t\\q", "\ty\\\t", "\n\\q\n") {
					checkTsv(t, s+end, nil, 0, impl.CsLong)
					checkTsv(t, "x\t"+s+end, nil, 2, impl.CsLong)
					checkTsv(t, "\u00e9\nx\t\ny\\t\t\t"+s+end, rows(row("\u00e9"), row("x", "")), 11, impl.CsLong)
				}
			}
		}
	}
}

// TestTsvLongCellsWithSomethingWrong is about cells that are not complete where the error is.
func TestTsvLongCellsWithSomethingWrong(t *testing.T) {
	for _, cell := range longestTsvCells() {
		for _, more := range list("", "a", "\t", `\`, strings.Repeat("\u00e9", 400)) {
			for _, s := range waysToEscape(cell + more) {
				for _, wrong := range list(`\`, `\q`, "\\\t", "\\\n", "\\\r", "\\\u00e9", `\qa`, "\\\t\\q") {
					checkTsv(t, s+wrong, nil, len(s), impl.CsEscape)
					checkTsv(t, "x\n\t"+s+wrong, rows(row("x")), 3+len(s), impl.CsEscape)
				}
				checkTsv(t, `\q`+s, nil, 0, impl.CsEscape)
				checkTsv(t, "aa\\\u00e9"+s, nil, 2, impl.CsEscape)
			}
		}
	}
}

func TestTsvFirstErrorOfSeveral(t *testing.T) {
	long := strings.Repeat("a", impl.MaxText+1)
	tabs := strings.Repeat("\t", impl.MaxFields)
	checkTsvFaults(t, []fault{
		{long + "\ta\\", nil, 0, impl.CsLong}, {"a\\\t" + long, nil, 1, impl.CsEscape}, {"\n" + long + "\n\\", rows(row("")), 1, impl.CsLong}, {`\` + long, nil, 0, impl.CsEscape}, {`\n` + long + "\\t\t", nil, 0, impl.CsLong}, {long + `\`, nil, 1001, impl.CsEscape}, {long + `\q` + long + "\t\\", nil, 1001, impl.CsEscape}, {"a\t" + long + "\n" + long, nil, 2, impl.CsLong}, {long + "\t" + long, nil, 0, impl.CsLong}, {"a\t\\\\" + long + "\t\\q", nil, 2, impl.CsLong},
		{long + tabs, nil, 0, impl.CsLong}, {tabs + long, nil, 100, impl.CsMany}, {tabs + `\`, nil, 100, impl.CsMany}, {tabs + "\n" + tabs, nil, 100, impl.CsMany}, {`\` + tabs, nil, 0, impl.CsEscape}, {`a\q` + tabs, nil, 1, impl.CsEscape}, {`\\` + tabs, nil, 102, impl.CsMany}, {"a\n" + tabs + long + `\q`, rows(row("a")), 102, impl.CsMany}, {"a\n" + long + "\n" + tabs, rows(row("a")), 2, impl.CsLong}, {"\\q\n" + tabs, nil, 0, impl.CsEscape},
	})
}

func TestTsvFilesOfMaxFile(t *testing.T) {
	most := impl.MaxFile
	a := func(n int) string { return strings.Repeat("a", n) }
	checkTsv(t, strings.Repeat("\n", most), slices.Repeat(rows(row("")), most), 0, impl.CsOK)
	checkTsv(t, strings.Repeat("a\n", most/2), slices.Repeat(rows(row("a")), most/2), 0, impl.CsOK)
	checkTsv(t, strings.Repeat("\r\n", most/2), slices.Repeat(rows(row("\r")), most/2), 0, impl.CsOK)
	checkTsv(t, strings.Repeat("\u00e9\t\n", most/4), slices.Repeat(rows(row("\u00e9", "")), most/4), 0, impl.CsOK)
	checkTsv(t, strings.Repeat("\\\\\t\n", most/4), slices.Repeat(rows(row(`\`, "")), most/4), 0, impl.CsOK)
	lines := strings.Repeat(a(998)+"\t\n", 4)
	three := slices.Repeat(rows(row(a(998), "")), 3)
	checkTsv(t, lines, append(three, row(a(998), "")), 0, impl.CsOK)
	checkTsv(t, lines[:most-1]+"b", append(three, row(a(998), "b")), 0, impl.CsOK)
	checkTsv(t, lines[:most-2]+`\r`, append(three, row(a(998)+"\r")), 0, impl.CsOK)
	checkTsv(t, lines[:most-1]+`\`, three, most-1, impl.CsEscape)
	checkTsv(t, lines[:most-2]+`\\`, append(three, row(a(998)+`\`)), 0, impl.CsOK)
	checkTsv(t, a(most), nil, 0, impl.CsLong)
	checkTsv(t, strings.Repeat(`\`, most), nil, 0, impl.CsLong)
	checkTsv(t, strings.Repeat(`\`, most-1), nil, most-2, impl.CsEscape)
	checkTsv(t, strings.Repeat("\t", most), nil, impl.MaxFields, impl.CsMany)
	// of one more, no row is read
	for _, s := range list(strings.Repeat("\n", most+1), strings.Repeat("a\n", most/2)+"a", lines+"\n", lines+`\`, strings.Repeat(`\`, most+1), strings.Repeat("\t", most+1), "\\q\n"+strings.Repeat("\n", most), `\`+a(most), strings.Repeat("a\n", 1000000)) {
		checkTsv(t, s, nil, 0, impl.CsFile)
	}
}

func TestTsvOfStringsThatAreNoFiles(t *testing.T) {
	for _, s := range notFiles() {
		checkTsv(t, s, nil, 0, impl.CsFile)
		for _, before := range list("a\n", `a\`, `\`, `\q`, "\\\t", "a\t\\\\\n", strings.Repeat("\t", impl.MaxFields)) {
			checkTsv(t, before+s, nil, 0, impl.CsFile)
		}
	}
	// no part of a code point stands alone between separators or behind a backslash
	for _, s := range list("\xc3\t\xa9", "\xe8\n\xaa\x9e", "\xf0\x9f\\t\x98\x80", "a\t\x00", "\\\x00", "\\\xff", "\xff\n", "\t\xed\xa0\x80", "\\\x80t") {
		checkTsv(t, s, nil, 0, impl.CsFile)
	}
	// a file may be longer than a text
	for _, s := range append(notTexts(), sampleTexts()...) {
		checkTsvAgain(t, s)
		checkTsvAgain(t, s+"\n"+s)
		checkTsvAgain(t, escaped(s)+"\t"+s)
	}
}

func TestAllShortTsvFiles(t *testing.T) {
	for _, s := range allOf("", list("a", "\t", "\n", `\`, "t", "\u00e9"), 7) {
		checkTsvAgain(t, s)
	}
	for _, s := range allOf("", list("\t", "\n", "\r", `\`, "t", "n", "r"), 6) {
		checkTsvAgain(t, s)
	}
	for _, s := range allOf("", list("\t", "\n", `\`), 9) {
		checkTsvAgain(t, s)
	}
}

// randomTsv is a text of parts that mean something in a file, some of which are wrong where they stand.
func randomTsv(random *rand.Rand, count int) string {
	parts := list("a", "b c", "\u00e9", "\u8a9e\U0001f600", " ", "\t", "\t", "\t", "\n", "\n", "\n\n", "\r", `\t`, `\n`, `\r`, `\\`, `\\`, `\\\t`, `"`, ",", "t", "n", "r")
	return randomParts(random, count, parts, list(`\`, `\q`, `\`, `\\\`))
}

// randomLargeTsv is a file with rows of nearly too many cells and with cells that are nearly too long.
func randomLargeTsv(random *rand.Rand) string {
	var b strings.Builder
	for range 1 + random.Intn(5) {
		half := strings.Repeat(list("a", "\u00e9", `\t`, `\\`)[random.Intn(4)], impl.MaxText)
		switch random.Intn(3) {
		case 0:
			b.WriteString(strings.Repeat(list("\t", "a\t", "\\t\t", "\\\\\t")[random.Intn(4)], impl.MaxFields-3+random.Intn(5)))
		case 1:
			b.WriteString(half[:impl.MaxText/2] + randomTsvCell(random, random.Intn(10)) + half[:impl.MaxText/2-4+2*random.Intn(4)])
		default:
			b.WriteString(randomTsv(random, random.Intn(10)))
		}
		b.WriteString(list("\n", "\t", "\t", "", "x", `\`, `\n`)[random.Intn(7)])
	}
	return b.String()
}

func TestRandomTsvFiles(t *testing.T) {
	random := rand.New(rand.NewSource(102))
	codes := map[int]int{}
	for range 60000 {
		checkTsvAgain(t, randomTsv(random, random.Intn(30)))
		checkTsvAgain(t, randomText(random, random.Intn(30)))
	}
	for range 20000 {
		s := randomLargeTsv(random)
		checkTsvAgain(t, s)
		_, _, code := impl.TsvRead(s)
		codes[code]++
	}
	for _, code := range []int{impl.CsOK, impl.CsFile, impl.CsEscape, impl.CsMany, impl.CsLong} {
		if codes[code] < 100 {
			t.Errorf("only %d files have the code %d", codes[code], code)
		}
	}
}

func TestCellText(t *testing.T) {
	for s, want := range map[string]string{
		"": "", "a": "a", " a b ": " a b ", "\t": `\t`, "\n": `\n`, "\r": `\r`, `\`: `\\`, "\r\n": `\r\n`, "\t\t": `\t\t`, `\\`: `\\\\`, "\t\n\r\\": `\t\n\r\\`, "a\tb": `a\tb`, "a\\tb": `a\\tb`, `\t`: `\\t`, `\n`: `\\n`, `\r`: `\\r`, `\q`: `\\q`, "\\\t": `\\\t`, "\\\n": `\\\n`, "t\tn\nr\r": `t\tn\nr\r`, "\tt": `\tt`, "a\n": `a\n`, "\na": `\na`,
		`"`: `"`, ",": ",", "/": "/", "tnr": "tnr", "\x01\x08\x0b\x0c\x7f": "\x01\x08\x0b\x0c\x7f",
		"\u00e9\t\u8a9e": "\u00e9\\t\u8a9e", "\U0001f600\\": "\U0001f600\\\\", "\u2028\u0085\u00a0": "\u2028\u0085\u00a0", "\uff3c\u2409\u240a": "\uff3c\u2409\u240a", "\u0109\u010a\u010d\u015c": "\u0109\u010a\u010d\u015c", "\ufeff\t": "\ufeff\\t",
	} {
		checkCellText(t, s, want)
		checkCellTextAgain(t, s)
	}
	for _, s := range append(sampleTexts(), longestTsvCells()...) {
		checkCellTextAgain(t, s)
	}
	for _, s := range allOf("", list("a", "t", "\t", "\n", "\r", `\`, "\u00e9"), 5) {
		checkCellTextAgain(t, s)
	}
	for c := range 0x800 {
		checkCellTextAgain(t, shortest(c+1))
		checkCellTextAgain(t, "a"+shortest(c+1)+"b"+shortest(c+1))
	}
	random := rand.New(rand.NewSource(103))
	for range 20000 {
		checkCellTextAgain(t, randomText(random, random.Intn(30)))
		checkCellTextAgain(t, randomTsvCell(random, random.Intn(200)))
	}
}

func TestCellTextMayBeLongerThanAText(t *testing.T) {
	most := impl.MaxText
	for _, c := range list("\t", "\n", "\r", `\`) {
		checkCellText(t, strings.Repeat(c, most), strings.Repeat(escaped(c), most))
		checkCellText(t, c+strings.Repeat("a", most-1), escaped(c)+strings.Repeat("a", most-1))
		checkCellText(t, strings.Repeat("a", most-1)+c, strings.Repeat("a", most-1)+escaped(c))
		checkCellText(t, strings.Repeat(c, most/2+1), strings.Repeat(escaped(c), most/2+1))
		checkCellText(t, strings.Repeat("a", most)+c, "")
		checkCellText(t, strings.Repeat(c, most+1), "")
	}
}

func TestCellTextOfStringsThatAreNotTexts(t *testing.T) {
	for _, s := range notTexts() {
		checkCellText(t, s, "")
		checkCellText(t, "\t"+s, "")
		checkCellText(t, s+`\`, "")
	}
	for _, s := range list("\xc3\t\xa9", "\\\x00", "\n\xff", "\r\xed\xa0\x80", "\xe8\xaa\\\x9e") {
		checkCellText(t, s, "")
	}
}

func TestTsvText(t *testing.T) {
	for _, c := range []struct {
		all  []impl.Row
		want string
	}{
		{nil, ""}, {rows(), ""}, {rows(row("")), "\n"}, {rows(row("", "")), "\t\n"}, {rows(row(""), row("")), "\n\n"}, {rows(row("a")), "a\n"}, {rows(row("a", "b")), "a\tb\n"}, {rows(row("", "a", "")), "\ta\t\n"}, {rows(row("a"), row("b", "c")), "a\nb\tc\n"}, {rows(row("", "", ""), row(""), row("", "x")), "\t\t\n\n\tx\n"},
		// cells that must be escaped
		{rows(row("\t")), "\\t\n"}, {rows(row("\n")), "\\n\n"}, {rows(row("\r")), "\\r\n"}, {rows(row(`\`)), "\\\\\n"}, {rows(row("\t", "\t")), "\\t\t\\t\n"}, {rows(row("\n"), row("\n")), "\\n\n\\n\n"}, {rows(row("a\tb", `\`)), "a\\tb\t\\\\\n"}, {rows(row(`\t`)), "\\\\t\n"}, {rows(row(`\`, "t")), "\\\\\tt\n"}, {rows(row("a\r\n", `b\`), row("\t\t")), "a\\r\\n\tb\\\\\n\\t\\t\n"}, {rows(row("\\\n", "")), "\\\\\\n\t\n"},
		// cells that need not
		{rows(row(" ")), " \n"}, {rows(row(`"`, `a"b"`, ",")), "\"\ta\"b\"\t,\n"}, {rows(row("tnr", "/", "x")), "tnr\t/\tx\n"}, {rows(row("\x0b\x0c\x01")), "\x0b\x0c\x01\n"}, {rows(row("\u00e9", "\u8a9e\U0001f600")), "\u00e9\t\u8a9e\U0001f600\n"}, {rows(row("\u2028\u0085", "\u00a0", "\ufeff")), "\u2028\u0085\t\u00a0\t\ufeff\n"}, {rows(row("\uff3c\u2409\u240a", "\u0109\u010a\u010d\u015c")), "\uff3c\u2409\u240a\t\u0109\u010a\u010d\u015c\n"},
		{rows(row("\u00e9\t\u00e9", "\\\u8a9e")), "\u00e9\\t\u00e9\t\\\\\u8a9e\n"},
	} {
		checkTsvText(t, c.all, c.want, true)
		checkTsvRecovered(t, c.all)
	}
	// rows that are not RowsOk, also far behind others
	full := row(slices.Repeat(list("a"), impl.MaxFields)...)
	over := row(slices.Repeat(list("a"), impl.MaxFields+1)...)
	checkTsvText(t, rows(full, row("b"), full), strings.Repeat("a\t", 99)+"a\nb\n"+strings.Repeat("a\t", 99)+"a\n", true)
	for _, bad := range rows(row(), over, row(slices.Repeat(list(""), impl.MaxFields+1)...), row("a\x00"), row("a", "\xff"), row("\xc3", "\xa9")) {
		for _, all := range [][]impl.Row{rows(bad), rows(row("a"), bad), rows(bad, row("a")), rows(full, bad, full), append(slices.Repeat(rows(row("")), 100), bad)} {
			checkTsvText(t, all, "", false)
		}
	}
	for _, s := range notTexts() {
		for _, all := range [][]impl.Row{rows(row(s)), rows(row(s, "a")), rows(row("a", s)), rows(row("a", s, "b")), rows(row("a"), row(s)), rows(row(s), row("a")), rows(row(append(slices.Repeat(list(""), 99), s)...))} {
			checkTsvText(t, all, "", false)
		}
	}
}

func TestLimitsOfTsvText(t *testing.T) {
	a := func(n int) string { return strings.Repeat("a", n) }
	most := impl.MaxFile
	for _, all := range [][]impl.Row{
		slices.Repeat(rows(row("")), most),
		slices.Repeat(rows(row("a")), most/2),
		slices.Repeat(rows(row("", "a", "")), most/4),
		slices.Repeat(rows(row("\t", "")), most/4),
		slices.Repeat(rows(row("\u00e9", "")), most/4),
		slices.Repeat(rows(row(a(999))), 4),
		rows(row(a(1000), a(1000), a(1000), a(996))),
		rows(row(strings.Repeat(`\`, 1000), strings.Repeat("\n", 999))),
		rows(row(strings.Repeat("\r", 1000)), row(strings.Repeat("\t", 999))),
		rows(row(strings.Repeat("\u00e9", 499)+"\t", a(1000), a(1000), a(994)+"\n")),
		append(slices.Repeat(rows(row(slices.Repeat(list(""), 100)...)), 39), row(a(99))),
	} {
		tsvFormat().checkLargest(t, all)
	}
	// only what is written counts, with its escapes
	lines := strings.Repeat(a(999)+"\n", 3)
	for cell, want := range map[string]string{"\t": `\t`, "\n": `\n`, "\r": `\r`, `\`: `\\`} {
		three := slices.Repeat(rows(row(a(999))), 3)
		checkTsvText(t, append(three, row(a(997)+cell)), lines+a(997)+want+"\n", true)
		checkTsvText(t, append(three, row(a(998)+cell)), "", false)
		checkTsvText(t, append(three, row(a(996)+cell, "")), lines+a(996)+want+"\t\n", true)
		checkTsvText(t, append(three, row(a(997)+cell, "")), "", false)
	}
	checkTsvText(t, rows(row(strings.Repeat(`\`, 1000), strings.Repeat(`\`, 1000))), "", false)
	checkTsvText(t, rows(row(slices.Repeat(list(a(1000)), 100)...)), "", false)
	checkTsvText(t, slices.Repeat(rows(row(slices.Repeat(list("\t"), 100)...)), 100000), "", false)
}

func TestTsvChangesNothing(t *testing.T) {
	full := row(slices.Repeat(list("a"), impl.MaxFields)...)
	for _, all := range [][]impl.Row{nil, rows(row("")), rows(row("a", "b"), row(`c\d`, "\t")), rows(full, full), rows(row(), row("a")), rows(row("a"), row("\xff", "b"))} {
		tsvFormat().checkTextChangesNothing(t, all)
	}
}

func TestRowsOfTsvShareNothing(t *testing.T) {
	for _, s := range list("a\tb\nc\n\n\\t\t\te\tf\tg\nh", "\n\n\n", "a\tb\tc\nd\ne\tf\\", "a\nb\tc\n\\q", strings.Repeat("a\tb\n", 50), strings.Repeat("\t", impl.MaxFields-1)+"\n"+strings.Repeat("\t", impl.MaxFields)) {
		tsvFormat().checkRowsShareNothing(t, s)
	}
}

// randomTsvCell is a cell of so many code points, of which some must be escaped.
func randomTsvCell(random *rand.Rand, length int) string {
	symbols := list("a", "b", " ", ",", `"`, "\u00e9", "\u8a9e", "\U0001f600", "/", "\x01")
	if random.Intn(2) == 0 {
		symbols = list("\t", "\n", "\r", `\`, "\r\n", `\t`, "t", "n", "r", "a", "\u00e9")
	}
	return randomParts(random, length, symbols, symbols)
}

func TestP10DrawnRowsAreRecoveredFromTsv(t *testing.T) {
	random := rand.New(rand.NewSource(104))
	checkDrawnRows(t, random, randomTsvCell, checkTsvRecovered)
	for range 5000 {
		checkTsvRecovered(t, randomRows(random, randomText))
	}
	for c := range 256 {
		if c > 0 {
			checkTsvRecovered(t, rows(row(shortest(c)), row("a"+shortest(c), shortest(c)+"b"), row("", shortest(c), "")))
		}
	}
}

func TestP10AllShortRowsAreRecoveredFromTsv(t *testing.T) {
	for _, one := range allOf("", list("a", "t", "\t", "\n", "\r", `\`, "\u00e9"), 4) {
		checkTsvRecovered(t, rows(row(one)))
		checkTsvRecovered(t, rows(row(one, one), row(one)))
	}
	cells := allOf("", list("t", "\t", "\n", "\r", `\`), 2)
	for _, one := range cells {
		for _, two := range cells {
			checkTsvRecovered(t, rows(row(one, two)))
			checkTsvRecovered(t, rows(row(one), row(two)))
			checkTsvRecovered(t, rows(row(one, "", two), row(two)))
		}
	}
}

func TestP10LargestRowsAreRecoveredFromTsv(t *testing.T) {
	for _, cell := range longestTsvCells() {
		if !checkTsvRecovered(t, rows(row(cell))) || !checkTsvRecovered(t, rows(row("", cell, "a"), row("b"))) || !checkTsvRecovered(t, rows(row("a"), row("b", cell))) {
			t.Errorf("the rows of %.20q have no text", cell)
		}
		checkTsvRecovered(t, rows(row(cell, cell)))
		checkTsvRecovered(t, rows(row(cell), row(cell), row(cell)))
	}
	for _, c := range writtenTsvCells() {
		for count := range impl.MaxFields {
			some := row(slices.Repeat(list(c.cell), count+1)...)
			checkTsvRecovered(t, rows(some))
			checkTsvRecovered(t, rows(some, row(""), some))
		}
		// as many rows as the file holds, and one more
		unit, _ := impl.TsvText(rows(row(c.cell, c.cell)))
		most := slices.Repeat(rows(row(c.cell, c.cell)), impl.MaxFile/len(unit))
		if !checkTsvRecovered(t, most) || checkTsvRecovered(t, append(most, row(c.cell, c.cell))) {
			t.Errorf("the rows of %q have no text, or one more has", c.cell)
		}
	}
}

func TestP10RowsOfTsvFilesAreRecovered(t *testing.T) {
	recovered := func(s string) bool {
		all, _, _ := impl.TsvRead(s)
		return checkTsvRecovered(t, all)
	}
	for _, s := range allOf("", list("a", "\t", "\n", `\`, "t", "\r"), 6) {
		if !recovered(s) {
			t.Fatalf("the rows of %q have no text", s)
		}
	}
	random := rand.New(rand.NewSource(105))
	for range 20000 {
		recovered(randomTsv(random, random.Intn(60)))
		recovered(randomLargeTsv(random))
	}
	for _, s := range append(sampleTexts(), notTexts()...) {
		recovered(s)
	}
	// the last row has a 10 behind it in the text that it need not have in the file, and a 13 is escaped there
	a := strings.Repeat("a", 999)
	s := a + "\n" + a + "\n" + a + "\n" + a
	if !recovered(s) || !recovered(s+"\n") || recovered(s+"b") || recovered(s[:3998]+"\r\n") || !recovered(s[:3997]+"\r\n") {
		t.Error("the rows of a file of nearly MaxFile bytes have no text, or one that is too long")
	}
}
