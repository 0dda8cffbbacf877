package tests

import (
	"encoding/csv"
	"math/rand"
	"regexp"
	"slices"
	"strings"
	"testing"

	"loop.example/g00417/impl"
)

func row(cells ...string) impl.Row { return impl.Row{Cells: cells} }

func rows(all ...impl.Row) []impl.Row { return all }

func sameRows(one []impl.Row, two []impl.Row) bool {
	return slices.EqualFunc(one, two, func(a impl.Row, b impl.Row) bool { return slices.Equal(a.Cells, b.Cells) })
}

var (
	plainCell    = regexp.MustCompile(`^[^,"\r\n]*`)
	quotedInside = regexp.MustCompile(`^(?:[^"]|"")*`)
	cellsEnd     = regexp.MustCompile(`^(?:,|\r?\n|$)`)
	mustBeQuoted = regexp.MustCompile(`[,"\r\n]`)
)

// secondCell returns what the cell at begin contains, and the offset behind it or of what is wrong.
func secondCell(s string, begin int) (string, int, int) {
	cell, end, wrong := "", 0, impl.CsEnd
	if s[begin:] == "" || s[begin] != '"' {
		cell = plainCell.FindString(s[begin:])
		end = begin + len(cell)
		if end < len(s) && s[end] == '"' {
			wrong = impl.CsQuote
		}
	} else {
		inside := quotedInside.FindString(s[begin+1:])
		end = begin + 1 + len(inside) + 1
		if end > len(s) {
			return "", len(s), impl.CsOpen
		}
		cell, wrong = strings.ReplaceAll(inside, `""`, `"`), impl.CsQuote
	}
	if !cellsEnd.MatchString(s[end:]) {
		return "", end, wrong
	}
	if len(cell) > impl.MaxText {
		return "", begin, impl.CsLong
	}
	return cell, end, impl.CsOK
}

// secondCsv reads a file by expressions for a whole cell and for what follows it.
func secondCsv(s string) ([]impl.Row, int, int) {
	if !impl.FileOk(s) {
		return nil, 0, impl.CsFile
	}
	var all []impl.Row
	var cells []string
	for at := 0; at < len(s) || len(cells) > 0; {
		if len(cells) == impl.MaxFields {
			return all, at, impl.CsMany
		}
		cell, end, code := secondCell(s, at)
		if code != impl.CsOK {
			return all, end, code
		}
		cells = append(cells, cell)
		follows := cellsEnd.FindString(s[end:])
		at = end + len(follows)
		if follows != "," {
			all, cells = append(all, row(cells...)), nil
		}
	}
	return all, 0, impl.CsOK
}

// libraryCsv returns the rows before the first error, and whether there is none. The library passes over empty
// lines and changes what it reads where there is a 13.
func libraryCsv(s string) ([]impl.Row, bool) {
	reader := csv.NewReader(strings.NewReader(s))
	reader.FieldsPerRecord = -1
	var all []impl.Row
	for {
		cells, err := reader.Read()
		if err != nil {
			return all, err.Error() == "EOF"
		}
		all = append(all, row(cells...))
	}
}

// checkLibraryCsv leaves the rows of one empty cell aside, which the library may have passed over.
func checkLibraryCsv(t *testing.T, s string) {
	t.Helper()
	empty := func(r impl.Row) bool { return slices.Equal(r.Cells, list("")) }
	got, _, code := impl.CsvRead(s)
	want, ok := libraryCsv(s)
	if (code == impl.CsOK) != ok || !sameRows(slices.DeleteFunc(got, empty), slices.DeleteFunc(want, empty)) {
		t.Fatalf("CsvRead(%.200q) returns the code %d and %.200q, the library %v and %.200q", s, code, got, ok, want)
	}
}

func secondRowsOk(all []impl.Row) bool {
	for _, r := range all {
		if len(r.Cells) == 0 || len(r.Cells) > impl.MaxFields || slices.ContainsFunc(r.Cells, func(s string) bool { return !impl.TextOk(s) }) {
			return false
		}
	}
	return true
}

func secondCsvText(all []impl.Row) (string, bool) {
	var b strings.Builder
	for _, r := range all {
		var cells []string
		for _, cell := range r.Cells {
			if mustBeQuoted.MatchString(cell) {
				cell = `"` + strings.Join(strings.Split(cell, `"`), `""`) + `"`
			}
			cells = append(cells, cell)
		}
		b.WriteString(strings.Join(cells, ",") + "\n")
	}
	if !secondRowsOk(all) || b.Len() > impl.MaxFile {
		return "", false
	}
	return b.String(), true
}

// rowFormat is a format of files of rows, with a second reader and a second writer of it.
type rowFormat struct {
	name       string
	read       func(string) ([]impl.Row, int, int)
	secondRead func(string) ([]impl.Row, int, int)
	text       func([]impl.Row) (string, bool)
	secondText func([]impl.Row) (string, bool)
}

func csvFormat() rowFormat {
	return rowFormat{name: "Csv", read: impl.CsvRead, secondRead: secondCsv, text: impl.CsvText, secondText: secondCsvText}
}

// checkRead wants these rows, this offset and this code, and no cell in the memory of s.
func (f rowFormat) checkRead(t *testing.T, s string, want []impl.Row, wantAt int, wantCode int) {
	t.Helper()
	got, at, code := f.read(s)
	if !sameRows(got, want) || at != wantAt || code != wantCode {
		t.Fatalf("%sRead(%.200q) returns %.200q, %d and the code %d, not %.200q, %d and %d", f.name, s, got, at, code, want, wantAt, wantCode)
	}
	for _, r := range got {
		for _, cell := range r.Cells {
			checkNew(t, f.name+"Read", cell, s)
		}
	}
}

// checkReadAgain holds the reader against the second one.
func (f rowFormat) checkReadAgain(t *testing.T, s string) {
	t.Helper()
	want, at, code := f.secondRead(s)
	f.checkRead(t, s, want, at, code)
}

func (f rowFormat) checkText(t *testing.T, all []impl.Row, want string, wantOk bool) {
	t.Helper()
	got, ok := f.text(all)
	if got != want || ok != wantOk {
		t.Fatalf("%sText of %d rows %.200q returns %.200q, %v, not %.200q, %v", f.name, len(all), all[:min(len(all), 4)], got, ok, want, wantOk)
	}
	for _, r := range all[:min(len(all), 100)] {
		for _, cell := range r.Cells {
			checkNew(t, f.name+"Text", got, cell)
		}
	}
}

// checkRecovered holds the writer against the second one, and P10, for rows that are RowsOk. It returns whether they
// have a text.
func (f rowFormat) checkRecovered(t *testing.T, all []impl.Row) bool {
	t.Helper()
	checkRowsOk(t, all, true)
	s, ok := f.secondText(all)
	f.checkText(t, all, s, ok)
	if ok {
		f.checkRead(t, s, all, 0, impl.CsOK)
	}
	return ok
}

func checkCsv(t *testing.T, s string, want []impl.Row, wantAt int, wantCode int) {
	t.Helper()
	csvFormat().checkRead(t, s, want, wantAt, wantCode)
}

func checkCsvAgain(t *testing.T, s string) {
	t.Helper()
	csvFormat().checkReadAgain(t, s)
}

func checkCsvText(t *testing.T, all []impl.Row, want string, wantOk bool) {
	t.Helper()
	csvFormat().checkText(t, all, want, wantOk)
}

// checkRowsOk wants RowsOk to be so, and no text of rows that are not.
func checkRowsOk(t *testing.T, all []impl.Row, want bool) {
	t.Helper()
	if got := impl.RowsOk(all); got != want {
		t.Fatalf("RowsOk of %d rows %.200q is %v", len(all), all[:min(len(all), 4)], got)
	}
	if !want {
		csvFormat().checkText(t, all, "", false)
		tsvFormat().checkText(t, all, "", false)
	}
}

func checkRowsRecovered(t *testing.T, all []impl.Row) bool {
	t.Helper()
	return csvFormat().checkRecovered(t, all)
}

func TestConstantsOfCsv(t *testing.T) {
	got := []int{impl.CsOK, impl.CsFile, impl.CsQuote, impl.CsOpen, impl.CsEnd, impl.CsMany, impl.CsLong, impl.CsEscape}
	if !slices.Equal(got, []int{0, 1, 2, 3, 4, 5, 6, 7}) {
		t.Errorf("the constants are %v", got)
	}
}

func TestExamplesOfCsv(t *testing.T) {
	checkCsv(t, "a,\"b\"\"c\"\r\n\n,x", rows(row("a", `b"c`), row(""), row("", "x")), 0, impl.CsOK)
	checkCsv(t, `a"b`, nil, 1, impl.CsQuote)
}

func TestCsvRows(t *testing.T) {
	for _, c := range []struct {
		s    string
		want []impl.Row
	}{
		// no row begins at the end of the text
		{"", nil}, {"\n", rows(row(""))}, {"\r\n", rows(row(""))}, {"\n\n", rows(row(""), row(""))}, {"\r\n\n\r\n", rows(row(""), row(""), row(""))}, {"a", rows(row("a"))}, {"a\n", rows(row("a"))}, {"a\r\n", rows(row("a"))}, {"a\n\n", rows(row("a"), row(""))}, {"\na", rows(row(""), row("a"))}, {"a\nb", rows(row("a"), row("b"))}, {"a\nb\r\nc", rows(row("a"), row("b"), row("c"))}, {"a\r\nb\nc\n", rows(row("a"), row("b"), row("c"))}, {"a\r\nb\r\nc\r\n", rows(row("a"), row("b"), row("c"))},
		// empty cells
		{",", rows(row("", ""))}, {",\n", rows(row("", ""))}, {",\r\n", rows(row("", ""))}, {",,", rows(row("", "", ""))}, {",a", rows(row("", "a"))}, {"a,", rows(row("a", ""))}, {"a,\n", rows(row("a", ""))}, {"a,\r\n,b", rows(row("a", ""), row("", "b"))}, {"a,,b", rows(row("a", "", "b"))}, {",a,", rows(row("", "a", ""))}, {",,a,,b,,\n", rows(row("", "", "a", "", "b", "", ""))}, {"\n,\n", rows(row(""), row("", ""))},
		// cells of several rows
		{"a,b,c", rows(row("a", "b", "c"))}, {"a,b\nc,d", rows(row("a", "b"), row("c", "d"))}, {"a\nb,c\nd,e,f\n", rows(row("a"), row("b", "c"), row("d", "e", "f"))},
		// blanks belong to their cells
		{" a , b ", rows(row(" a ", " b "))}, {" \n \t\n", rows(row(" "), row(" \t"))}, {" ", rows(row(" "))}, {"a\tb", rows(row("a\tb"))},
		// cells in quotation marks
		{`""`, rows(row(""))}, {"\"\"\n", rows(row(""))}, {"\"\"\r\n", rows(row(""))}, {`"",""`, rows(row("", ""))}, {`,"",`, rows(row("", "", ""))}, {`"a"`, rows(row("a"))}, {"\"a\"\n", rows(row("a"))}, {"\"a\"\r\nb", rows(row("a"), row("b"))}, {`"a","b"`, rows(row("a", "b"))}, {`"a",b`, rows(row("a", "b"))}, {`a,"b"`, rows(row("a", "b"))}, {`"a",`, rows(row("a", ""))}, {`,"a"`, rows(row("", "a"))}, {"a\n\"b\"\nc", rows(row("a"), row("b"), row("c"))}, {`" "`, rows(row(" "))}, {`" a "," b "`, rows(row(" a ", " b "))},
		{`","`, rows(row(","))}, {`"a,b",c`, rows(row("a,b", "c"))}, {`",",","`, rows(row(",", ","))}, {`",,"`, rows(row(",,"))}, {"\"\n\"", rows(row("\n"))}, {"\"\r\n\"", rows(row("\r\n"))}, {"\"\r\"", rows(row("\r"))}, {"\"\r\r\n\r\"\r\n", rows(row("\r\r\n\r"))}, {"\"a\nb\"\nc", rows(row("a\nb"), row("c"))}, {"\"a\r\nb\",c\r\n", rows(row("a\r\nb", "c"))}, {"\"a\n\"\n\"\nb\"", rows(row("a\n"), row("\nb"))}, {"\"a,\n\",\r\n", rows(row("a,\n", ""))},
		// pairs of quotation marks
		{`""""`, rows(row(`"`))}, {`""""""`, rows(row(`""`))}, {`"a"""`, rows(row(`a"`))}, {`"""a"`, rows(row(`"a`))}, {`"a""b"`, rows(row(`a"b`))}, {`"a""""b"`, rows(row(`a""b`))}, {`"""a"""`, rows(row(`"a"`))}, {`"""",""""`, rows(row(`"`, `"`))}, {`""","""`, rows(row(`","`))}, {"\"\"\"\n\"\"\"\n", rows(row("\"\n\""))}, {"\"\"\"\"\n\"\"\"\"", rows(row(`"`), row(`"`))}, {`"""""","",""`, rows(row(`""`, "", ""))}, {`"a"",""b",c`, rows(row(`a","b`, "c"))}, {"\"a\"\"\r\n\"\"\"\r\nb", rows(row("a\"\r\n\""), row("b"))},
		// what has no meaning here
		{`a\,b`, rows(row(`a\`, "b"))}, {`"\"`, rows(row(`\`))}, {"a;b'c", rows(row("a;b'c"))}, {"#a\n=b", rows(row("#a"), row("=b"))}, {"\ufeffa,b", rows(row("\ufeffa", "b"))}, {"\x01\x0b\x0c\x7f", rows(row("\x01\x0b\x0c\x7f"))},
		// code points that are not ASCII
		{"\u00e9,\u8a9e\n\U0001f600", rows(row("\u00e9", "\u8a9e"), row("\U0001f600"))}, {"\"\u00e9\",\"\u8a9e\"\"\U0001f600\"\r\n\U0010ffff", rows(row("\u00e9", "\u8a9e\"\U0001f600"), row("\U0010ffff"))}, {"a\u2028b\u0085c,\u00a0", rows(row("a\u2028b\u0085c", "\u00a0"))}, {"\u201ca\u201d,\uff0c\uff02", rows(row("\u201ca\u201d", "\uff0c\uff02"))}, {"\u010d\u010a\u012c\u0122", rows(row("\u010d\u010a\u012c\u0122"))},
	} {
		checkCsv(t, c.s, c.want, 0, impl.CsOK)
		checkCsvAgain(t, c.s)
	}
}

// writtenCell is a cell and one way to write it.
type writtenCell struct {
	s    string
	cell string
}

// writtenCells are cells of each kind.
func writtenCells() []writtenCell {
	return []writtenCell{
		{"", ""}, {"a", "a"}, {" ", " "}, {"\u00e9\u8a9e", "\u00e9\u8a9e"}, {`""`, ""}, {`"b"`, "b"}, {`","`, ","}, {"\"\n\"", "\n"}, {"\"c\r\n\"", "c\r\n"}, {"\"\rd\"", "\rd"}, {`""""`, `"`}, {`"x""y"`, `x"y`}, {`"""z"`, `"z`}, {`"z"""`, `z"`},
	}
}

func TestCsvCellsOfEachKindBesideEachOther(t *testing.T) {
	for _, one := range writtenCells() {
		for _, two := range writtenCells() {
			for _, three := range writtenCells() {
				for _, end := range list("", "\n", "\r\n") {
					s := one.s + "," + two.s + "," + three.s + end
					checkCsv(t, s, rows(row(one.cell, two.cell, three.cell)), 0, impl.CsOK)
				}
			}
		}
	}
}

func TestCsvRowsOfEachEndBehindEachOther(t *testing.T) {
	ends := list("\n", "\r\n", "")
	for _, one := range writtenCells() {
		for _, two := range writtenCells() {
			for _, first := range ends[:2] {
				for _, second := range ends[:2] {
					for _, third := range ends {
						s := one.s + first + two.s + second + two.s + "," + one.s + third
						checkCsv(t, s, rows(row(one.cell), row(two.cell), row(two.cell, one.cell)), 0, impl.CsOK)
					}
				}
			}
		}
	}
}

// fault is a file, the rows before its first error, and where and what that is.
type fault struct {
	s    string
	want []impl.Row
	at   int
	code int
}

// checkFaults tests each file alone and behind other ones, which have rows and no error.
func (f rowFormat) checkFaults(t *testing.T, before []string, all []fault) {
	t.Helper()
	for _, b := range append(list(""), before...) {
		whole, _, _ := f.secondRead(b)
		f.checkRead(t, b, whole, 0, impl.CsOK)
		for _, c := range all {
			f.checkRead(t, b+c.s, slices.Concat(whole, c.want), len(b)+c.at, c.code)
			f.checkReadAgain(t, b+c.s)
		}
	}
}

func checkCsvFaults(t *testing.T, all []fault) {
	t.Helper()
	csvFormat().checkFaults(t, list("x\n", "\n", "\r\n\n", "x,y\r\n", "\"p\nq\",\"\"\n\u00e9\n", "\"\"\"\"\r\n", strings.Repeat(",", impl.MaxFields-1)+"\n"), all)
}

func TestCsvQuotationMarksThatAreWrong(t *testing.T) {
	checkCsvFaults(t, []fault{
		// inside of a cell
		{`a"`, nil, 1, impl.CsQuote}, {`a"b`, nil, 1, impl.CsQuote}, {`a""`, nil, 1, impl.CsQuote}, {`a"b"`, nil, 1, impl.CsQuote}, {` "a"`, nil, 1, impl.CsQuote}, {"\t\"", nil, 1, impl.CsQuote}, {"\u00e9\"", nil, 2, impl.CsQuote}, {"\u8a9ea\"\n", nil, 4, impl.CsQuote}, {`a,b"`, nil, 3, impl.CsQuote}, {`,, "`, nil, 3, impl.CsQuote}, {`"a",b"c"`, nil, 5, impl.CsQuote}, {"a\nb\"\nc", rows(row("a")), 3, impl.CsQuote}, {"a\r\nb,c\"\r\n", rows(row("a")), 6, impl.CsQuote}, {"a\",b\"", nil, 1, impl.CsQuote}, {"\\\"", nil, 1, impl.CsQuote},
		// behind a cell in quotation marks
		{`"a"b`, nil, 3, impl.CsQuote}, {`"a" `, nil, 3, impl.CsQuote}, {"\"a\"\t\n", nil, 3, impl.CsQuote}, {"\"a\"\u00e9", nil, 3, impl.CsQuote}, {"\"\u00e9\"a", nil, 4, impl.CsQuote}, {`"a" "b"`, nil, 3, impl.CsQuote}, {`"a" ,b`, nil, 3, impl.CsQuote}, {`"a"b"`, nil, 3, impl.CsQuote}, {`"a";`, nil, 3, impl.CsQuote}, {`"a"\`, nil, 3, impl.CsQuote}, {`""a`, nil, 2, impl.CsQuote}, {`"" ""`, nil, 2, impl.CsQuote}, {`""""a`, nil, 4, impl.CsQuote}, {`"a""b"c`, nil, 6, impl.CsQuote}, {`"a"""b`, nil, 5, impl.CsQuote}, {"\"a,\n\"x", nil, 5, impl.CsQuote}, {`x,"a"b`, nil, 5, impl.CsQuote}, {`"a","b"c,d`, nil, 7, impl.CsQuote}, {"x\n\"a\nb\" ", rows(row("x")), 7, impl.CsQuote}, {"\"a\"\n\"b\"c\n", rows(row("a")), 7, impl.CsQuote},
		// a 13 alone behind such a cell
		{"\"a\"\r", nil, 3, impl.CsQuote}, {"\"a\"\rb", nil, 3, impl.CsQuote}, {"\"a\"\r\r\n", nil, 3, impl.CsQuote}, {"\"a\"\r,b", nil, 3, impl.CsQuote}, {"\"\"\r\"", nil, 2, impl.CsQuote}, {"a,\"\"\"\"\r", nil, 6, impl.CsQuote}, {"\"a\"\r\n\"b\"\r", rows(row("a")), 8, impl.CsQuote}, {"\"a\r\n\"\r \n", nil, 5, impl.CsQuote},
	})
}

func TestCsvRowsThatEndWrongly(t *testing.T) {
	checkCsvFaults(t, []fault{
		{"\r", nil, 0, impl.CsEnd}, {"\ra", nil, 0, impl.CsEnd}, {"\r\r\n", nil, 0, impl.CsEnd}, {"\r,", nil, 0, impl.CsEnd}, {"\r\"\"", nil, 0, impl.CsEnd}, {"a\r", nil, 1, impl.CsEnd}, {"a\rb", nil, 1, impl.CsEnd}, {"a\rb\n", nil, 1, impl.CsEnd}, {"a\r\r\n", nil, 1, impl.CsEnd}, {"a\r,b", nil, 1, impl.CsEnd}, {"a\r\"", nil, 1, impl.CsEnd}, {"a\r \n", nil, 1, impl.CsEnd}, {",\r", nil, 1, impl.CsEnd}, {"a,\r", nil, 2, impl.CsEnd}, {"a,b\rc", nil, 3, impl.CsEnd}, {"\"a\",\r", nil, 4, impl.CsEnd}, {"\"a\",b\r", nil, 5, impl.CsEnd}, {"\u00e9\r", nil, 2, impl.CsEnd}, {"a\r\u00e9", nil, 1, impl.CsEnd}, {"\n\r", rows(row("")), 1, impl.CsEnd}, {"a\n\r", rows(row("a")), 2, impl.CsEnd}, {"a\r\n\r", rows(row("a")), 3, impl.CsEnd}, {"a\r\n\rb\r\n", rows(row("a")), 3, impl.CsEnd}, {"a\r\nb\r\nc\rd\r\n", rows(row("a"), row("b")), 7, impl.CsEnd}, {"\"a\r\"\n\r", rows(row("a\r")), 5, impl.CsEnd},
	})
}

func TestCsvCellsThatAreNotClosed(t *testing.T) {
	checkCsvFaults(t, []fault{
		{`"`, nil, 1, impl.CsOpen}, {`"a`, nil, 2, impl.CsOpen}, {`"a,b`, nil, 4, impl.CsOpen}, {"\"a\n", nil, 3, impl.CsOpen}, {"\"a\r\n", nil, 4, impl.CsOpen}, {"\"\r", nil, 2, impl.CsOpen}, {"\"\u00e9", nil, 3, impl.CsOpen}, {"\"\U0001f600", nil, 5, impl.CsOpen}, {"\" ", nil, 2, impl.CsOpen}, {`a,"`, nil, 3, impl.CsOpen}, {`"a","b`, nil, 6, impl.CsOpen}, {"a\nb,\"c\nd,e\n", rows(row("a")), 11, impl.CsOpen},
		// behind a pair
		{`"""`, nil, 3, impl.CsOpen}, {`"a""`, nil, 4, impl.CsOpen}, {`"""a`, nil, 4, impl.CsOpen}, {`"""""`, nil, 5, impl.CsOpen}, {`"a""""`, nil, 6, impl.CsOpen}, {`"a"",b`, nil, 6, impl.CsOpen}, {"\"a\"\"\n", nil, 5, impl.CsOpen}, {`"a""b""`, nil, 7, impl.CsOpen}, {`a,"b""`, nil, 6, impl.CsOpen}, {`"a","""`, nil, 7, impl.CsOpen}, {"\"a\"\r\n\"\"\"\r\n", rows(row("a")), 10, impl.CsOpen},
	})
}

// repeated is a row of so many cells, and the text of them with a comma behind each.
func repeated(c writtenCell, count int) (impl.Row, string) {
	return row(slices.Repeat(list(c.cell), count)...), strings.Repeat(c.s+",", count)
}

func TestCsvManyCells(t *testing.T) {
	most := impl.MaxFields
	for _, c := range writtenCells() {
		full, s := repeated(c, most)
		whole := strings.TrimSuffix(s, ",")
		if c.s != "" {
			checkCsv(t, whole, rows(full), 0, impl.CsOK)
		}
		checkCsv(t, whole+"\n", rows(full), 0, impl.CsOK)
		checkCsv(t, whole+"\r\nx", rows(full, row("x")), 0, impl.CsOK)
		checkCsv(t, whole+"\n"+whole+"\n", rows(full, full), 0, impl.CsOK)
		checkCsv(t, "x\n"+s+"\n", rows(row("x")), 2+len(s), impl.CsMany)
		checkCsv(t, whole+"\n"+s+"x", rows(full), len(whole)+1+len(s), impl.CsMany)
		// whatever the cell that is one too many would be
		for _, more := range append(list("", "x", "\n", "\r\n", ",", `"`, `"x`, `x"`, `""x`, "\r", "x\r", strings.Repeat("x", impl.MaxText+1), s), "\u00e9", `"x"`) {
			checkCsv(t, s+more, nil, len(s), impl.CsMany)
		}
		// one cell less is not too many
		less, s := repeated(c, most-1)
		checkCsv(t, s, rows(row(append(slices.Clone(less.Cells), "")...)), 0, impl.CsOK)
		checkCsv(t, s+"x", rows(row(append(slices.Clone(less.Cells), "x")...)), 0, impl.CsOK)
		// what is wrong with the last cell comes first
		checkCsv(t, s+"x\"y,", nil, len(s)+1, impl.CsQuote)
		checkCsv(t, s+"\"x\"y,", nil, len(s)+3, impl.CsQuote)
		checkCsv(t, s+"\r,", nil, len(s), impl.CsEnd)
		checkCsv(t, s+"\"x,", nil, len(s)+3, impl.CsOpen)
		checkCsv(t, s+strings.Repeat("x", impl.MaxText+1)+",", nil, len(s), impl.CsLong)
	}
	// many more
	_, s := repeated(writtenCell{"a", "a"}, impl.MaxFile/2)
	checkCsv(t, s, nil, 2*most, impl.CsMany)
}

// longestCells are cells of MaxText bytes.
func longestCells() []string {
	most := impl.MaxText
	return list(strings.Repeat("a", most), strings.Repeat(" ", most), strings.Repeat("\u00e9", most/2), strings.Repeat("\u8a9e", most/3)+"a", strings.Repeat("\U0001f600", most/4), strings.Repeat(`"`, most), strings.Repeat(",", most), strings.Repeat("\n", most), strings.Repeat("\r\n", most/2), strings.Repeat("\r", most), strings.Repeat(`a"`, most/2), strings.Repeat(`"a`, most/2))
}

// inQuotes writes a cell in quotation marks, whether it must be or not.
func inQuotes(cell string) string { return `"` + strings.ReplaceAll(cell, `"`, `""`) + `"` }

// waysToWrite are the ways in which a cell can be written.
func waysToWrite(cell string) []string {
	if mustBeQuoted.MatchString(cell) {
		return list(inQuotes(cell))
	}
	return list(cell, inQuotes(cell))
}

func TestCsvLongestCells(t *testing.T) {
	for _, cell := range longestCells() {
		for _, s := range waysToWrite(cell) {
			for _, end := range list("", "\n", "\r\n") {
				checkCsv(t, s+end, rows(row(cell)), 0, impl.CsOK)
				checkCsv(t, "x,"+s+",y"+end, rows(row("x", cell, "y")), 0, impl.CsOK)
				checkCsv(t, ","+s+end, rows(row("", cell)), 0, impl.CsOK)
			}
			checkCsv(t, "x\n"+s+"\r\n,", rows(row("x"), row(cell), row("", "")), 0, impl.CsOK)
		}
		for _, s := range append(waysToWrite(cell+"a"), waysToWrite(cell+"\u00e9")...) {
			for _, end := range list("", "\n", "\r\n", ",", ",\n", ",y", "\ny", "\r\n\n", "\n\"", ",\"", ",y\"", "\n\r", ",\r", ",\"\"y") {
				checkCsv(t, s+end, nil, 0, impl.CsLong)
				checkCsv(t, "x,"+s+end, nil, 2, impl.CsLong)
				checkCsv(t, "\u00e9\nx,\"\"\r\n\"y\",,"+s+end, rows(row("\u00e9"), row("x", "")), 14, impl.CsLong)
			}
		}
	}
}

// TestCsvLongCellsWithSomethingWrongBehindThem is about cells that are not complete where the error is.
func TestCsvLongCellsWithSomethingWrongBehindThem(t *testing.T) {
	for _, more := range list("", "a", "\u00e9\u8a9e", strings.Repeat("a", 900)) {
		for _, cell := range longestCells() {
			cell += more
			quoted := inQuotes(cell)
			for _, s := range list("x", " ", "\u00e9", "\r", "\rx", "\r\r\n", " \"", " ,", "x\n") {
				checkCsv(t, quoted+s, nil, len(quoted), impl.CsQuote)
				checkCsv(t, "x\n,"+quoted+s, rows(row("x")), 3+len(quoted), impl.CsQuote)
			}
			for _, s := range list("", ",", "\n", "\r\n", "x", `""`, `"",`) {
				open := strings.TrimSuffix(quoted, `"`) + s
				checkCsv(t, open, nil, len(open), impl.CsOpen)
				checkCsv(t, "x\n,"+open, rows(row("x")), 3+len(open), impl.CsOpen)
			}
			if mustBeQuoted.MatchString(cell) {
				continue
			}
			for _, s := range list(`"`, `""`, `"x"`, "\"\n", "\",") {
				checkCsv(t, cell+s, nil, len(cell), impl.CsQuote)
				checkCsv(t, "x\n,"+cell+s, rows(row("x")), 3+len(cell), impl.CsQuote)
			}
			for _, s := range list("\r", "\rx", "\r\r\n", "\r,", "\r\"") {
				checkCsv(t, cell+s, nil, len(cell), impl.CsEnd)
				checkCsv(t, "x\n,"+cell+s, rows(row("x")), 3+len(cell), impl.CsEnd)
			}
		}
	}
}

func TestCsvFirstErrorOfSeveral(t *testing.T) {
	long := strings.Repeat("a", impl.MaxText+1)
	commas := strings.Repeat(",", impl.MaxFields)
	checkCsvFaults(t, []fault{
		{"a\"b\r\"", nil, 1, impl.CsQuote}, {"a\rb\"", nil, 1, impl.CsEnd}, {"a\r\"b", nil, 1, impl.CsEnd}, {"\"a\"b\rc\"", nil, 3, impl.CsQuote}, {"\"a\"\r\"", nil, 3, impl.CsQuote}, {"\"a\rb\"c", nil, 5, impl.CsQuote}, {"\"a\rb,c\"\"", nil, 8, impl.CsOpen}, {"a,\"b\"c,\r,d\"", nil, 5, impl.CsQuote}, {"a\nb\rc\nd\"", rows(row("a")), 3, impl.CsEnd}, {"a\nb\"c\nd\r", rows(row("a")), 3, impl.CsQuote}, {"\"a\" \n\"b", nil, 3, impl.CsQuote}, {"a\n\"b\n\"\n\"c\"d\"", rows(row("a"), row("b\n")), 10, impl.CsQuote},
		{long + ",a\"", nil, 0, impl.CsLong}, {"a\"," + long, nil, 1, impl.CsQuote}, {"\r\n" + long + "\r\n\r", rows(row("")), 2, impl.CsLong}, {"\r" + long, nil, 0, impl.CsEnd}, {"a," + long + "\n" + long, nil, 2, impl.CsLong}, {long + "," + long, nil, 0, impl.CsLong}, {long + ",\"" + long, nil, 0, impl.CsLong}, {"\"" + long + "," + long, nil, 2004, impl.CsOpen}, {long + commas, nil, 0, impl.CsLong}, {commas + long, nil, 100, impl.CsMany}, {commas + "\"", nil, 100, impl.CsMany}, {"a\"" + commas, nil, 1, impl.CsQuote}, {"\"\"a" + commas, nil, 2, impl.CsQuote}, {"\"" + commas, nil, 101, impl.CsOpen}, {"\r" + commas, nil, 0, impl.CsEnd}, {commas + "\r", nil, 100, impl.CsMany}, {commas[2:] + "a\"," + commas, nil, 99, impl.CsQuote}, {commas[2:] + "\r" + commas, nil, 98, impl.CsEnd}, {commas[2:] + long + commas, nil, 98, impl.CsLong}, {commas[1:] + long + commas, nil, 99, impl.CsLong}, {commas[1:] + long + "\"" + commas, nil, 1100, impl.CsQuote}, {commas[1:] + "\n" + commas + "\r", rows(row(slices.Repeat(list(""), 100)...)), 200, impl.CsMany},
	})
}

func TestCsvFilesOfMaxFile(t *testing.T) {
	most := impl.MaxFile
	checkCsv(t, strings.Repeat("\n", most), slices.Repeat(rows(row("")), most), 0, impl.CsOK)
	checkCsv(t, strings.Repeat("\r\n", most/2), slices.Repeat(rows(row("")), most/2), 0, impl.CsOK)
	checkCsv(t, strings.Repeat("a\n", most/2), slices.Repeat(rows(row("a")), most/2), 0, impl.CsOK)
	checkCsv(t, strings.Repeat("\"\"\r\n", most/4), slices.Repeat(rows(row("")), most/4), 0, impl.CsOK)
	checkCsv(t, strings.Repeat("\u00e9,\n", most/4), slices.Repeat(rows(row("\u00e9", "")), most/4), 0, impl.CsOK)
	lines := strings.Repeat(strings.Repeat("a", 998)+",\n", 4)
	checkCsv(t, lines, slices.Repeat(rows(row(strings.Repeat("a", 998), "")), 4), 0, impl.CsOK)
	checkCsv(t, lines[:most-1]+"b", append(slices.Repeat(rows(row(strings.Repeat("a", 998), "")), 3), row(strings.Repeat("a", 998), "b")), 0, impl.CsOK)
	checkCsv(t, strings.Repeat("a", most), nil, 0, impl.CsLong)
	checkCsv(t, strings.Repeat("\"", most), nil, 0, impl.CsLong)
	checkCsv(t, strings.Repeat("\"", most-1), nil, most-1, impl.CsOpen)
	checkCsv(t, lines[:most-1]+"\r", slices.Repeat(rows(row(strings.Repeat("a", 998), "")), 3), most-1, impl.CsEnd)
	checkCsv(t, lines[:most-1]+"\"", slices.Repeat(rows(row(strings.Repeat("a", 998), "")), 3), most, impl.CsOpen)
	checkCsv(t, strings.Repeat(",", most), nil, impl.MaxFields, impl.CsMany)
	// of one more, no row is read
	for _, s := range list(strings.Repeat("\n", most+1), strings.Repeat("a\n", most/2)+"a", lines+"\n", lines+"\"", lines+"\r", strings.Repeat("\"", most+1), strings.Repeat(",", most+1), "a\"\n"+strings.Repeat("\n", most), "\r"+strings.Repeat("a", most), strings.Repeat("a\n", 1000000)) {
		checkCsv(t, s, nil, 0, impl.CsFile)
	}
}

func TestCsvOfStringsThatAreNoFiles(t *testing.T) {
	for _, s := range notFiles() {
		checkCsv(t, s, nil, 0, impl.CsFile)
		for _, before := range list("a\n", "a\"", "\"", "\"\"a", "\r", "a,\"b\"\r\n", strings.Repeat(",", impl.MaxFields)) {
			checkCsv(t, before+s, nil, 0, impl.CsFile)
		}
	}
	// no part of a code point stands alone between separators
	for _, s := range list("\xc3,\xa9", "\xe8\n\xaa\x9e", "\"\xf0\x9f\"\"\x98\x80\"", "a,\x00", "\"\x00\"", "\xff\n", ",\xed\xa0\x80") {
		checkCsv(t, s, nil, 0, impl.CsFile)
	}
	// a file may be longer than a text
	for _, s := range append(notTexts(), sampleTexts()...) {
		checkCsvAgain(t, s)
		checkCsvAgain(t, s+"\n"+s)
		checkCsvAgain(t, inQuotes(s)+","+s)
	}
}

func TestAllShortCsvFiles(t *testing.T) {
	for _, s := range allOf("", list("a", ",", `"`, "\n", "\r", "\u00e9"), 7) {
		checkCsvAgain(t, s)
	}
	for _, s := range allOf("", list(",", `"`, "\r\n", "\r"), 8) {
		checkCsvAgain(t, s)
	}
	for _, s := range allOf("", list("a", ",", `"`, "\n"), 8) {
		checkLibraryCsv(t, s)
	}
}

// randomParts is a text of so many parts. In one of four texts others, which often are wrong, stand between some.
func randomParts(random *rand.Rand, count int, parts []string, wrong []string) string {
	faulty := random.Intn(4) == 0
	var b strings.Builder
	for range count {
		if faulty && random.Intn(20) == 0 {
			b.WriteString(wrong[random.Intn(len(wrong))])
		}
		b.WriteString(parts[random.Intn(len(parts))])
	}
	return b.String()
}

// randomCsv is a text of parts that mean something in a file, some of which are wrong where they stand.
func randomCsv(random *rand.Rand, count int) string {
	parts := list("a", "b c", "\u00e9", "\u8a9e\U0001f600", " ", ",", ",", ",", "\n", "\n", "\r\n", "\r\n", "\n\n", `"a"`, `"b,c"`, `""`, "\"d\ne\"", "\"f\r\n\"", `"g""h"`, `""""`, ",\"", "\",", "\"\n", ",\"i", "j\",")
	return randomParts(random, count, parts, list(`"`, "\r", `"`, `"""`))
}

// randomLargeCsv is a file with rows of nearly too many cells and with cells that are nearly too long.
func randomLargeCsv(random *rand.Rand) string {
	var b strings.Builder
	for range 1 + random.Intn(4) {
		long := strings.Repeat(list("a", "\u00e9", "b ")[random.Intn(3)], impl.MaxText/2-1)[:impl.MaxText/2-2]
		switch random.Intn(4) {
		case 0:
			b.WriteString(strings.Repeat(list(",", "a,", `"",`, "\"\n\",")[random.Intn(4)], impl.MaxFields-3+random.Intn(5)))
		case 1:
			b.WriteString(long + randomCell(random, random.Intn(10)) + long)
		case 2:
			b.WriteString(inQuotes(long + randomCell(random, random.Intn(10)) + long))
		default:
			b.WriteString(randomCsv(random, random.Intn(10)))
		}
		b.WriteString(list("\n", "\r\n", ",", ",", "", "x", "\r", `"`)[random.Intn(8)])
	}
	return b.String()
}

func TestRandomCsvFiles(t *testing.T) {
	random := rand.New(rand.NewSource(91))
	codes := map[int]int{}
	for range 60000 {
		s := randomCsv(random, random.Intn(30))
		checkCsvAgain(t, s)
		if !strings.Contains(s, "\r") {
			checkLibraryCsv(t, s)
		}
	}
	for range 20000 {
		s := randomLargeCsv(random)
		checkCsvAgain(t, s)
		_, _, code := impl.CsvRead(s)
		codes[code]++
	}
	for _, code := range []int{impl.CsOK, impl.CsFile, impl.CsQuote, impl.CsOpen, impl.CsEnd, impl.CsMany, impl.CsLong} {
		if codes[code] < 100 {
			t.Errorf("only %d files have the code %d", codes[code], code)
		}
	}
}

func TestCsvText(t *testing.T) {
	for _, c := range []struct {
		all  []impl.Row
		want string
	}{
		{nil, ""}, {rows(), ""}, {rows(row("")), "\n"}, {rows(row("", "")), ",\n"}, {rows(row(""), row("")), "\n\n"}, {rows(row("a")), "a\n"}, {rows(row("a", "b")), "a,b\n"}, {rows(row("", "a", "")), ",a,\n"}, {rows(row("a"), row("b", "c")), "a\nb,c\n"},
		{rows(row("a,b", "c", "d\ne"), row("")), "\"a,b\",c,\"d\ne\"\n\n"},
		// cells that must be quoted
		{rows(row(",")), "\",\"\n"}, {rows(row("a,b", "c")), "\"a,b\",c\n"}, {rows(row(`"`)), "\"\"\"\"\n"}, {rows(row(`""`)), "\"\"\"\"\"\"\n"}, {rows(row(`a"b`)), "\"a\"\"b\"\n"}, {rows(row(`"a"`, `b"`)), "\"\"\"a\"\"\",\"b\"\"\"\n"}, {rows(row("\n")), "\"\n\"\n"}, {rows(row("\r")), "\"\r\"\n"}, {rows(row("a\rb")), "\"a\rb\"\n"}, {rows(row("a\r\nb\n")), "\"a\r\nb\n\"\n"}, {rows(row("a\r")), "\"a\r\"\n"}, {rows(row("a,\"\n\r")), "\"a,\"\"\n\r\"\n"}, {rows(row("a", ",", "b")), "a,\",\",b\n"}, {rows(row("a"), row(",")), "a\n\",\"\n"},
		// cells that need not
		{rows(row(" ")), " \n"}, {rows(row(" a ", "\tb")), " a ,\tb\n"}, {rows(row("'", ";", `\`, "#", "=1")), "',;,\\,#,=1\n"}, {rows(row(`\.`)), "\\.\n"}, {rows(row("\x0b\x0c\x01")), "\x0b\x0c\x01\n"}, {rows(row("\u00e9", "\u8a9e\U0001f600")), "\u00e9,\u8a9e\U0001f600\n"}, {rows(row("\u2028\u0085", "\u00a0", "\ufeff")), "\u2028\u0085,\u00a0,\ufeff\n"}, {rows(row("\u201c\u201d\uff0c\uff02")), "\u201c\u201d\uff0c\uff02\n"}, {rows(row("\u012c\u0122\u010a\u010d")), "\u012c\u0122\u010a\u010d\n"},
		{rows(row("\u00e9,\u00e9", "\"\u8a9e")), "\"\u00e9,\u00e9\",\"\"\"\u8a9e\"\n"},
	} {
		checkCsvText(t, c.all, c.want, true)
		checkRowsRecovered(t, c.all)
	}
}

// checkLargest wants rows to have a text of MaxFile bytes, and none with a row or a cell more.
func (f rowFormat) checkLargest(t *testing.T, all []impl.Row) {
	t.Helper()
	s, ok := f.text(all)
	if !ok || len(s) != impl.MaxFile || !f.checkRecovered(t, all) {
		t.Fatalf("the text of %d rows %.100q has %d bytes, %v", len(all), all[:1], len(s), ok)
	}
	last := len(all) - 1
	for _, larger := range [][]impl.Row{
		append(slices.Clone(all), row("")),
		append(rows(row("")), all...),
		append(slices.Clone(all[:last]), row(append(slices.Clone(all[last].Cells), "")...)),
		append(slices.Clone(all[:last]), row(append(list(""), all[last].Cells...)...)),
	} {
		checkRowsOk(t, larger, true)
		f.checkText(t, larger, "", false)
	}
}

func TestLimitsOfCsvText(t *testing.T) {
	a := func(n int) string { return strings.Repeat("a", n) }
	most := impl.MaxFile
	for _, all := range [][]impl.Row{
		slices.Repeat(rows(row("")), most),
		slices.Repeat(rows(row("a")), most/2),
		slices.Repeat(rows(row("", "a", "")), most/4),
		slices.Repeat(rows(row(",")), most/4),
		slices.Repeat(rows(row("\u00e9", "")), most/4),
		slices.Repeat(rows(row(a(999))), 4),
		rows(row(a(1000), a(1000), a(1000), a(996))),
		rows(row(strings.Repeat(`"`, 1000), strings.Repeat(`"`, 997))),
		rows(row(strings.Repeat("\u00e9", 499)+",", a(1000), a(1000), a(992)+"\n")),
		append(slices.Repeat(rows(row(slices.Repeat(list(""), 100)...)), 39), row(a(99))),
	} {
		csvFormat().checkLargest(t, all)
	}
	checkCsvText(t, slices.Repeat(rows(row(a(999))), 3), strings.Repeat(a(999)+"\n", 3), true)
	// only what is written counts, with its quotation marks
	checkCsvText(t, rows(row(a(999)), row(a(999)), row(a(999)), row(a(998)+",")), "", false)
	checkCsvText(t, rows(row(a(999)), row(a(999)), row(a(999)), row(a(996)+",")), strings.Repeat(a(999)+"\n", 3)+"\""+a(996)+",\"\n", true)
	checkCsvText(t, rows(row(a(999)), row(a(999)), row(a(999)), row(a(995)+`"`)), strings.Repeat(a(999)+"\n", 3)+"\""+a(995)+"\"\"\"\n", true)
	checkCsvText(t, rows(row(a(999)), row(a(999)), row(a(999)), row(a(996)+`"`)), "", false)
	checkCsvText(t, rows(row(slices.Repeat(list(a(1000)), 100)...)), "", false)
	checkCsvText(t, slices.Repeat(rows(row(slices.Repeat(list(a(1000)), 100)...)), 100000), "", false)
}

func TestRowsOk(t *testing.T) {
	full := row(slices.Repeat(list("a"), impl.MaxFields)...)
	over := row(slices.Repeat(list("a"), impl.MaxFields+1)...)
	for _, all := range [][]impl.Row{nil, rows(), rows(row("")), rows(row("a"), row("a", "b")), rows(row(slices.Repeat(list(""), impl.MaxFields)...)), rows(full, row("a"), full), slices.Repeat(rows(full), 1000), slices.Repeat(rows(row("")), impl.MaxFile+1), rows(row(longestCells()...)), rows(row(sampleTexts()...))} {
		checkRowsOk(t, all, true)
	}
	for _, bad := range rows(row(), impl.Row{Cells: nil}, impl.Row{Cells: []string{}}, over, row(slices.Repeat(list(""), impl.MaxFields+1)...), row(slices.Repeat(list("a"), 100000)...), row("a\x00"), row("a", "\xff")) {
		checkRowsOk(t, rows(bad), false)
		checkRowsOk(t, rows(row("a"), bad), false)
		checkRowsOk(t, rows(bad, row("a")), false)
		checkRowsOk(t, rows(full, bad, full), false)
		checkRowsOk(t, append(slices.Repeat(rows(row("")), impl.MaxFile+1), bad), false)
	}
}

func TestRowsWithCellsThatAreNotTexts(t *testing.T) {
	for _, s := range notTexts() {
		checkRowsOk(t, rows(row(s)), false)
		checkRowsOk(t, rows(row(s, "a")), false)
		checkRowsOk(t, rows(row("a", s)), false)
		checkRowsOk(t, rows(row("a", s, "b")), false)
		checkRowsOk(t, rows(row("a"), row(s)), false)
		checkRowsOk(t, rows(row(s), row("a")), false)
		checkRowsOk(t, rows(row("a,b"), row("", "\"", s), row("a")), false)
		last := row(append(slices.Repeat(list(""), impl.MaxFields-1), s)...)
		checkRowsOk(t, rows(last), false)
	}
	// nor do two of them make one
	checkRowsOk(t, rows(row("\xc3", "\xa9")), false)
	checkRowsOk(t, rows(row("\xe8\xaa"), row("\x9e")), false)
}

// roomyRows returns rows with spare room behind each list, in which there is what must be neither read nor written.
func roomyRows(all []impl.Row) []impl.Row {
	var roomier []impl.Row
	for _, r := range all {
		roomier = append(roomier, row(append(slices.Clone(r.Cells), "\xff", "spare")[:len(r.Cells)]...))
	}
	return append(roomier, row("spare"), row("\x00"))[:len(all)]
}

// checkTextChangesNothing wants what is written to be as it was, also behind the lists.
func (f rowFormat) checkTextChangesNothing(t *testing.T, all []impl.Row) {
	t.Helper()
	spacious := roomyRows(all)
	for range 2 {
		checkRowsOk(t, spacious, secondRowsOk(all))
		want, ok := f.secondText(all)
		f.checkText(t, spacious, want, ok)
	}
	if !sameRows(spacious, all) || !sameRows(spacious[:len(all)+2][len(all):], rows(row("spare"), row("\x00"))) {
		t.Errorf("the rows %q are changed", all)
	}
	for i, r := range spacious {
		if n := len(r.Cells); !slices.Equal(r.Cells[:n+2][n:], list("\xff", "spare")) {
			t.Errorf("what is behind the cells of row %d of %q is changed", i, all)
		}
	}
}

func TestCsvChangesNothing(t *testing.T) {
	full := row(slices.Repeat(list("a"), impl.MaxFields)...)
	for _, all := range [][]impl.Row{nil, rows(row("")), rows(row("a", "b"), row(`c"d`, ",")), rows(full, full), rows(row(), row("a")), rows(row("a"), row("\xff", "b"))} {
		csvFormat().checkTextChangesNothing(t, all)
	}
}

// checkRowsShareNothing overwrites each list of a result, which changes no other one and no later result.
func (f rowFormat) checkRowsShareNothing(t *testing.T, s string) {
	t.Helper()
	want, at, code := f.secondRead(s)
	for i := range want {
		got, _, _ := f.read(s)
		spare := got[i].Cells[:cap(got[i].Cells)]
		for k := range spare {
			spare[k] = "changed"
		}
		for k := range got {
			if k != i && !slices.Equal(got[k].Cells, want[k].Cells) {
				t.Errorf("the rows %d and %d of %q share memory", i, k, s)
			}
		}
		f.checkRead(t, s, want, at, code)
	}
}

func TestRowsOfCsvShareNothing(t *testing.T) {
	for _, s := range list("a,b\nc\n\n\"d\",,e,f,g\r\nh", "\n\n\n", "a,b,c\nd\ne,f\"", "a\nb,c\n\"", strings.Repeat("a,b\n", 50)) {
		csvFormat().checkRowsShareNothing(t, s)
	}
}

// randomCell is a cell of so many code points, of which some must be quoted.
func randomCell(random *rand.Rand, length int) string {
	symbols := list("a", "b", " ", "\t", "\u00e9", "\u8a9e", "\U0001f600", "\\", "'", "\x01")
	if random.Intn(3) == 0 {
		symbols = list(",", `"`, "\n", "\r", "\r\n", `""`, "a", "\u00e9")
	}
	var b strings.Builder
	for range length {
		b.WriteString(symbols[random.Intn(len(symbols))])
	}
	return b.String()
}

// randomRows are rows that are RowsOk: a few or many, with a few or many cells, short ones or long ones.
func randomRows(random *rand.Rand, drawn func(*rand.Rand, int) string) []impl.Row {
	most := [][]int{{4, 5, 6}, {4, 5, 6}, {60, 4, 4}, {15, impl.MaxFields, 6}, {10, 4, 300}, {2, 3, 500}, {2000, 2, 2}}[random.Intn(7)]
	var all []impl.Row
	for range random.Intn(most[0] + 1) {
		var cells []string
		for range 1 + random.Intn(most[1]) {
			if cell := drawn(random, random.Intn(most[2]+1)); len(cell) <= impl.MaxText {
				cells = append(cells, cell)
			} else {
				cells = append(cells, "")
			}
		}
		all = append(all, row(cells...))
	}
	return all
}

// checkDrawnRows wants most of the rows of drawn cells, but not all of them, to have a text.
func checkDrawnRows(t *testing.T, random *rand.Rand, drawn func(*rand.Rand, int) string, recovered func(*testing.T, []impl.Row) bool) {
	t.Helper()
	kept, left := 0, 0
	for range 20000 {
		if recovered(t, randomRows(random, drawn)) {
			kept++
		} else {
			left++
		}
	}
	if kept < 10000 || left < 500 {
		t.Errorf("%d lists of rows have a text, and %d have none", kept, left)
	}
}

func TestP10DrawnRowsAreRecovered(t *testing.T) {
	checkDrawnRows(t, rand.New(rand.NewSource(92)), randomCell, checkRowsRecovered)
}

func TestP10RowsOfDrawnCodePointsAreRecovered(t *testing.T) {
	random := rand.New(rand.NewSource(93))
	for range 5000 {
		var all []impl.Row
		for range random.Intn(5) {
			var cells []string
			for range 1 + random.Intn(5) {
				cells = append(cells, randomText(random, random.Intn(8)))
			}
			all = append(all, row(cells...))
		}
		checkRowsRecovered(t, all)
	}
	for c := range 256 {
		if c > 0 {
			checkRowsRecovered(t, rows(row(shortest(c)), row("a"+shortest(c), shortest(c)+"b"), row("", shortest(c), "")))
		}
	}
}

func TestP10AllShortRowsAreRecovered(t *testing.T) {
	for _, one := range allOf("", list("a", ",", `"`, "\n", "\r", "\u00e9"), 4) {
		checkRowsRecovered(t, rows(row(one)))
		checkRowsRecovered(t, rows(row(one, one), row(one)))
	}
	cells := allOf("", list("a", ",", `"`, "\n", "\r"), 2)
	for _, one := range cells {
		for _, two := range cells {
			checkRowsRecovered(t, rows(row(one, two)))
			checkRowsRecovered(t, rows(row(one), row(two)))
			checkRowsRecovered(t, rows(row(one, "", two), row(two)))
		}
	}
}

func TestP10LargestRowsAreRecovered(t *testing.T) {
	for _, cell := range longestCells() {
		checkRowsRecovered(t, rows(row(cell)))
		checkRowsRecovered(t, rows(row("", cell, "a"), row("b")))
		checkRowsRecovered(t, rows(row("a"), row("b", cell)))
	}
	for _, c := range writtenCells() {
		full, _ := repeated(c, impl.MaxFields)
		checkRowsRecovered(t, rows(full))
		checkRowsRecovered(t, rows(full, row(c.cell), full))
		for count := range impl.MaxFields {
			some, _ := repeated(c, count+1)
			checkRowsRecovered(t, rows(some, row(""), some))
		}
		// as many rows as the file holds, and one more
		unit, _ := impl.CsvText(rows(row(c.cell, c.cell)))
		most := slices.Repeat(rows(row(c.cell, c.cell)), impl.MaxFile/len(unit))
		if !checkRowsRecovered(t, most) || checkRowsRecovered(t, append(most, row(c.cell, c.cell))) {
			t.Errorf("the rows of %q have no text, or one more has", c.cell)
		}
	}
}

// checkFileRecovered wants the rows of a file, also those before an error, to be recovered from their text. It
// returns whether they have a text.
func checkFileRecovered(t *testing.T, s string) bool {
	t.Helper()
	all, _, _ := impl.CsvRead(s)
	return checkRowsRecovered(t, all)
}

func TestP10RowsOfAllShortFilesAreRecovered(t *testing.T) {
	for _, s := range allOf("", list("a", ",", `"`, "\n", "\r\n"), 7) {
		if !checkFileRecovered(t, s) {
			t.Fatalf("the rows of %q have no text", s)
		}
	}
}

func TestP10RowsOfDrawnFilesAreRecovered(t *testing.T) {
	random := rand.New(rand.NewSource(94))
	for range 20000 {
		checkFileRecovered(t, randomCsv(random, random.Intn(60)))
		checkFileRecovered(t, randomLargeCsv(random))
		checkFileRecovered(t, randomText(random, random.Intn(60)))
	}
	for _, s := range append(sampleTexts(), notTexts()...) {
		checkFileRecovered(t, s)
	}
	// the last row has a 10 behind it in the text that it need not have in the file
	a := strings.Repeat("a", 999)
	if s := a + "\n" + a + "\n" + a + "\n" + a; !checkFileRecovered(t, s) || !checkFileRecovered(t, s+"\n") || checkFileRecovered(t, s+"b") {
		t.Error("the rows of a file of MaxFile bytes have no text, or one that is too long")
	}
}
