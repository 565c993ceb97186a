package tests

import (
	"bytes"
	"math"
	"regexp"
	"slices"
	"strconv"
	"strings"
	"testing"

	"loop.example/g00477/impl"
)

// Promise 7: an example is read from its text as it was; each row is read or refused.

func TestRowLimits(t *testing.T) {
	codes := []int{impl.RwOk, impl.RwSchema, impl.RwLong, impl.RwBar, impl.RwCount, impl.RwCell, impl.RwClass}
	if impl.MaxRow != 80 || !slices.Equal(codes, []int{0, 1, 2, 3, 4, 5, 6}) {
		t.Error(impl.MaxRow, codes)
	}
}

func example(class int, bins ...int) impl.Ex { return impl.Ex{Bins: bins, Class: class} }

func exIs(a impl.Ex, b impl.Ex) bool { return a.Class == b.Class && slices.Equal(a.Bins, b.Bins) }

// mustSchema reads a schema that a test names by its text.
func mustSchema(t *testing.T, text string) impl.Schema {
	t.Helper()
	s, ok := impl.SchemaOf(text)
	if !ok {
		t.Fatalf("SchemaOf(%q) is false", text)
	}
	return s
}

func holdRow(t *testing.T, s impl.Schema, row string, want impl.Ex, code int, at int) {
	t.Helper()
	e, c, p := impl.RowOf(s, []byte(row))
	if !exIs(e, want) || c != code || p != at {
		t.Errorf("RowOf(%.80q, %.90q) = %v, %d, %d, not %v, %d, %d", impl.SchemaText(s), row, e, c, p, want, code, at)
	}
}

func refusedRow(t *testing.T, s impl.Schema, row string, code int, at int) {
	t.Helper()
	holdRow(t, s, row, impl.Ex{}, code, at)
}

const (
	twoAttrs  = "age:-3,10;colour=red,blue|no,yes"
	fiveAttrs = "a:-9999,0,9998;b=w,x,y,z;c:0;d=yes,no;e:1,2,3|no,yes,x"
)

func TestRightRows(t *testing.T) {
	for _, c := range []struct {
		schema, row string
		want        impl.Ex
	}{
		{twoAttrs, "-9999,red|no", example(0, 0, 0)}, {twoAttrs, "-4,red|no", example(0, 0, 0)}, {twoAttrs, "-3,red|yes", example(1, 0, 0)},
		{twoAttrs, "-2,blue|no", example(0, 1, 1)}, {twoAttrs, "0,blue|yes", example(1, 1, 1)}, {twoAttrs, "10,blue|yes", example(1, 1, 1)},
		{twoAttrs, "11,red|no", example(0, 2, 0)}, {twoAttrs, "9999,red|no", example(0, 2, 0)},
		{twoAttrs, "?,red|no", example(0, -1, 0)}, {twoAttrs, "1,?|no", example(0, 1, -1)}, {twoAttrs, "1,red|?", example(-1, 1, 0)}, {twoAttrs, "?,?|?", example(-1, -1, -1)},
		{twoAttrs, "?,?|yes", example(1, -1, -1)}, {"age:0|no,yes", "0|no", example(0, 0)}, {"age:0|no,yes", "1|yes", example(1, 1)}, {"age:0|no,yes", "?|?", example(-1, -1)},
		{"a=a,b|a,b,c", "a|a", example(0, 0)}, {"a=a,b|a,b,c", "b|b", example(1, 1)}, {"a=a,b|a,b,c", "a|c", example(2, 0)}, {"a=b,a|c,b,a", "a|a", example(2, 1)},
		{"a=a,aa,aaa,aaaa|a,aa,aaa", "aaaa|aaa", example(2, 3)}, {"a=a,aa,aaa,aaaa|a,aa,aaa", "aa|a", example(0, 1)}, {"a=aaaa,aaa,aa,a|aaa,aa,a", "a|a", example(2, 3)},
		{fiveAttrs, "-9999,w,0,yes,1|no", example(0, 0, 0, 0, 0, 0)}, {fiveAttrs, "-9998,x,1,no,2|yes", example(1, 1, 1, 1, 1, 1)}, {fiveAttrs, "9998,y,-1,?,3|x", example(2, 2, 2, 0, -1, 2)},
		{fiveAttrs, "9999,z,?,no,4|?", example(-1, 3, 3, -1, 1, 3)}, {fiveAttrs, "?,?,?,?,?|?", example(-1, -1, -1, -1, -1, -1)},
	} {
		holdRow(t, mustSchema(t, c.schema), c.row, c.want, impl.RwOk, 0)
	}
}

func TestTheLongestRightRow(t *testing.T) {
	words := []string{"aaaaaaaa", "bbbbbbbb", "cccccccc", "dddddddd"}
	var attrs []impl.Attr
	for i := range impl.MaxAttrs {
		attrs = append(attrs, nominal(strings.Repeat(string(rune('v'+i)), impl.MaxName), words...))
	}
	s := impl.Schema{Attrs: attrs, Classes: words[:3]}
	row := "dddddddd,cccccccc,bbbbbbbb,aaaaaaaa,dddddddd|cccccccc"
	holdRow(t, s, row, example(2, 3, 2, 1, 0, 3), impl.RwOk, 0)
	if text := impl.ExText(s, example(2, 3, 2, 1, 0, 3)); text != row {
		t.Errorf("ExText = %q", text)
	}
}

func TestWrongRowsOfTwoAttributes(t *testing.T) {
	s := mustSchema(t, twoAttrs)
	for _, c := range []struct {
		row      string
		code, at int
	}{
		{"", impl.RwBar, 0}, {"1", impl.RwBar, 0}, {"1,red", impl.RwBar, 0}, {"1,red,no", impl.RwBar, 0}, {"1,red;no", impl.RwBar, 0}, {"1,red||no", impl.RwBar, 0}, {"1,red|no|", impl.RwBar, 0},
		{"|1,red|no", impl.RwBar, 0}, {"1|red|no", impl.RwBar, 0}, {"||", impl.RwBar, 0}, {"|||", impl.RwBar, 0}, {"1,pink||maybe", impl.RwBar, 0}, {"1,red\xa6no", impl.RwBar, 0}, {"1,red¦no", impl.RwBar, 0},
		{"|", impl.RwCount, 0}, {"|no", impl.RwCount, 0}, {"1|no", impl.RwCount, 0}, {"red|no", impl.RwCount, 0}, {"1,red,|no", impl.RwCount, 0}, {",1,red|no", impl.RwCount, 0}, {"1,,red|no", impl.RwCount, 0},
		{"1,red,1|no", impl.RwCount, 0}, {"pink|maybe", impl.RwCount, 0}, {"1,red,blue|maybe", impl.RwCount, 0}, {"1;red|no", impl.RwCount, 0}, {"?|?", impl.RwCount, 0}, {"?,?,?|?", impl.RwCount, 0},
		{"1,pink|no", impl.RwCell, 1}, {"+1,red|no", impl.RwCell, 0}, {"+1,pink|no", impl.RwCell, 0}, {"01,red|no", impl.RwCell, 0}, {"-0,red|no", impl.RwCell, 0}, {",red|no", impl.RwCell, 0},
		{"1,|no", impl.RwCell, 1}, {",|no", impl.RwCell, 0}, {",|", impl.RwCell, 0}, {"10000,red|no", impl.RwCell, 0}, {"-10000,red|no", impl.RwCell, 0}, {"red,1|no", impl.RwCell, 0}, {"red,red|no", impl.RwCell, 0},
		{"1,1|no", impl.RwCell, 1}, {"1,0|no", impl.RwCell, 1}, {"1,-1|no", impl.RwCell, 1}, {"??,red|no", impl.RwCell, 0}, {"1,??|no", impl.RwCell, 1}, {"? ,red|no", impl.RwCell, 0}, {"1, ?|no", impl.RwCell, 1},
		{"1,Red|no", impl.RwCell, 1}, {"1,re|no", impl.RwCell, 1}, {"1,redd|no", impl.RwCell, 1}, {"1,red |no", impl.RwCell, 1}, {" 1,red|no", impl.RwCell, 0}, {"1,colour|no", impl.RwCell, 1}, {"age,red|no", impl.RwCell, 0},
		{"1,no|red", impl.RwCell, 1}, {"1,pink|maybe", impl.RwCell, 1}, {"x,red|", impl.RwCell, 0}, {"1,red\x00|no", impl.RwCell, 1}, {"1.0,red|no", impl.RwCell, 0}, {"1,red\xff|no", impl.RwCell, 1},
		{"1,red|", impl.RwClass, 0}, {"1,red|maybe", impl.RwClass, 0}, {"1,red|No", impl.RwClass, 0}, {"1,red|no ", impl.RwClass, 0}, {"1,red| no", impl.RwClass, 0}, {"1,red|n", impl.RwClass, 0},
		{"1,red|noo", impl.RwClass, 0}, {"1,red|no,yes", impl.RwClass, 0}, {"1,red|no,", impl.RwClass, 0}, {"1,red|,", impl.RwClass, 0}, {"1,red|0", impl.RwClass, 0}, {"1,red|1", impl.RwClass, 0},
		{"1,red|-1", impl.RwClass, 0}, {"1,red|red", impl.RwClass, 0}, {"1,red|??", impl.RwClass, 0}, {"1,red|? ", impl.RwClass, 0}, {"1,red|no\n", impl.RwClass, 0}, {"?,?|x", impl.RwClass, 0}, {"1,red|no\x00", impl.RwClass, 0},
	} {
		refusedRow(t, s, c.row, c.code, c.at)
	}
	refusedRow(t, mustSchema(t, "age:0|no,yes"), "|no", impl.RwCell, 0)
	refusedRow(t, mustSchema(t, "age:0|no,yes"), "|", impl.RwCell, 0)
	refusedRow(t, mustSchema(t, "age=a,b|no,yes"), "|", impl.RwCell, 0)
}

var numberForm = regexp.MustCompile(`\A(0|-?[1-9][0-9]{0,3})\z`)

// cellByForm reads a cell by its form alone, beside the program.
func cellByForm(a impl.Attr, cell string) (int, bool) {
	if cell == "?" {
		return -1, true
	}
	for i, v := range a.Values {
		if v == cell {
			return i, true
		}
	}
	if len(a.Values) > 0 || !numberForm.MatchString(cell) {
		return 0, false
	}
	n, _ := strconv.Atoi(cell)
	return belowOf(a.Cuts, n), true
}

// rowByForm reads a row of a right schema beside the program.
func rowByForm(s impl.Schema, row string) (impl.Ex, int, int) {
	if len(row) > 80 {
		return impl.Ex{}, 2, 0
	}
	left, right, ok := strings.Cut(row, "|")
	if !ok || strings.Contains(right, "|") {
		return impl.Ex{}, 3, 0
	}
	if strings.Count(left, ",")+1 != len(s.Attrs) {
		return impl.Ex{}, 4, 0
	}
	read := impl.Ex{}
	for i, a := range s.Attrs {
		cell, rest, _ := strings.Cut(left, ",")
		bin, ok := cellByForm(a, cell)
		if !ok {
			return impl.Ex{}, 5, i
		}
		read.Bins = append(read.Bins, bin)
		left = rest
	}
	class, ok := cellByForm(impl.Attr{Values: s.Classes}, right)
	if !ok {
		return impl.Ex{}, 6, 0
	}
	read.Class = class
	return read, 0, 0
}

// holdRowText asks RowOf for that row and holds it against rowByForm; what is read must be a right example.
func holdRowText(t *testing.T, s impl.Schema, row string) {
	t.Helper()
	want, code, at := rowByForm(s, row)
	holdRow(t, s, row, want, code, at)
	if code == 0 && !impl.ExOk(s, want) {
		t.Errorf("ExOk(%q, %v) is false", impl.SchemaText(s), want)
	}
}

func TestEveryShortRowIsReadOrRefused(t *testing.T) {
	first, second, third := mustSchema(t, "n:0,1|a,b"), mustSchema(t, "n=a,b;m:1|a,b"), mustSchema(t, "n:-1;m=a,b;o=b,a|aa,b,a")
	everyText("01-+?|,a", 6, func(row string) {
		holdRowText(t, first, row)
		holdRowText(t, second, row)
	})
	everyText("ab?|,1", 7, func(row string) { holdRowText(t, third, row) })
	everyText("01-?|ab", 4, func(row string) { holdRowText(t, third, "1,a,"+row) })
}

func TestEachByteAloneAndAtEachPlaceOfARow(t *testing.T) {
	for _, text := range []string{twoAttrs, "age:0|no,yes", "age=a,b|no,yes"} {
		s := mustSchema(t, text)
		for c := range 256 {
			holdRowText(t, s, string([]byte{byte(c)}))
			for _, row := range []string{"10,red|no", "-3,blue|yes", "?,?|?", "1|no", "?|?", "a|yes"} {
				for at := range len(row) {
					b := []byte(row)
					b[at] = byte(c)
					holdRowText(t, s, string(b))
				}
			}
		}
	}
}

// everyExample tells each right example of a right schema.
func everyExample(s impl.Schema, told func(e impl.Ex)) {
	lists := [][]int{nil}
	for _, a := range s.Attrs {
		var longer [][]int
		for _, l := range lists {
			for bin := -1; bin < max(len(a.Values), len(a.Cuts)+1); bin++ {
				if bin < len(a.Values) || len(a.Cuts) > 0 {
					longer = append(longer, append(slices.Clone(l), bin))
				}
			}
		}
		lists = longer
	}
	for _, l := range lists {
		for class := -1; class < len(s.Classes); class++ {
			told(impl.Ex{Bins: l, Class: class})
		}
	}
}

// textOf writes a right example beside the program.
func textOf(s impl.Schema, e impl.Ex) string {
	text := ""
	for i, a := range s.Attrs {
		text += [2]string{"", ","}[min(i, 1)]
		switch bin := e.Bins[i]; {
		case bin == -1:
			text += "?"
		case len(a.Values) > 0:
			text += a.Values[bin]
		default:
			// The greatest number of a bin is its cut; the last bin has none, and its least number is told.
			n := slices.Max(a.Cuts) + 1
			if bin < len(a.Cuts) {
				n = a.Cuts[bin]
			}
			text += strconv.Itoa(n)
		}
	}
	if e.Class == -1 {
		return text + "|?"
	}
	return text + "|" + s.Classes[e.Class]
}

// rowSchemas are all right schemas of the schema's tests, and some with the most of everything.
func rowSchemas(t *testing.T) []impl.Schema {
	var list []impl.Schema
	for _, c := range rightSchemas() {
		list = append(list, c.schema)
	}
	return append(list, mustSchema(t, twoAttrs), mustSchema(t, fiveAttrs), mustSchema(t, "a:1,2,3;b=w,x,y,z;c:-3,-2,-1;d=z,y,x,w;e:-9999,-9998,9998|a,b,c"))
}

func TestExamplesAreReadFromTheirTextsAsTheyWere(t *testing.T) {
	for _, s := range rowSchemas(t) {
		many := 1
		for _, a := range s.Attrs {
			many *= impl.Bins(a) + 1
		}
		texts := map[string]bool{}
		everyExample(s, func(e impl.Ex) {
			text := impl.ExText(s, e)
			if !impl.ExOk(s, e) || text != textOf(s, e) || texts[text] {
				t.Fatalf("%q: %v: %v, %q", impl.SchemaText(s), e, impl.ExOk(s, e), text)
			}
			texts[text] = true
			got, code, at := impl.RowOf(s, []byte(text))
			if code != impl.RwOk || at != 0 || !exIs(got, e) || !impl.ExSame(got, e) {
				t.Fatalf("RowOf(%q, %q) = %v, %d, %d", impl.SchemaText(s), text, got, code, at)
			}
		})
		if len(texts) != many*(len(s.Classes)+1) {
			t.Errorf("%q: %d texts", impl.SchemaText(s), len(texts))
		}
	}
}

func TestRowsNearRightOnes(t *testing.T) {
	for _, s := range rowSchemas(t) {
		var list []string
		everyExample(s, func(e impl.Ex) { list = append(list, textOf(s, e)) })
		for i := 0; i < len(list); i += 1 + len(list)/30 {
			nearby(list[i], func(row string) { holdRowText(t, s, row) })
		}
	}
}

func TestEachNumberOfACellHasItsBin(t *testing.T) {
	for _, cuts := range [][]int{{0}, {-9999}, {9998}, {-9999, 9998}, {-1, 0, 1}, {-9999, -9998, -9997}, {9996, 9997, 9998}, {-500, 20, 7000}} {
		s := impl.Schema{Attrs: []impl.Attr{nominal("v", "a", "b"), numeric("n", cuts...)}, Classes: []string{"no", "yes"}}
		for n := -10002; n <= 10002; n++ {
			row := "b," + strconv.Itoa(n) + "|yes"
			if n < -9999 || n > 9999 {
				refusedRow(t, s, row, impl.RwCell, 1)
			} else {
				holdRow(t, s, row, example(1, 1, belowOf(cuts, n)), impl.RwOk, 0)
			}
		}
	}
}

// wrongNumbers are texts that Signed does not take and that have no sign of a row's form.
func wrongNumbers() []string {
	var list []string
	for _, d := range append(wrongDigits(), "10000", "-10000", "4294967297", "18446744073709551617", "-18446744073709551615", "1?", "?1", "??") {
		if len(d) <= 20 && !strings.ContainsAny(d, ",|") {
			list = append(list, d)
		}
	}
	return list
}

// wrongValues are no words of fiveAttrs, nor "?", and have no sign of a row's form.
func wrongValues() []string {
	list := []string{"v", "ww", "W", "w ", " w", "?w", "w?", "??", "no ", "yess", "ye", "Yes", "xy"}
	for _, w := range wrongWords() {
		if len(w) <= 20 && w != "?" && !strings.ContainsAny(w, ",|") {
			list = append(list, w)
		}
	}
	return append(list, "0", "1", "-1")
}

func TestTheFirstWrongCellIsTold(t *testing.T) {
	s := mustSchema(t, fiveAttrs)
	right := []string{"0", "x", "1", "no", "2"}
	for wrong := 1; wrong < 1<<len(right); wrong++ {
		first := 0
		for wrong>>first&1 == 0 {
			first++
		}
		for step := range 40 {
			cells := slices.Clone(right)
			for i := range cells {
				list := [][]string{wrongNumbers(), wrongValues()}[i%2]
				if wrong>>i&1 == 1 {
					cells[i] = list[(step*7+i)%len(list)]
				}
			}
			for _, class := range []string{"no", "x", "?", "", "maybe"} {
				row := strings.Join(cells, ",") + "|" + class
				if len(row) <= impl.MaxRow {
					refusedRow(t, s, row, impl.RwCell, first)
				}
			}
		}
	}
}

func TestEachWrongCellAtEachPlace(t *testing.T) {
	s := mustSchema(t, fiveAttrs)
	for at := range s.Attrs {
		for _, wrong := range [][]string{wrongNumbers(), wrongValues()}[at%2] {
			cells := []string{"?", "?", "?", "?", "?"}
			cells[at] = wrong
			refusedRow(t, s, strings.Join(cells, ",")+"|?", impl.RwCell, at)
		}
	}
}

func TestWrongClassesAreRefused(t *testing.T) {
	s := mustSchema(t, fiveAttrs)
	for _, wrong := range append(wrongValues(), "w", "a", "a:", ",", "no,", ",no", "no,yes", "no;yes") {
		refusedRow(t, s, "0,x,1,no,2|"+wrong, impl.RwClass, 0)
		refusedRow(t, s, "?,?,?,?,?|"+wrong, impl.RwClass, 0)
	}
}

func TestTooFewAndTooManyCellsAreRefused(t *testing.T) {
	for many := 1; many <= impl.MaxAttrs; many++ {
		s := impl.Schema{Attrs: manyAttrs(many), Classes: []string{"no", "yes"}}
		for cells := 1; cells <= 30; cells++ {
			row := strings.Repeat("?,", cells-1) + "?|yes"
			empty := strings.Repeat(",", cells-1) + "|yes"
			if cells == many {
				holdRow(t, s, row, example(1, slices.Repeat([]int{-1}, many)...), impl.RwOk, 0)
				refusedRow(t, s, empty, impl.RwCell, 0)
				continue
			}
			refusedRow(t, s, row, impl.RwCount, 0)
			refusedRow(t, s, empty, impl.RwCount, 0)
			refusedRow(t, s, empty+"x", impl.RwCount, 0)
		}
	}
}

// TestTheFirstReasonIsTold lays each set of faults into one row; the code of the first one is asked for.
func TestTheFirstReasonIsTold(t *testing.T) {
	right := mustSchema(t, twoAttrs)
	for _, noSchema := range []impl.Schema{{}, {Attrs: right.Attrs}, {Classes: right.Classes}, {Attrs: append(manyAttrs(1), numeric("a", 1)), Classes: right.Classes}} {
		for faults := 1; faults < 1<<6; faults++ {
			has := func(code int) bool { return faults>>(code-1)&1 == 1 }
			s, cells, bar, class := right, "1,red", "|", "no"
			if has(impl.RwCell) {
				cells = "1,pink"
			}
			if has(impl.RwCount) {
				cells += ",blue"
			}
			if has(impl.RwBar) {
				bar = "||"
			}
			if has(impl.RwClass) {
				class = "maybe"
			}
			if has(impl.RwLong) {
				class += strings.Repeat("x", impl.MaxRow)
			}
			if has(impl.RwSchema) {
				s = noSchema
			}
			code, at := impl.RwSchema, 0
			for !has(code) {
				code++
			}
			if code == impl.RwCell {
				at = 1
			}
			refusedRow(t, s, cells+bar+class, code, at)
			refusedRow(t, s, cells+strings.ReplaceAll(bar, "||", "")+class, code, at)
		}
	}
}

func TestRowsOfWrongSchemasAreRefused(t *testing.T) {
	for _, s := range wrongSchemas() {
		for _, row := range []string{"", "|", "?|?", "1|x", "1,1|x", "?,?|?", "1|no", "+1,pink|maybe", strings.Repeat("?", impl.MaxRow+1)} {
			e, code, at := impl.RowOf(s, []byte(row))
			if !exIs(e, impl.Ex{}) || code != impl.RwSchema || at != 0 {
				t.Fatalf("RowOf(%#v, %.20q) = %v, %d, %d", s, row, e, code, at)
			}
		}
	}
}

func TestRowsOfMaxRowBytesAndOneMore(t *testing.T) {
	s := mustSchema(t, twoAttrs)
	pad := func(row string, sign string, many int) string { return row + strings.Repeat(sign, many-len(row)) }
	for _, c := range []struct {
		row, sign string
		code, at  int
	}{
		{"", "x", impl.RwBar, 0}, {"1,red", "|", impl.RwBar, 0}, {"", "\xff", impl.RwBar, 0}, {"|", ",", impl.RwCount, 0}, {"|1,red|no", "x", impl.RwBar, 0},
		{"1,red|no", "x", impl.RwClass, 0}, {"1,red|", " ", impl.RwClass, 0}, {"1,pink|", "\x00", impl.RwCell, 1}, {"x,red|no", ",", impl.RwCell, 0}, {"1|", ",", impl.RwCount, 0},
	} {
		refusedRow(t, s, pad(c.row, c.sign, impl.MaxRow-1), c.code, c.at)
		refusedRow(t, s, pad(c.row, c.sign, impl.MaxRow), c.code, c.at)
		for _, many := range []int{impl.MaxRow + 1, impl.MaxRow + 2, 2 * impl.MaxRow, 256 + 8, 1<<16 + 8, 1 << 20} {
			refusedRow(t, s, pad(c.row, c.sign, many), impl.RwLong, 0)
		}
	}
	cells := func(many int) string { return strings.Repeat("0", many-len(",red|no")) + ",red|no" }
	refusedRow(t, s, cells(impl.MaxRow), impl.RwCell, 0)
	refusedRow(t, s, cells(impl.MaxRow+1), impl.RwLong, 0)
	commas := func(many int) string { return strings.Repeat(",", many-3) + "|no" }
	refusedRow(t, s, commas(impl.MaxRow), impl.RwCount, 0)
	refusedRow(t, s, commas(impl.MaxRow+1), impl.RwLong, 0)
}

func TestNilAndEmptyRows(t *testing.T) {
	s := mustSchema(t, twoAttrs)
	for _, row := range [][]byte{nil, {}, []byte("1,red|no")[:0]} {
		if e, code, at := impl.RowOf(s, row); !exIs(e, impl.Ex{}) || code != impl.RwBar || at != 0 {
			t.Errorf("RowOf of nothing = %v, %d, %d", e, code, at)
		}
		if _, code, _ := impl.RowOf(impl.Schema{}, row); code != impl.RwSchema {
			t.Errorf("RowOf of nothing at all has the code %d", code)
		}
	}
}

// noPlaces are none of so many places, nor -1; the great ones among them wrap round to one.
func noPlaces(many int) []int {
	return []int{
		-2, -3, many, many + 1, many + 2, 100, -100, 1 << 8, 1<<8 - 1, 1 << 16, 1<<16 - 1, 1 << 32, 1<<32 - 1, 1<<32 + 1, -1 << 32, -1<<32 + 1, 1 << 62,
		math.MaxInt, math.MaxInt - 1, math.MinInt, math.MinInt + 1,
	}
}

func refusedExample(t *testing.T, s impl.Schema, e impl.Ex) {
	t.Helper()
	if impl.ExOk(s, e) || impl.ExText(s, e) != "" {
		t.Errorf("%.80q, %v: %v, %q", impl.SchemaText(s), e, impl.ExOk(s, e), impl.ExText(s, e))
	}
}

func TestWrongExamplesAreRefused(t *testing.T) {
	for _, s := range rowSchemas(t) {
		for _, rest := range []int{-1, 0, 1} {
			bins := slices.Repeat([]int{rest}, len(s.Attrs))
			if !impl.ExOk(s, impl.Ex{Bins: bins, Class: rest}) {
				t.Errorf("%q: %v is wrong", impl.SchemaText(s), bins)
			}
			for at, a := range s.Attrs {
				for _, wrong := range noPlaces(impl.Bins(a)) {
					turned := slices.Clone(bins)
					turned[at] = wrong
					refusedExample(t, s, impl.Ex{Bins: turned, Class: rest})
				}
				refusedExample(t, s, impl.Ex{Bins: bins[:at], Class: rest})
			}
			refusedExample(t, s, impl.Ex{Bins: append(slices.Clone(bins), rest), Class: rest})
			refusedExample(t, s, impl.Ex{Bins: slices.Repeat(bins, 2), Class: rest})
			refusedExample(t, s, impl.Ex{Bins: make([]int, 1000), Class: rest})
			refusedExample(t, s, impl.Ex{Class: rest})
			refusedExample(t, s, impl.Ex{Bins: []int{}, Class: rest})
			for _, wrong := range noPlaces(len(s.Classes)) {
				refusedExample(t, s, impl.Ex{Bins: bins, Class: wrong})
			}
		}
	}
}

func TestTheGreatestPlacesAreRight(t *testing.T) {
	s := mustSchema(t, fiveAttrs)
	most := []int{3, 3, 1, 1, 3}
	if e := (impl.Ex{Bins: most, Class: 2}); !impl.ExOk(s, e) || impl.ExText(s, e) != "9999,z,1,no,4|x" {
		t.Errorf("%v: %q", e, impl.ExText(s, e))
	}
	for at := range most {
		bins := slices.Clone(most)
		bins[at]++
		refusedExample(t, s, impl.Ex{Bins: bins, Class: 2})
	}
	refusedExample(t, s, impl.Ex{Bins: most, Class: 3})
}

func TestExamplesOfWrongSchemasAreRefused(t *testing.T) {
	for _, s := range wrongSchemas() {
		for many := range 8 {
			for _, bin := range []int{-1, 0} {
				e := impl.Ex{Bins: slices.Repeat([]int{bin}, many), Class: bin}
				if impl.ExOk(s, e) || impl.ExText(s, e) != "" {
					t.Fatalf("%#v, %v: %v, %q", s, e, impl.ExOk(s, e), impl.ExText(s, e))
				}
			}
		}
	}
}

func TestCellText(t *testing.T) {
	for _, c := range []struct {
		attr  impl.Attr
		texts []string // of -1, 0, 1 and so on
	}{
		{numeric("age", -3, 10), []string{"?", "-3", "10", "11"}}, {numeric("a", 0), []string{"?", "0", "1"}}, {numeric("a", -1), []string{"?", "-1", "0"}},
		{numeric("a", -9999), []string{"?", "-9999", "-9998"}}, {numeric("a", 9998), []string{"?", "9998", "9999"}}, {numeric("a", -9999, 0, 9998), []string{"?", "-9999", "0", "9998", "9999"}},
		{numeric("a", 1, 2, 3), []string{"?", "1", "2", "3", "4"}}, {nominal("colour", "red", "blue"), []string{"?", "red", "blue"}}, {nominal("a", "d", "c", "b", "a"), []string{"?", "d", "c", "b", "a"}},
		{nominal("a", longWord, "x", "y"), []string{"?", longWord, "x", "y"}}, {impl.Attr{Name: "c", Cuts: []int{5}, Values: []string{}}, []string{"?", "5", "6"}},
		{impl.Attr{Name: "c", Cuts: []int{}, Values: []string{"x", "y"}}, []string{"?", "x", "y"}},
	} {
		for i, want := range c.texts {
			if got := impl.CellText(c.attr, i-1); got != want {
				t.Errorf("CellText(%v, %d) = %q", c.attr, i-1, got)
			}
		}
		for _, wrong := range noPlaces(len(c.texts) - 1) {
			if got := impl.CellText(c.attr, wrong); got != "" {
				t.Errorf("CellText(%v, %d) = %q", c.attr, wrong, got)
			}
		}
	}
}

func TestCellsOfWrongAttrsAreEmpty(t *testing.T) {
	for _, a := range wrongAttrs() {
		for _, bin := range append(noPlaces(4), -1, 0, 1, 2, 3) {
			if got := impl.CellText(a, bin); got != "" {
				t.Errorf("CellText(%#v, %d) = %q", a, bin, got)
			}
		}
	}
}

func TestEachCellIsReadAsItsBin(t *testing.T) {
	for _, c := range rightAttrs() {
		s := impl.Schema{Attrs: []impl.Attr{c.attr}, Classes: []string{"no", "yes"}}
		for bin := -1; bin < c.bins; bin++ {
			holdRow(t, s, impl.CellText(c.attr, bin)+"|yes", example(1, bin), impl.RwOk, 0)
		}
	}
}

func TestExSame(t *testing.T) {
	list := func() []impl.Ex {
		return []impl.Ex{
			{}, {Class: -1}, {Class: 1}, {Class: math.MinInt}, {Class: math.MaxInt}, {Class: 1 << 32}, example(0, 0), example(0, -1), example(0, 1), example(1, 0), example(-1, 0), example(-1, -1),
			example(0, 0, 0), example(0, 0, 1), example(0, 1, 0), example(0, 1, 2), example(0, 2, 1), example(0, 1, 2, 3), example(1, 1, 2, 3), example(0, 1, 2, 4), example(0, 1, 3, 3), example(0, 2, 2, 3),
			example(0, 1<<32), example(0, math.MaxInt), example(0, math.MinInt), example(0, limbsOf(7, 1000)...), example(0, limbsOf(7, 1001)...),
		}
	}
	for i, a := range list() {
		for j, b := range list() {
			if got := impl.ExSame(a, b); got != (i == j) {
				t.Errorf("ExSame(%v, %v) = %v", a, b, got)
			}
		}
	}
	if !impl.ExSame(impl.Ex{}, impl.Ex{Bins: []int{}}) || !impl.ExSame(impl.Ex{Bins: []int{}}, impl.Ex{}) {
		t.Error("an empty list is not the same as nil")
	}
	room := []int{1, 2, 3, 4}
	if !impl.ExSame(example(0, room[:2]...), example(0, 1, 2)) || impl.ExSame(example(0, room[:2]...), example(0, room...)) {
		t.Error("the room behind a list is asked")
	}
}

func TestRowArgumentsStayAsTheyWere(t *testing.T) {
	for _, text := range []string{"1,red|no", "?,?|?", "1,pink|no", "1|no", "1,red", "1,red|maybe", "", strings.Repeat("x", 90)} {
		for _, want := range append([]impl.Schema{plainSchema()}, otherSchemas()...) {
			s := roomy(want)
			row := []byte(text + "spare|room,")
			impl.RowOf(s, row[:len(text)])
			bins := []int{0, 1, 77, 78}
			e := impl.Ex{Bins: bins[:2], Class: 1}
			impl.ExOk(s, e)
			impl.ExText(s, e)
			impl.ExSame(e, e)
			for _, a := range s.Attrs {
				impl.CellText(a, 0)
			}
			if !bytes.Equal(row, []byte(text+"spare|room,")) || !slices.Equal(bins, []int{0, 1, 77, 78}) {
				t.Errorf("%q became %q, the bins %v", text, row, bins)
			}
			if !schemaIs(s, want) || !slices.Equal(behind(s.Classes), []string{"spare", "room"}) || behind(s.Attrs)[0].Name != "spare" {
				t.Errorf("%#v became %#v", want, s)
			}
			for _, a := range s.Attrs {
				if !slices.Equal(behind(a.Cuts), []int{77, 78}) || !slices.Equal(behind(a.Values), []string{"spare", "room"}) {
					t.Errorf("the spare room of %#v was written into", a)
				}
			}
		}
	}
}

func TestSpareRoomBehindARowIsNotAsked(t *testing.T) {
	s := roomy(mustSchema(t, twoAttrs))
	row := []byte("1,red|noxx|,?")
	if e, code, _ := impl.RowOf(s, row[:8]); code != impl.RwOk || !exIs(e, example(0, 1, 0)) {
		t.Errorf("RowOf = %v, %d", e, code)
	}
	refusedRow(t, s, "1,spare|no", impl.RwCell, 1)
	refusedRow(t, s, "1,red|spare", impl.RwClass, 0)
	refusedRow(t, s, "1,red,1|no", impl.RwCount, 0)
	if impl.CellText(s.Attrs[1], 2) != "" || impl.CellText(s.Attrs[0], 3) != "" || impl.CellText(s.Attrs[0], 2) != "11" || impl.ExOk(s, example(2, 0, 0)) {
		t.Error("the room behind a schema's lists is asked")
	}
}

func TestRowAnswersAreNewMemory(t *testing.T) {
	s := mustSchema(t, twoAttrs)
	row := []byte("11,blue|yes")
	first, _, _ := impl.RowOf(s, row)
	second, _, _ := impl.RowOf(s, row)
	spoil(first.Bins)
	clear(row)
	third, _, _ := impl.RowOf(s, []byte("11,blue|yes"))
	if !exIs(second, example(1, 2, 1)) || !exIs(third, example(1, 2, 1)) {
		t.Errorf("an answer turned with an earlier one: %v, %v", second, third)
	}
	word := strings.Clone("red")
	a := nominal("colour", word, "blue")
	if text := impl.CellText(a, 0); text != "red" || within(text, word) {
		t.Errorf("CellText = %q shares the memory of the value", text)
	}
	text := impl.ExText(s, second)
	if spoil(second.Bins); text != "11,blue|yes" {
		t.Errorf("ExText = %q", text)
	}
}
