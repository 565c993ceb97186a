package tests

import (
	"math"
	"regexp"
	"slices"
	"strconv"
	"strings"
	"testing"
	"unsafe"

	"loop.example/g00477/impl"
)

// Promise 5: a schema is read from its text as it was.

const (
	longWord = "abcdwxyz" // as long as a word may be
	leastCut = -9999
	lastCut  = 9998
)

func TestSchemaLimits(t *testing.T) {
	if impl.MaxAttrs != 5 || impl.MaxBins != 4 || impl.MaxClasses != 3 || impl.MaxName != 8 {
		t.Error(impl.MaxAttrs, impl.MaxBins, impl.MaxClasses, impl.MaxName)
	}
}

// wrongWords are no words: empty, too long, or with a byte that is not from a to z.
func wrongWords() []string {
	return []string{
		"", " ", longWord + "a", longWord + longWord, strings.Repeat("a", 100000), "A", "aB", "Zz", "a1", "0", "7", "-1", "a b", " a", "a ", "a\n",
		"a,b", ",", "a;b", ";", "a|b", "|", "a:1", ":", "a=b", "=", "?", "`", "{", "a`", "a{", "_", "a-b", "\x00", "a\x00", "\x7f",
		"\xff", "a\xff", "\x80a", "\xc3", "ab\xc3", "\xe1\xbd", "\xf0\x9f\x98", "\xed\xa0\x80", "\xc1\xa1", "ä", "ß", "aé", "а", "ａ", "\ufffd", "\u0161", "\U00010061",
	}
}

func TestWordOk(t *testing.T) {
	for n := 1; n <= impl.MaxName; n++ {
		for _, s := range []string{longWord[:n], longWord[impl.MaxName-n:], strings.Repeat("a", n), strings.Repeat("z", n)} {
			if !impl.WordOk(s) {
				t.Errorf("WordOk(%q) is false", s)
			}
		}
	}
	for _, s := range wrongWords() {
		if impl.WordOk(s) {
			t.Errorf("WordOk(%.30q) is true", s)
		}
	}
}

func TestWordOkOfEachByteAtEachPlace(t *testing.T) {
	for n := 1; n <= impl.MaxName+1; n++ {
		for at := range n {
			for c := range 256 {
				b := []byte(strings.Repeat("m", n))
				b[at] = byte(c)
				want := n <= impl.MaxName && c >= 'a' && c <= 'z'
				if got := impl.WordOk(string(b)); got != want {
					t.Errorf("WordOk(%q) = %v", b, got)
				}
			}
		}
	}
}

func numeric(name string, cuts ...int) impl.Attr { return impl.Attr{Name: name, Cuts: cuts} }

func nominal(name string, values ...string) impl.Attr { return impl.Attr{Name: name, Values: values} }

type attrCase struct {
	attr impl.Attr
	text string
	bins int
}

func rightAttrs() []attrCase {
	return []attrCase{
		{numeric("age", -3, 10), "age:-3,10", 3},
		{numeric("a", 0), "a:0", 2},
		{numeric("a", 1, 2, 3), "a:1,2,3", 4},
		{numeric("z", leastCut), "z:-9999", 2},
		{numeric("z", lastCut), "z:9998", 2},
		{numeric(longWord, leastCut, lastCut), longWord + ":-9999,9998", 3},
		{numeric("b", leastCut, leastCut+1, leastCut+2), "b:-9999,-9998,-9997", 4},
		{numeric("b", lastCut-2, lastCut-1, lastCut), "b:9996,9997,9998", 4},
		{numeric("b", -1, 0, 1), "b:-1,0,1", 4},
		{numeric("b", -10, -9), "b:-10,-9", 3},
		{impl.Attr{Name: "c", Cuts: []int{5}, Values: []string{}}, "c:5", 2},
		{nominal("colour", "red", "blue", "x"), "colour=red,blue,x", 3},
		{nominal("a", "a", "b"), "a=a,b", 2},
		{nominal("a", "b", "a"), "a=b,a", 2},
		{nominal("a", "a", "aa", "aaa", "aaaa"), "a=a,aa,aaa,aaaa", 4},
		{nominal(longWord, longWord, "bcdefghi", "cdefghij", "defghijk"), longWord + "=" + longWord + ",bcdefghi,cdefghij,defghijk", 4},
		{impl.Attr{Name: "c", Cuts: []int{}, Values: []string{"x", "y"}}, "c=x,y", 2},
	}
}

func wrongAttrs() []impl.Attr {
	list := []impl.Attr{
		{}, {Name: "a"}, {Name: "a", Cuts: []int{}, Values: []string{}},
		{Name: "a", Cuts: []int{1}, Values: []string{"x", "y"}}, {Name: "a", Cuts: []int{1}, Values: []string{"x"}}, {Name: "a", Cuts: []int{1, 2}, Values: []string{""}},
		{Name: "a", Cuts: []int{1, 2, 3, 4}, Values: []string{"x", "y"}}, {Name: "a", Cuts: []int{1}, Values: []string{"x", "x"}},
		{Name: "a", Cuts: []int{2, 1}, Values: []string{"x", "y"}},
		nominal("a", "x"), nominal("a", ""), nominal("a", "", "x"), nominal("a", "v", "w", "x", "y", "z"), nominal("a", "v", "w", "x", "y", "v"),
		nominal("a", "x", "x"), nominal("a", "x", "y", "x"), nominal("a", "y", "x", "x"), nominal("a", "w", "x", "y", "x"), nominal("a", "w", "x", "y", "w"),
		numeric("a", 1, 2, 3, 4), numeric("a", 1, 1), numeric("a", 2, 1), numeric("a", 1, 2, 2), numeric("a", 1, 3, 2), numeric("a", 2, 1, 3), numeric("a", 1, 3, 1),
		numeric("a", 0, -1), numeric("a", -1, -2), numeric("a", lastCut, lastCut), numeric("a", leastCut, leastCut), numeric("a", lastCut, leastCut),
		numeric("a", leastCut-1), numeric("a", lastCut+1), numeric("a", leastCut-1, 0), numeric("a", 0, lastCut+1), numeric("a", 0, 1, lastCut+1), numeric("a", 0, lastCut+1, lastCut+2),
		numeric("a", math.MinInt), numeric("a", math.MaxInt), numeric("a", math.MinInt, math.MaxInt), numeric("a", math.MaxInt, math.MinInt), numeric("a", math.MaxInt, 1),
		numeric("a", 1<<32), numeric("a", 1<<32+5), numeric("a", -1<<32), numeric("a", 1, 1<<32+5),
	}
	for _, w := range wrongWords() {
		list = append(list, numeric(w, 1), nominal(w, "x", "y"), nominal("a", w, "y"), nominal("a", "x", w), nominal("a", "x", "y", "z", w))
	}
	return list
}

func attrIs(a impl.Attr, b impl.Attr) bool {
	return a.Name == b.Name && slices.Equal(a.Cuts, b.Cuts) && slices.Equal(a.Values, b.Values)
}

func schemaIs(a impl.Schema, b impl.Schema) bool {
	return slices.EqualFunc(a.Attrs, b.Attrs, attrIs) && slices.Equal(a.Classes, b.Classes)
}

func TestRightAttrs(t *testing.T) {
	for _, c := range rightAttrs() {
		if !impl.AttrOk(c.attr) || impl.Bins(c.attr) != c.bins || impl.AttrText(c.attr) != c.text {
			t.Errorf("%#v: %v, %d bins, %q", c.attr, impl.AttrOk(c.attr), impl.Bins(c.attr), impl.AttrText(c.attr))
		}
		if a, ok := impl.AttrOf(c.text); !ok || !attrIs(a, c.attr) {
			t.Errorf("AttrOf(%q) = %#v, %v", c.text, a, ok)
		}
	}
}

func TestWrongAttrsAreRefused(t *testing.T) {
	for _, a := range wrongAttrs() {
		if impl.AttrOk(a) || impl.Bins(a) != 0 || impl.AttrText(a) != "" {
			t.Errorf("%#v: %v, %d bins, %.60q", a, impl.AttrOk(a), impl.Bins(a), impl.AttrText(a))
		}
	}
}

func TestEachCutIsRightOrWrong(t *testing.T) {
	for c := leastCut - 3; c <= lastCut+3; c++ {
		a := numeric("a", c)
		want := c >= leastCut && c <= lastCut
		if impl.AttrOk(a) != want {
			t.Errorf("AttrOk(%v) = %v", a, !want)
		}
		text := "a:" + strconv.Itoa(c)
		if got, ok := impl.AttrOf(text); ok != want || want && !attrIs(got, a) {
			t.Errorf("AttrOf(%q) = %v, %v", text, got, ok)
		}
	}
}

var (
	attrForm   = regexp.MustCompile(`\A[a-z]{1,8}(:(0|-?[1-9][0-9]{0,3})(,(0|-?[1-9][0-9]{0,3})){0,2}|=[a-z]{1,8}(,[a-z]{1,8}){1,3})\z`)
	classForm  = regexp.MustCompile(`\A[a-z]{1,8}(,[a-z]{1,8}){1,2}\z`)
	wordOfForm = regexp.MustCompile(`[a-z]+`)
)

func differ(words []string) bool {
	for i, w := range words {
		if slices.Contains(words[:i], w) {
			return false
		}
	}
	return true
}

// attrByForm reads an attribute by its form alone, beside the program.
func attrByForm(s string) (impl.Attr, bool) {
	if !attrForm.MatchString(s) {
		return impl.Attr{}, false
	}
	a := impl.Attr{Name: wordOfForm.FindString(s)}
	rest := strings.Split(s[len(a.Name)+1:], ",")
	if s[len(a.Name)] == '=' {
		a.Values = rest
		return a, differ(rest)
	}
	ok := true
	for i, p := range rest {
		n, _ := strconv.Atoi(p)
		ok = ok && n <= lastCut && (i == 0 || a.Cuts[i-1] < n)
		a.Cuts = append(a.Cuts, n)
	}
	return a, ok
}

func schemaByForm(s string) (impl.Schema, bool) {
	left, right, ok := strings.Cut(s, "|")
	classes, list := strings.Split(right, ","), strings.Split(left, ";")
	ok = ok && classForm.MatchString(right) && differ(classes) && len(list) <= impl.MaxAttrs
	read := impl.Schema{Classes: classes}
	var names []string
	for _, p := range list {
		a, is := attrByForm(p)
		ok = ok && is
		read.Attrs = append(read.Attrs, a)
		names = append(names, a.Name)
	}
	return read, ok && differ(names)
}

// holdAttrText asks AttrOf for that text and holds it against attrByForm.
func holdAttrText(t *testing.T, s string) {
	t.Helper()
	want, is := attrByForm(s)
	if !is {
		want = impl.Attr{}
	}
	if a, ok := impl.AttrOf(s); ok != is || !attrIs(a, want) || is && impl.AttrText(a) != s {
		t.Errorf("AttrOf(%.60q) = %#v, %v", s, a, ok)
	}
}

func holdSchemaText(t *testing.T, s string) {
	t.Helper()
	want, is := schemaByForm(s)
	if !is {
		want = impl.Schema{}
	}
	if a, ok := impl.SchemaOf(s); ok != is || !schemaIs(a, want) || is && impl.SchemaText(a) != s {
		t.Errorf("SchemaOf(%.80q) = %#v, %v", s, a, ok)
	}
}

func refusedByAttrOf(t *testing.T, s string) {
	t.Helper()
	if a, ok := impl.AttrOf(s); ok || !attrIs(a, impl.Attr{}) {
		t.Errorf("AttrOf(%.60q) = %#v, %v", s, a, ok)
	}
}

func refusedBySchemaOf(t *testing.T, s string) {
	t.Helper()
	if a, ok := impl.SchemaOf(s); ok || !schemaIs(a, impl.Schema{}) {
		t.Errorf("SchemaOf(%.80q) = %#v, %v", s, a, ok)
	}
}

func wrongAttrTexts() []string {
	list := []string{
		"", "a", "ab", ":", "=", ",", "a:", "a=", ":1", "=x,y", "a:,", "a=,", "a:1,", "a:,1", "a:1,,2", "a=x,", "a=,x", "a=x,y,", "a=,x,y", "a=x,,y",
		"a=x", "a=x,x", "a=x,y,x", "a=v,w,x,y,z", "a:1,2,3,4", "a:2,1", "a:1,1", "a:1,3,2", "a:9999", "a:-10000", "a:10000", "a:1,9999", "a:-10000,1",
		"a::1", "a:=1", "a=:1", "a==x,y", "a=x=y", "a=x,y=z", "a:1:2", "a:1,2:3", "a:x,y", "a:1,x", "a=1,2", "a=x,1", "a=x,y:1", "a:1=x,y", "a:1;2", "a=x;y", "a:1|2", "a=x|y",
		"a,1", "a;1", "a|x,y", "a 1", "a x,y", "1:2", "a1:2", "A:1", "a=X,y", "a:1 ", " a:1", "a :1", "a: 1", "a:1, 2", "a=x, y", "a=x ,y", "a:1\n", "a=x,y\n", "\na:1",
		"a=x,y;", "a:1;", ";a:1", "a:1|x,y", "a:?", "a=?,x", "?:1", "a:1.0", "a:0x1", "a:1_0", "a:1e1", "a:٣", "a：1", "a＝x,y",
		"a\xff:1", "\xff:1", "\x80=x,y", "a:\xff", "a=\xff,x", "a=x\x80,y", "ä:1", "a=ä,b", "a\x00:1", "a:1\x00", "a:\x001", "a=x,y\x00",
		longWord + "a:1", longWord + "a=x,y", "a=" + longWord + "a,x", "a=x," + longWord + "a",
		"a:" + strings.Repeat("1,", 50000) + "1", "a=" + strings.Repeat("x,", 50000) + "y", strings.Repeat("a", 100000), "a:" + strings.Repeat(":", 50000),
		"a:18446744073709551617", "a:-18446744073709551615", "a:9223372036854775808",
	}
	for _, d := range wrongDigits() {
		list = append(list, "a:"+d, "a:"+d+",9", "a:-9,"+d, "a:-9,"+d+",9")
	}
	return list
}

func TestWrongAttrTextsAreRefused(t *testing.T) {
	for _, s := range wrongAttrTexts() {
		refusedByAttrOf(t, s)
		holdAttrText(t, s)
		refusedBySchemaOf(t, s+"|x,y")
		refusedBySchemaOf(t, s+";q:1|x,y")
		refusedBySchemaOf(t, "q:1;"+s+"|x,y")
	}
	// Two attributes are a schema's half, and no attribute.
	refusedByAttrOf(t, "a:1;b:2")
}

func TestEveryShortAttrTextIsReadOrRefused(t *testing.T) {
	everyText("ab:=,1-", 7, func(s string) { holdAttrText(t, s) })
	everyText("10+-,", 6, func(s string) { holdAttrText(t, "n:"+s) })
	everyText("ab,=", 8, func(s string) { holdAttrText(t, "n="+s) })
}

// nearby calls told with each text that is one byte away from s: one left out, one more, or another one.
func nearby(s string, told func(s string)) {
	for at := 0; at <= len(s); at++ {
		for _, sign := range []string{"a", "z", "0", "1", "9", "-", "+", ":", "=", ",", ";", "|", "?", " ", "A", "\x00", "\n", "\xff", "\xc3", "ä"} {
			told(s[:at] + sign + s[at:])
			if at < len(s) {
				told(s[:at] + sign + s[at+1:])
			}
		}
		if at < len(s) {
			told(s[:at] + s[at+1:])
			told(s[:at])
			told(s[at:])
		}
	}
}

func TestAttrTextsNearRightOnes(t *testing.T) {
	for _, c := range rightAttrs() {
		nearby(c.text, func(s string) { holdAttrText(t, s) })
	}
}

func manyAttrs(n int) []impl.Attr {
	var list []impl.Attr
	for i := range n {
		name := string(rune('a' + i))
		if i%2 == 0 {
			list = append(list, numeric(name, -i, 2*i+1))
		} else {
			list = append(list, nominal(name, "no", name, "yes"))
		}
	}
	return list
}

type schemaCase struct {
	schema impl.Schema
	text   string
}

func rightSchemas() []schemaCase {
	noYes := []string{"no", "yes"}
	list := []schemaCase{
		{impl.Schema{Attrs: []impl.Attr{numeric("age", -3, 10), nominal("colour", "red", "blue", "x")}, Classes: noYes}, "age:-3,10;colour=red,blue,x|no,yes"},
		{impl.Schema{Attrs: []impl.Attr{nominal("colour", "red", "blue", "x"), numeric("age", -3, 10)}, Classes: noYes}, "colour=red,blue,x;age:-3,10|no,yes"},
		{impl.Schema{Attrs: []impl.Attr{numeric("a", 0)}, Classes: []string{"a", "b"}}, "a:0|a,b"},
		{impl.Schema{Attrs: []impl.Attr{numeric("a", 0)}, Classes: []string{"b", "a"}}, "a:0|b,a"},
		{impl.Schema{Attrs: []impl.Attr{nominal("a", "a", "b")}, Classes: []string{"a", "b", "c"}}, "a=a,b|a,b,c"},
		{impl.Schema{Attrs: []impl.Attr{nominal("a", "x", "y"), nominal("b", "x", "y"), nominal("c", "a", "b")}, Classes: []string{"x", "y"}}, "a=x,y;b=x,y;c=a,b|x,y"},
		{impl.Schema{Attrs: []impl.Attr{numeric("a", 1), numeric("aa", 1)}, Classes: []string{longWord, "bcdefghi", "cdefghij"}}, "a:1;aa:1|" + longWord + ",bcdefghi,cdefghij"},
		{impl.Schema{Attrs: manyAttrs(5), Classes: []string{"u", "v", "w"}}, "a:0,1;b=no,b,yes;c:-2,5;d=no,d,yes;e:-4,9|u,v,w"},
		{impl.Schema{Attrs: manyAttrs(4), Classes: noYes}, "a:0,1;b=no,b,yes;c:-2,5;d=no,d,yes|no,yes"},
	}
	for _, c := range rightAttrs() {
		list = append(list, schemaCase{impl.Schema{Attrs: []impl.Attr{c.attr}, Classes: noYes}, c.text + "|no,yes"})
	}
	return list
}

func TestRightSchemas(t *testing.T) {
	for _, c := range rightSchemas() {
		if !impl.SchemaOk(c.schema) || impl.SchemaText(c.schema) != c.text {
			t.Errorf("%#v: %v, %q", c.schema, impl.SchemaOk(c.schema), impl.SchemaText(c.schema))
		}
		s, ok := impl.SchemaOf(c.text)
		if !ok || !schemaIs(s, c.schema) || !impl.SchemaSame(s, c.schema) || impl.SchemaText(s) != c.text {
			t.Errorf("SchemaOf(%q) = %#v, %v", c.text, s, ok)
		}
	}
}

func wrongSchemas() []impl.Schema {
	one, two := manyAttrs(1), []string{"x", "y"}
	list := []impl.Schema{
		{}, {Attrs: one}, {Classes: two}, {Attrs: []impl.Attr{}, Classes: two}, {Attrs: one, Classes: []string{}}, {Attrs: []impl.Attr{}, Classes: []string{}},
		{Attrs: one, Classes: []string{"x"}}, {Attrs: one, Classes: []string{"w", "x", "y", "z"}}, {Attrs: one, Classes: []string{"x", "x"}},
		{Attrs: one, Classes: []string{"x", "y", "x"}}, {Attrs: one, Classes: []string{"x", "y", "y"}}, {Attrs: one, Classes: []string{"x", "x", "y"}},
		{Attrs: manyAttrs(6), Classes: two}, {Attrs: manyAttrs(7), Classes: two}, {Attrs: manyAttrs(20), Classes: two}, {Attrs: make([]impl.Attr, 3), Classes: two},
		{Attrs: []impl.Attr{numeric("a", 1), numeric("a", 1)}, Classes: two}, {Attrs: []impl.Attr{numeric("a", 1), nominal("a", "x", "y")}, Classes: two},
		{Attrs: []impl.Attr{numeric("a", 1), numeric("b", 1), numeric("a", 2)}, Classes: two}, {Attrs: append(manyAttrs(4), numeric("a", 7)), Classes: two},
		{Attrs: append(manyAttrs(4), numeric("d", 7)), Classes: two},
	}
	for _, w := range wrongWords() {
		list = append(list, impl.Schema{Attrs: one, Classes: []string{w, "y"}}, impl.Schema{Attrs: one, Classes: []string{"x", w}}, impl.Schema{Attrs: one, Classes: []string{"x", "y", w}})
	}
	for _, a := range wrongAttrs() {
		list = append(list, impl.Schema{Attrs: []impl.Attr{a}, Classes: two}, impl.Schema{Attrs: []impl.Attr{a, numeric("q", 1)}, Classes: two}, impl.Schema{Attrs: []impl.Attr{numeric("q", 1), a}, Classes: two})
	}
	return list
}

func TestWrongSchemasAreRefused(t *testing.T) {
	for _, s := range wrongSchemas() {
		if impl.SchemaOk(s) || impl.SchemaText(s) != "" {
			t.Errorf("%#v: %v, %.80q", s, impl.SchemaOk(s), impl.SchemaText(s))
		}
	}
}

func wrongSchemaTexts() []string {
	list := []string{
		"", "|", "||", ";", ";|", "|,", ";|,", "a:1", "a:1|", "|x,y", "a:1|x", "a:1|x,", "a:1|,x", "a:1|,", "a:1|x,,y", "a:1|x,y,", "a:1|,x,y", "a:1|x,x", "a:1|x,y,x", "a:1|w,x,y,z",
		"a:1|x,y|", "|a:1|x,y", "a:1||x,y", "a:1|x|y", "a:1|x;y", "a:1;x,y", "a:1,x,y", "a:1;b:2", "x,y|a:1", "a:1;|x,y", ";a:1|x,y", "a:1;;b:2|x,y", "a:1;b:2;|x,y",
		"a:1,b:2|x,y", "a:1|b:2|x,y", "a:1;b|x,y", "a;b:1|x,y", "a:1;a:1|x,y", "a:1;a:2|x,y", "a:1;a=x,y|x,y", "a:1;b:1;a:1|x,y",
		"a:1;b:1;c:1;d:1;e:1;f:1|x,y", "a:1;b:1;c:1;d:1;e:1;a:1|x,y", "a:1;b:1;c:1;d:1;a:1|x,y",
		"a:1|X,y", "a:1|x,1", "a:1|x,?", "a:1|x y", "a:1|x, y", "a:1 |x,y", "a:1| x,y", "a:1|x,y ", " a:1|x,y", "a:1|x,y\n", "a:1; b:2|x,y",
		"a:1|x,\xff", "a:1|\x80,x", "a:1|x\xff,y", "a:1|ä,x", "a:1|x,y\x00", "\xff:1|x,y", "a:1|" + longWord + "a,x", "a:1|x," + longWord + "a",
		"age:10,-3|no,yes", "age:1|no", "age:9999|no,yes", "a=b|no,yes", "a=x;y|no,yes", "a:1;2|no,yes", "a:+1|x,y", "a:01|x,y", "a:-0|x,y",
		strings.Repeat("a:1;", 20000) + "a:1|x,y", "a:1|" + strings.Repeat("x,", 50000) + "y", strings.Repeat("|", 100000), strings.Repeat(";", 100000) + "|x,y",
	}
	return list
}

func TestWrongSchemaTextsAreRefused(t *testing.T) {
	for _, s := range wrongSchemaTexts() {
		refusedBySchemaOf(t, s)
		holdSchemaText(t, s)
	}
}

func TestEveryShortSchemaTextIsReadOrRefused(t *testing.T) {
	everyText("ab,|;", 7, func(s string) { holdSchemaText(t, "n:1"+s) })
	everyText("a1:;|,", 6, func(s string) { holdSchemaText(t, s+"x,y") })
}

func TestSchemaTextsNearRightOnes(t *testing.T) {
	for _, c := range rightSchemas() {
		nearby(c.text, func(s string) { holdSchemaText(t, s) })
	}
}

func plainSchema() impl.Schema {
	return impl.Schema{Attrs: []impl.Attr{numeric("age", -3, 10), nominal("colour", "red", "blue")}, Classes: []string{"no", "yes", "x"}}
}

// otherSchemas differ from plainSchema in one thing each, and two by two from each other.
func otherSchemas() []impl.Schema {
	var list []impl.Schema
	for _, change := range []func(s *impl.Schema){
		func(s *impl.Schema) { s.Attrs[0].Name = "agf" },
		func(s *impl.Schema) { s.Attrs[0].Name = "" },
		func(s *impl.Schema) { s.Attrs[1].Name = "color" },
		func(s *impl.Schema) { s.Attrs[1].Name = "Colour" },
		func(s *impl.Schema) { s.Attrs[0].Cuts[0] = -4 },
		func(s *impl.Schema) { s.Attrs[0].Cuts[1] = 11 },
		func(s *impl.Schema) { slices.Reverse(s.Attrs[0].Cuts) },
		func(s *impl.Schema) { s.Attrs[0].Cuts = s.Attrs[0].Cuts[:1] },
		func(s *impl.Schema) { s.Attrs[0].Cuts = append(s.Attrs[0].Cuts, 12) },
		func(s *impl.Schema) { s.Attrs[0].Cuts = nil },
		func(s *impl.Schema) { s.Attrs[0].Values = []string{"red", "blue"} },
		func(s *impl.Schema) { s.Attrs[1].Cuts = []int{-3, 10} },
		func(s *impl.Schema) { s.Attrs[1].Values[0] = "rot" },
		func(s *impl.Schema) { s.Attrs[1].Values[1] = "blau" },
		func(s *impl.Schema) { slices.Reverse(s.Attrs[1].Values) },
		func(s *impl.Schema) { s.Attrs[1].Values = s.Attrs[1].Values[:1] },
		func(s *impl.Schema) { s.Attrs[1].Values = append(s.Attrs[1].Values, "x") },
		func(s *impl.Schema) { s.Attrs[1].Values = nil },
		func(s *impl.Schema) { slices.Reverse(s.Attrs) },
		func(s *impl.Schema) { s.Attrs = s.Attrs[:1] },
		func(s *impl.Schema) { s.Attrs = s.Attrs[1:] },
		func(s *impl.Schema) { s.Attrs = append(s.Attrs, numeric("b", 1)) },
		func(s *impl.Schema) { s.Attrs = nil },
		func(s *impl.Schema) { s.Classes[0] = "not" },
		func(s *impl.Schema) { s.Classes[2] = "y" },
		func(s *impl.Schema) { slices.Reverse(s.Classes) },
		func(s *impl.Schema) { s.Classes = s.Classes[:2] },
		func(s *impl.Schema) { s.Classes = append(s.Classes, "") },
		func(s *impl.Schema) { s.Classes = nil },
	} {
		s := plainSchema()
		change(&s)
		list = append(list, s)
	}
	return list
}

func TestSchemaSame(t *testing.T) {
	list := append([]impl.Schema{plainSchema(), {}}, otherSchemas()...)
	again := append([]impl.Schema{plainSchema(), {}}, otherSchemas()...)
	for i, a := range list {
		for j, b := range again {
			if got := impl.SchemaSame(a, b); got != (i == j) {
				t.Errorf("SchemaSame(%#v, %#v) = %v", a, b, got)
			}
		}
	}
}

func TestSchemaSameTakesEmptyForNil(t *testing.T) {
	bare, empty := impl.Schema{}, impl.Schema{Attrs: []impl.Attr{}, Classes: []string{}}
	nils := impl.Schema{Attrs: []impl.Attr{{Name: "a"}}}
	empties := impl.Schema{Attrs: []impl.Attr{{Name: "a", Cuts: []int{}, Values: []string{}}}, Classes: []string{}}
	if !impl.SchemaSame(bare, empty) || !impl.SchemaSame(empty, bare) || !impl.SchemaSame(nils, empties) || !impl.SchemaSame(empties, nils) {
		t.Error("an empty list is not the same as nil")
	}
	if impl.SchemaSame(bare, nils) || impl.SchemaSame(empties, empty) {
		t.Error("an attribute is the same as none")
	}
}

func TestSchemaSameAtWrongSchemas(t *testing.T) {
	for i, a := range wrongSchemas() {
		if b := wrongSchemas()[i]; !impl.SchemaSame(a, b) {
			t.Fatalf("SchemaSame(%#v, itself) is false", a)
		}
		if impl.SchemaSame(a, plainSchema()) || impl.SchemaSame(plainSchema(), a) {
			t.Fatalf("%#v is the same as a right one", a)
		}
	}
}

// roomy has the same lists with spare room behind each, filled with other things.
func roomy(s impl.Schema) impl.Schema {
	attrs := slices.Clone(s.Attrs)
	for i, a := range attrs {
		attrs[i].Cuts = append(slices.Clone(a.Cuts), 77, 78)[:len(a.Cuts)]
		attrs[i].Values = append(slices.Clone(a.Values), "spare", "room")[:len(a.Values)]
	}
	attrs = append(attrs, numeric("spare", 1), numeric("room", 2))[:len(attrs)]
	return impl.Schema{Attrs: attrs, Classes: append(slices.Clone(s.Classes), "spare", "room")[:len(s.Classes)]}
}

func behind[T any](list []T) []T { return list[len(list) : len(list)+2] }

func TestSchemaArgumentsStayAsTheyWere(t *testing.T) {
	for _, want := range append([]impl.Schema{plainSchema()}, otherSchemas()...) {
		s := roomy(want)
		impl.SchemaOk(s)
		impl.SchemaText(s)
		impl.SchemaSame(s, s)
		for _, a := range s.Attrs {
			impl.AttrOk(a)
			impl.Bins(a)
			impl.AttrText(a)
		}
		if !schemaIs(s, want) || !slices.Equal(behind(s.Classes), []string{"spare", "room"}) || behind(s.Attrs)[0].Name != "spare" || behind(s.Attrs)[1].Name != "room" {
			t.Errorf("%#v became %#v", want, s)
		}
		for _, a := range s.Attrs {
			if !slices.Equal(behind(a.Cuts), []int{77, 78}) || !slices.Equal(behind(a.Values), []string{"spare", "room"}) {
				t.Errorf("the spare room of %#v was written into", a)
			}
		}
	}
}

func TestSchemaAnswersAreNewMemory(t *testing.T) {
	const text = "age:-3,10;colour=red,blue,x;b:-3,10;c=red,blue,x|red,blue,x"
	first, _ := impl.SchemaOf(text)
	second, _ := impl.SchemaOf(text)
	for i := range first.Attrs {
		clear(first.Attrs[i].Cuts)
		clear(first.Attrs[i].Values)
		for j := i + 1; j < len(first.Attrs); j++ {
			if !attrIs(first.Attrs[j], second.Attrs[j]) {
				t.Errorf("attribute %d turned with attribute %d", j, i)
			}
		}
	}
	if !slices.Equal(first.Classes, second.Classes) {
		t.Error("the classes turned with the values")
	}
	clear(first.Attrs)
	clear(first.Classes)
	if third, ok := impl.SchemaOf(text); !ok || impl.SchemaText(second) != text || impl.SchemaText(third) != text {
		t.Error("an answer turned with an earlier one")
	}
	a, _ := impl.AttrOf("a=x,y")
	_ = append(a.Values, "z")
	clear(a.Values)
	if b, ok := impl.AttrOf("a=x,y"); !ok || !attrIs(b, nominal("a", "x", "y")) {
		t.Errorf("AttrOf answered %#v", b)
	}
}

// within asks whether part lies in the memory of whole.
func within(part string, whole string) bool {
	at, from := uintptr(unsafe.Pointer(unsafe.StringData(part))), uintptr(unsafe.Pointer(unsafe.StringData(whole)))
	return part != "" && at >= from && at < from+uintptr(len(whole))
}

func TestWordsReadShareNoMemoryWithTheText(t *testing.T) {
	text := strings.Clone("age:-3,10;colour=red,blue,x|no,yes")
	s, _ := impl.SchemaOf(text)
	numbers, values := strings.Clone("age:-3,10"), strings.Clone("colour=red,blue")
	first, _ := impl.AttrOf(numbers)
	second, _ := impl.AttrOf(values)
	words := slices.Clone(s.Classes)
	for _, a := range append(s.Attrs, first, second) {
		words = append(append(words, a.Name), a.Values...)
	}
	if len(words) != 2+4+1+1+3 {
		t.Errorf("%q were read", words)
	}
	for _, w := range words {
		if within(w, text) || within(w, numbers) || within(w, values) {
			t.Errorf("%q shares the memory of the text it was read from", w)
		}
	}
}
