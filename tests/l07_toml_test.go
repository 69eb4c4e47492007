package tests

import (
	"math/rand"
	"reflect"
	"regexp"
	"slices"
	"strconv"
	"strings"
	"testing"

	"loop.example/g00445/impl"
)

const (
	maxTables = 60
	maxFields = 20
)

func textField(key string, text string) impl.Field { return impl.Field{Key: key, Text: text} }

func listField(key string, list ...string) impl.Field {
	return impl.Field{Key: key, List: list, IsList: true}
}

func tableOf(name string, fields ...impl.Field) impl.Table {
	return impl.Table{Name: name, Fields: fields}
}

func tablesOf(list ...impl.Table) []impl.Table { return list }

// fieldsOf returns a field for every key, in turn with a text, with a list and with an empty list, from the given turn on.
func fieldsOf(keys []string, turn int) []impl.Field {
	fields := []impl.Field{}
	for i, key := range keys {
		text := "text " + strconv.Itoa(i)
		forms := []impl.Field{textField(key, text), listField(key, text, ""), listField(key)}
		fields = append(fields, forms[(turn+i)%3])
	}
	return fields
}

// manyTables returns that many tables, the first one with the given Name.
func manyTables(size int, first string) []impl.Table {
	list := []impl.Table{}
	for i := range size {
		list = append(list, tableOf("t"+strconv.Itoa(i), fieldsOf(numberedKeys(1+i%3), i)...))
	}
	list[0].Name = first
	return list
}

// keyTexts returns texts that are a Key, and texts that are none.
func keyTexts() ([]string, []string) {
	long := strings.Repeat("k", 29)
	good := []string{"--", "a-b_c9", "node_modules", long, long + "-", "0123456789_-abcdefghijklmnopqr"}
	bad := []string{"", long + "kk", long + "kkk", strings.Repeat("-", 100), "aB", "a.b", "a b", "a=", "\"a\"", "a\n", "\u00e9", "[[a]]"}
	for c := range 256 {
		one := string([]byte{byte(c)})
		if strings.Contains("abcdefghijklmnopqrstuvwxyz0123456789_-", one) {
			good = append(good, one, one+"a", "a"+one, long+one)
		} else {
			bad = append(bad, one, one+"a", "a"+one, "a"+one+"b", long+one)
		}
	}
	slices.Sort(good)
	return slices.Compact(good), bad
}

// goodTables returns valid lists of tables with their texts.
func goodTables() map[string][]impl.Table {
	a := tableOf("a")
	return map[string][]impl.Table{
		"":                              {},
		"[[a]]\n":                       {a},
		"[[a]]\n\n[[b]]\n":              {a, tableOf("b")},
		"[[a]]\n\n[[a]]\n\n[[a]]\n":     {a, a, a},
		"k = \"\"\n":                    {tableOf("", textField("k", ""))},
		"k = []\n":                      {tableOf("", listField("k"))},
		"k = [\n \"\",\n]\n":            {tableOf("", listField("k", ""))},
		"k = \"v\"\n\n[[a]]\n":          {tableOf("", textField("k", "v")), a},
		"k = [\n \"v\",\n]\n\n[[k]]\n":  {tableOf("", listField("k", "v")), tableOf("k")},
		"k = []\n\n[[a]]\nk = []\n":     {tableOf("", listField("k")), tableOf("a", listField("k"))},
		"[[a]]\nk = \"v\"\n":            {tableOf("a", textField("k", "v"))},
		"[[a]]\nb = \"v\"\na = \"v\"\n": {tableOf("a", textField("b", "v"), textField("a", "v"))},
		"[[-]]\n_ = \"-\"\n9 = \"_\"\n": {tableOf("-", textField("_", "-"), textField("9", "_"))},
		"k = \" = \"\n":                 {tableOf("", textField("k", " = "))},
		"k = \"[\"\nl = \"[]\"\n":       {tableOf("", textField("k", "["), textField("l", "[]"))},
		"k = [\n \"]\",\n \",\",\n]\n":  {tableOf("", listField("k", "]", ","))},
		"k = \"[[a]]\"\n":               {tableOf("", textField("k", "[[a]]"))},
		"k = \"\\\"\\\\\\n\\x00\\xff\"\n": {
			tableOf("", textField("k", "\"\\\n\x00\xff")),
		},
		"[[a]]\nk = [\n \"\\n\",\n \"\",\n \"\\\"\",\n \"\\\\\",\n \"\\x09\\x7f\\xc3\\xa9\",\n]\nl = [\n \"v\",\n \"v\",\n]\nm = []\nn = \"v\"\n\n[[b]]\nk = \"v\"\n": {
			tableOf("a", listField("k", "\n", "", "\"", "\\", "\t\x7f\u00e9"), listField("l", "v", "v"), listField("m"), textField("n", "v")),
			tableOf("b", textField("k", "v")),
		},
		"version = \"4\"\n\n[[package]]\nname = \"root\"\ndependencies = [\n \"b 1.0.0\",\n \"c\",\n]\n\n[[package]]\nname = \"c\"\n": {
			tableOf("", textField("version", "4")),
			tableOf("package", textField("name", "root"), listField("dependencies", "b 1.0.0", "c")),
			tableOf("package", textField("name", "c")),
		},
	}
}

// edgeTables returns valid lists of tables that meet a limit or nearly do, or use every Key.
func edgeTables() [][]impl.Table {
	list := [][]impl.Table{}
	for _, name := range []string{"", "a"} {
		for _, size := range []int{1, 2, maxTables - 1, maxTables} {
			list = append(list, manyTables(size, name))
		}
		for _, size := range []int{1, maxFields - 1, maxFields} {
			for turn := range 3 {
				list = append(list, tablesOf(tableOf(name, fieldsOf(numberedKeys(size), turn)...)))
			}
		}
	}
	good, _ := keyTexts()
	for _, key := range good {
		list = append(list, tablesOf(tableOf("", textField(key, key))), tablesOf(tableOf(key)), tablesOf(tableOf("a", listField(key)), tableOf(key, listField("k", key))))
	}
	return list
}

// badFields returns fields that are invalid each.
func badFields() []impl.Field {
	list := []impl.Field{
		{Key: "k", Text: "v", IsList: true}, {Key: "k", Text: "\x00", IsList: true}, {Key: "k", Text: "v", List: []string{"v"}, IsList: true},
		{Key: "k", List: []string{"v"}}, {Key: "k", List: []string{""}}, {Key: "k", Text: "v", List: []string{"v"}},
	}
	_, bad := keyTexts()
	for _, key := range bad {
		list = append(list, textField(key, "v"), listField(key, "v"), listField(key))
	}
	return list
}

// badTables returns invalid lists of tables.
func badTables() [][]impl.Table {
	a, first := tableOf("a"), tableOf("", textField("k", "v"))
	list := [][]impl.Table{
		{{}}, {{}, a}, {a, {}}, {a, first}, {a, a, first}, {a, first, a}, {first, first}, {first, {}}, {first, a, first}, {{}, first}, {first, a, a, {}},
		manyTables(maxTables+1, ""), manyTables(maxTables+1, "a"), manyTables(2*maxTables, "a"), make([]impl.Table, 10000), slices.Repeat(tablesOf(a), maxTables+1),
	}
	for _, name := range []string{"", "a"} {
		for turn := range 3 {
			for _, size := range []int{maxFields + 1, maxFields + 2, 1000} {
				list = append(list, tablesOf(tableOf(name, fieldsOf(numberedKeys(size), turn)...)))
			}
			for _, keys := range []string{"k k", "k l k", "l k k", "k k l", "k k k", "a b c d e f g a"} {
				double := tableOf(name, fieldsOf(strings.Fields(keys), turn)...)
				list = append(list, tablesOf(double), tablesOf(double, a), tablesOf(first, tableOf("b", double.Fields...)))
			}
		}
		for _, f := range badFields() {
			list = append(list, tablesOf(tableOf(name, f)), tablesOf(tableOf(name, textField("other", "v"), f)), tablesOf(first, tableOf("b", f, listField("other"))))
		}
	}
	_, bad := keyTexts()
	for _, name := range bad {
		if name != "" {
			list = append(list, tablesOf(tableOf(name)), tablesOf(tableOf(name, textField("k", "v"))))
		}
		list = append(list, tablesOf(a, tableOf(name, textField("k", "v"))), tablesOf(first, tableOf(name), a))
	}
	return list
}

func TestTablesOk(t *testing.T) {
	good := append(edgeTables(), nil, tablesOf(impl.Table{Name: "a", Fields: []impl.Field{}}), tablesOf(tableOf("a", impl.Field{Key: "k", List: []string{}})))
	for _, list := range goodTables() {
		good = append(good, list)
	}
	for _, list := range good {
		if !impl.TablesOk(list) {
			t.Errorf("TablesOk(%s) is false", brief(list))
		}
	}
	for i, list := range badTables() {
		if impl.TablesOk(list) {
			t.Errorf("TablesOk of the invalid list %d: %s is true", i, brief(list))
		}
		if got := impl.PutTables(list); got != "" {
			t.Errorf("PutTables of the invalid list %d: %s = %.300q", i, brief(list), got)
		}
	}
}

func sameField(a impl.Field, b impl.Field) bool {
	return a.Key == b.Key && a.Text == b.Text && a.IsList == b.IsList && slices.Equal(a.List, b.List)
}

// sameTables compares without the program; nil and empty slices are equal.
func sameTables(a []impl.Table, b []impl.Table) bool {
	return slices.EqualFunc(a, b, func(x impl.Table, y impl.Table) bool {
		return x.Name == y.Name && slices.EqualFunc(x.Fields, y.Fields, sameField)
	})
}

const quoteForm = `"(?:[ !#-\[\]-~]|\\["\\n]|\\x(?:0[0-9b-f]|1[0-9a-f]|7f|[89a-f][0-9a-f]))*"`

// lineForms are the lines of a text of tables, each with what follows it.
var lineForms = map[string]*regexp.Regexp{
	"name":    regexp.MustCompile(`^\[\[([a-z0-9_-]{1,30})\]\]$`),
	"text":    regexp.MustCompile(`^([a-z0-9_-]{1,30}) = (` + quoteForm + `)$`),
	"empty":   regexp.MustCompile(`^([a-z0-9_-]{1,30}) = \[\]$`),
	"open":    regexp.MustCompile(`^([a-z0-9_-]{1,30}) = \[$`),
	"element": regexp.MustCompile(`^ (` + quoteForm + `),$`),
	"close":   regexp.MustCompile(`^\]$`),
	"gap":     regexp.MustCompile(`^$`),
}

// followers tells for every line which ones may come after it; a text begins as after start.
var followers = map[string][]string{
	"start":   {"name", "text", "empty", "open"},
	"name":    {"text", "empty", "open", "gap"},
	"text":    {"text", "empty", "open", "gap"},
	"empty":   {"text", "empty", "open", "gap"},
	"close":   {"text", "empty", "open", "gap"},
	"open":    {"element"},
	"element": {"element", "close"},
	"gap":     {"name"},
}

// unquoted returns the string of a text in the form of Quote; its escapes are also Go's.
func unquoted(s string) string {
	text, _ := strconv.Unquote(s)
	return text
}

// putLine adds to the tables what the line of that form, with these parts, says.
func putLine(list []impl.Table, form string, parts []string) []impl.Table {
	if form == "name" {
		return append(list, tableOf(parts[1]))
	}
	if len(list) == 0 {
		list = tablesOf(impl.Table{})
	}
	last := &list[len(list)-1]
	switch form {
	case "text":
		last.Fields = append(last.Fields, textField(parts[1], unquoted(parts[2])))
	case "empty", "open":
		last.Fields = append(last.Fields, listField(parts[1]))
	case "element":
		f := &last.Fields[len(last.Fields)-1]
		f.List = append(f.List, unquoted(parts[1]))
	}
	return list
}

// withinLimits reports whether tables of lines that all fit are valid.
func withinLimits(list []impl.Table) bool {
	for _, x := range list {
		keys := map[string]bool{}
		for _, f := range x.Fields {
			keys[f.Key] = true
		}
		if len(x.Fields) > maxFields || len(keys) < len(x.Fields) {
			return false
		}
	}
	return len(list) <= maxTables
}

// wantTables tells by the forms of the lines what GetTables returns.
func wantTables(s string) ([]impl.Table, int) {
	if s == "" {
		return nil, 0
	}
	if len(s) > maxFile {
		return nil, 1
	}
	lines := strings.Split(s, "\n")
	if lines[len(lines)-1] != "" {
		return nil, len(lines)
	}
	lines = lines[:len(lines)-1]
	list, last := []impl.Table{}, "start"
	for i, line := range lines {
		at := slices.IndexFunc(followers[last], func(form string) bool { return lineForms[form].MatchString(line) })
		if at < 0 {
			return nil, i + 1
		}
		last = followers[last][at]
		list = putLine(list, last, lineForms[last].FindStringSubmatch(line))
	}
	switch {
	case last == "open" || last == "element" || last == "gap":
		return nil, len(lines)
	case !withinLimits(list):
		return nil, 1
	}
	return list, 0
}

// checkTables checks what GetTables returns for s, and that PutTables writes s again if it takes it.
func checkTables(t *testing.T, s string) int {
	t.Helper()
	want, wantLine := wantTables(s)
	got, line := impl.GetTables(s)
	if line != wantLine || !sameTables(got, want) {
		t.Errorf("GetTables(%.300q) = %s, %d; want %s, %d", s, brief(got), line, brief(want), wantLine)
	}
	if line == 0 && (impl.PutTables(got) != s || !impl.TablesOk(got)) {
		t.Errorf("GetTables(%.300q) is written as %.300q", s, impl.PutTables(got))
	}
	return wantLine
}

func checkNoTables(t *testing.T, s string, want int) {
	t.Helper()
	if got, line := impl.GetTables(s); line != want || len(got) != 0 {
		t.Errorf("GetTables(%.300q) = %s, %d; want %d", s, brief(got), line, want)
	}
	if got := checkTables(t, s); got != want {
		t.Errorf("%.300q: the test's own reading returns %d, want %d", s, got, want)
	}
}

// checkTablesBack checks that the valid list is recovered from its text, and returns the text.
func checkTablesBack(t *testing.T, list []impl.Table) string {
	t.Helper()
	text := impl.PutTables(list)
	if got, line := impl.GetTables(text); line != 0 || !sameTables(got, list) {
		t.Errorf("%s is written as %.300q and read as %s, %d", brief(list), text, brief(got), line)
	}
	if want, line := wantTables(text); line != 0 || !sameTables(want, list) {
		t.Errorf("%s is written as %.300q, which does not stand for it", brief(list), text)
	}
	return text
}

func TestPromise7Texts(t *testing.T) {
	for want, list := range goodTables() {
		if got := checkTablesBack(t, list); got != want {
			t.Errorf("PutTables(%v) = %q, want %q", list, got, want)
		}
	}
	for _, list := range edgeTables() {
		checkTablesBack(t, list)
	}
	for _, s := range byteTexts() {
		if len(s) < 1000 {
			checkTablesBack(t, tablesOf(tableOf("", textField("k", s), listField("l", s)), tableOf("a", listField("k", "", s, s+s, ""), textField("l", s))))
		}
	}
	// nil and empty lists are written alike
	for _, list := range [][]impl.Table{{{Name: "a", Fields: []impl.Field{}}}, {{Name: "a", Fields: []impl.Field{{Key: "k", List: []string{}}, {Key: "l", List: []string{}, IsList: true}}}}} {
		checkTablesBack(t, list)
	}
}

// randomTables returns a valid list of tables.
func randomTables(r *rand.Rand) []impl.Table {
	list := []impl.Table{}
	good, _ := keyTexts()
	for size := r.Intn(6); size > 0; size-- {
		x := tableOf(good[r.Intn(len(good))])
		for _, at := range r.Perm(len(good))[:r.Intn(6)] {
			f := textField(good[at], randomText(r))
			if r.Intn(2) == 0 {
				f = listField(good[at])
				for range r.Intn(4) {
					f.List = append(f.List, randomText(r))
				}
			}
			x.Fields = append(x.Fields, f)
		}
		if len(list) == 0 && len(x.Fields) > 0 && r.Intn(2) == 0 {
			x.Name = ""
		}
		list = append(list, x)
	}
	return list
}

func TestPromise7RandomTables(t *testing.T) {
	r := rand.New(rand.NewSource(7))
	texts := map[string][]impl.Table{}
	for range 3000 {
		list := randomTables(r)
		if !impl.TablesOk(list) {
			t.Fatalf("%v is not accepted", list)
		}
		text := checkTablesBack(t, list)
		if other, found := texts[text]; found && !sameTables(list, other) {
			t.Errorf("%v and %v are both written as %q", list, other, text)
		}
		texts[text] = list
	}
	if len(texts) < 2000 {
		t.Errorf("there are only %d texts", len(texts))
	}
}

// PutTables knows no limit for its text; GetTables does.
func TestTablesFileLimit(t *testing.T) {
	for _, size := range []int{maxFile - 1, maxFile, maxFile + 1, maxFile + 2, 3 * maxFile} {
		filler := strings.Repeat("a", size)
		short := size <= maxFile
		lists := [][]impl.Table{
			tablesOf(tableOf("", textField("k", filler[:size-7]))),
			tablesOf(tableOf("a", listField("k", filler[:size-19]))),
			tablesOf(tableOf("", listField("k", append(slices.Repeat([]string{""}, size/5-8), filler[:size%5+27])...))),
		}
		for i, list := range lists {
			text := impl.PutTables(list)
			if len(text) != size {
				t.Fatalf("text %d has %d bytes, want %d", i, len(text), size)
			}
			if got, line := impl.GetTables(text); short != (line == 0) || short != sameTables(got, list) {
				t.Errorf("GetTables of text %d of %d bytes returns %d", i, size, line)
			}
			checkTables(t, text)
			// the size decides first, then the newline at the end, then the lines
			if want := strings.Count(text, "\n"); short {
				checkNoTables(t, text[:size-1]+"x", want)
				checkNoTables(t, "\n"+text[:size-2]+"x", want+1)
			} else {
				checkNoTables(t, text, 1)
				checkNoTables(t, text[:size-1]+"x", 1)
				checkNoTables(t, "[[a]]\n?\n"+text, 1)
			}
		}
		newlines := strings.Repeat("\n", size)
		checkNoTables(t, newlines, 1)
		if short {
			checkNoTables(t, newlines[1:]+"x", size)
			checkNoTables(t, "[[a]]\n"+newlines[6:], 3)
		} else {
			checkNoTables(t, newlines[1:]+"x", 1)
			checkNoTables(t, "[[a]]\n"+newlines[6:], 1)
		}
	}
}

func TestPromise7LineNumbers(t *testing.T) {
	cases := map[string]int{
		// no newline at the end: the last line, whatever comes before
		"x": 1, " ": 1, "[[a]]": 1, "k = \"v\"": 1, "]": 1, "[[a]]\nk = \"v\"": 2, "[[a]]\n\n[[b]]": 3, "?\n?\n?": 3, "\n\n\n\n]": 5, "k = [\n \"v\",\n]": 3, "k = \"v\"\nk = \"v\"": 2, "[[a]]\n ": 2, "[[a]]\r": 1,
		// the first line
		"\n": 1, "\n\n": 1, "\n[[a]]\n": 1, "\nk = \"v\"\n": 1, "\n?\n": 1, "]\n": 1, " \"v\",\n": 1, " \n": 1, "x\n[[a]]\n": 1, "# a\n": 1, "\ufeffk = \"v\"\n": 1,
		// a table line
		"[[]]\n": 1, "[[]]\nk = \"v\"\n": 1, "[a]\n": 1, "[[a]\n": 1, "[a]]\n": 1, "[[a]]]\n": 1, "[[[a]]\n": 1, "[[A]]\n": 1, "[[a b]]\n": 1, "[[ a ]]\n": 1, " [[a]]\n": 1, "[[a]] \n": 1, "[[a]]\r\n": 1, "[[\"a\"]]\n": 1, "[[a.b]]\n": 1, "[[a]]x\n": 1, "[[a]][[b]]\n": 1, "[[a\n]]\n": 1, "[[a]]\n\n[[]]\n": 3, "k = \"v\"\n\n[[]]\nk = \"v\"\n": 3, "[[a]]\n\n[[B]]\n": 3, "[[a]]\n\n[b]\n": 3,
		// behind an empty line there is a table line
		"[[a]]\n\nk = \"v\"\n": 3, "k = \"v\"\n\nl = \"v\"\n": 3, "[[a]]\n\n\n": 3, "[[a]]\n\n\n[[b]]\n": 3, "[[a]]\n\n]\n": 3, "[[a]]\n\n \"v\",\n": 3, "[[a]]\n\nx\n": 3, "[[a]]\n\n[[b]]\n\n\n[[c]]\n": 5, "k = []\n\nk = []\n": 3,
		// a field line
		"[[a]]\nx\n": 2, "[[a]]\n[[b]]\n": 2, "k = \"v\"\n[[b]]\n": 2, "[[a]]\nk=\"v\"\n": 2, "[[a]]\nk  = \"v\"\n": 2, "[[a]]\nk =  \"v\"\n": 2, "[[a]]\nk = \"v\" \n": 2, "[[a]]\n k = \"v\"\n": 2, "[[a]]\nk = v\n": 2, "[[a]]\nk = 'v'\n": 2, "[[a]]\nk = \"v\n": 2, "[[a]]\nk = v\"\n": 2, "[[a]]\nk = \n": 2, "[[a]]\nk =\n": 2, "[[a]]\nk\n": 2, "[[a]]\n = \"v\"\n": 2, "[[a]]\n= \"v\"\n": 2, "[[a]]\nK = \"v\"\n": 2, "[[a]]\n\"k\" = \"v\"\n": 2, "[[a]]\nk.l = \"v\"\n": 2, "[[a]]\nk = \"v\" = \"v\"\n": 2, "[[a]]\nk = l = \"v\"\n": 2, "[[a]]\nk = \"v\"\"v\"\n": 2, "[[a]]\nk = 1\n": 2, "[[a]]\nk = true\n": 2, "[[a]]\nk = \"v\",\n": 2, "[[a]]\nk = \"v\" # c\n": 2, "[[a]]\nk = \"v\"\r\n": 2,
		"[[a]]\nk = \"v\"\nx\n": 3, "[[a]]\nk = []\n]\n": 3, "[[a]]\nk = \"v\"\n \"v\",\n": 3, "[[a]]\nk = \"v\"\n]\n": 3, "[[a]]\nk = \"v\"\n \n": 3, "k = \"v\"\nx\n": 2, "k = [\n \"v\",\n]\nx\n": 4, "k = [\n \"v\",\n]\n]\n": 4, "k = [\n \"v\",\n]\n[[a]]\n": 4,
		// texts that are no Quote
		"k = \"\\t\"\n": 1, "k = \"\t\"\n": 1, "k = \"\\x41\"\n": 1, "k = \"\\x0a\"\n": 1, "k = \"\\xFF\"\n": 1, "k = \"\\xf\"\n": 1, "k = \"\\\"\n": 1, "k = \"\\u0041\"\n": 1, "k = \"\x00\"\n": 1, "k = \"\x7f\"\n": 1, "k = \"\xff\"\n": 1, "k = \"\"\"\n": 1, "k = \"\\/\"\n": 1,
		// a list
		"k = [ ]\n": 1, "k = [] \n": 1, "k = []]\n": 1, "k = [\"v\"]\n": 1, "k = [ \n": 1, "k = [[]]\n": 1, "k = ]\n": 1, "k = [\n]\n": 2, "k = [\n\n": 2, "k = [\n\n]\n": 2, "k = [\n[[a]]\n": 2, "k = [\nk = \"v\"\n": 2, "k = [\n \"v\"\n]\n": 2, "k = [\n\"v\",\n]\n": 2, "k = [\n  \"v\",\n]\n": 2, "k = [\n \"v\", \n]\n": 2, "k = [\n \"v\",,\n]\n": 2, "k = [\n \"v\", \"w\",\n]\n": 2, "k = [\n v,\n]\n": 2, "k = [\n \"\t\",\n]\n": 2, "k = [\n \"\\x41\",\n]\n": 2, "k = [\n ,\n]\n": 2, "k = [\n \",\n]\n": 2, "k = [\n\t\"v\",\n]\n": 2, "k = [\n \"v\",]\n": 2, "k = [\n []\n]\n": 2,
		"k = [\n \"v\",\n\n]\n": 3, "k = [\n \"v\",\n ]\n": 3, "k = [\n \"v\",\n] \n": 3, "k = [\n \"v\",\n],\n": 3, "k = [\n \"v\",\nl = \"v\"\n]\n": 3, "k = [\n \"v\",\n[[a]]\n": 3, "k = [\n \"v\",\n \"w\"\n]\n": 3, "k = [\n \"v\",\n \"w\",\nx\n": 4,
		// lines are missing
		"k = [\n": 1, "[[a]]\nk = [\n": 2, "k = [\n \"v\",\n": 2, "k = [\n \"v\",\n \"v\",\n": 3, "[[a]]\n\n": 2, "k = \"v\"\n\n": 2, "k = [\n \"v\",\n]\n\n": 4, "[[a]]\n\n[[b]]\n\n": 4,
		// all lines fit, and the tables are invalid
		"k = \"v\"\nk = \"v\"\n": 1, "[[a]]\nk = \"v\"\nk = \"w\"\n": 1, "[[a]]\n\n[[b]]\nk = []\nl = \"v\"\nk = [\n \"v\",\n]\n": 1,
		// a line that does not fit or is missing, or the last one without a newline, comes before the tables that are invalid
		"k = \"v\"\nk = \"v\"\nx\n": 3, "k = \"v\"\nk = \"v\"\n\n": 3, "k = \"v\"\nk = [\n": 2, "k = \"v\"\nk = \"v\"\n\n[[a]]\n]\n": 5,
	}
	for s, want := range cases {
		checkNoTables(t, s, want)
	}
}

// textOfFields returns the text of a table of that many fields behind the given line, which may be empty.
func textOfFields(line string, size int) string {
	text := line
	for _, key := range numberedKeys(size) {
		text += key + " = []\n"
	}
	return text
}

func TestGetTablesLimits(t *testing.T) {
	for _, name := range []string{"", "[[a]]\n"} {
		for size := 1; size <= maxFields; size++ {
			if got := checkTables(t, textOfFields(name, size)); got != 0 {
				t.Errorf("%d fields: %d", size, got)
			}
		}
		for _, size := range []int{maxFields + 1, maxFields + 2, 500} {
			text := textOfFields(name, size)
			lines := strings.Count(text, "\n")
			checkNoTables(t, text, 1)
			checkNoTables(t, "[[b]]\n\n"+"[[a]]\n"+strings.TrimPrefix(text, name), 1)
			checkNoTables(t, text+"x\n", lines+1)
			checkNoTables(t, text+"\n", lines+1)
			checkNoTables(t, text+"x", lines+1)
		}
	}
	for size, want := range map[int]int{1: 0, maxTables - 1: 0, maxTables: 0, maxTables + 1: 1, maxTables + 2: 1, 1000: 1} {
		for _, first := range []string{"[[b]]\n", "k = \"v\"\n"} {
			text := first + strings.Repeat("\n[[a]]\n", size-1)
			if got := checkTables(t, text); got != want {
				t.Errorf("%d tables: %d, want %d", size, got, want)
			}
			checkNoTables(t, text+"[[a]]\n", 2*size)
			checkNoTables(t, text+"\n", 2*size)
			checkNoTables(t, text+"\n[[a]]", 2*size+1)
		}
	}
}

// A line with a Key or a Name that is none does not fit.
func TestGetTablesKeys(t *testing.T) {
	good, bad := keyTexts()
	for _, key := range good {
		for _, s := range []string{"[[" + key + "]]\n", key + " = \"v\"\n", key + " = []\n", key + " = [\n \"v\",\n]\n", "[[a]]\n" + key + " = \"v\"\n", "[[a]]\n\n[[" + key + "]]\n"} {
			if got := checkTables(t, s); got != 0 {
				t.Errorf("%q is not accepted: %d", s, got)
			}
		}
	}
	for _, key := range bad {
		checkNoTables(t, "[["+key+"]]\n", 1)
		checkNoTables(t, "[[a]]\n\n[["+key+"]]\n", 3)
		if key != "\n" && !strings.HasPrefix(key, "\n") {
			checkNoTables(t, "[[a]]\n"+key+" = \"v\"\n", 2)
			checkNoTables(t, "[[a]]\nk = []\n"+key+" = []\n", 3)
			checkNoTables(t, key+" = [\n \"v\",\n]\n", 1)
		}
	}
}

// Every sequence of up to six lines is read as the forms of the lines say.
func TestPromise7OtherLines(t *testing.T) {
	lines := []string{"[[a]]\n", "k = \"v\"\n", "l = []\n", "m = [\n", " \"v\",\n", "]\n", "\n", "x\n"}
	taken, left := 0, 0
	check := func(s string) {
		if checkTables(t, s) == 0 {
			taken++
		} else {
			left++
		}
	}
	for _, s := range tokenTexts(lines, 6) {
		check(s)
	}
	for _, s := range allTexts("[]a\n= \"", 6) {
		check(s + "\n")
	}
	for _, s := range allTexts("\"\\nx0,] ", 4) {
		check("k = " + s + "\n")
		check("k = [\n " + s + "\n]\n")
	}
	if taken < 150 || left < 400000 {
		t.Errorf("%d texts are tables and %d are none", taken, left)
	}
}

func TestPromise7NearTexts(t *testing.T) {
	taken, left := 0, 0
	for text := range goodTables() {
		for _, s := range nearTexts(text) {
			if checkTables(t, s) == 0 {
				taken++
			} else {
				left++
			}
		}
	}
	if taken < 10000 || left < 100000 {
		t.Errorf("%d texts are tables and %d are none", taken, left)
	}
}

// mixedTables returns lists of tables of all kinds, valid and not.
func mixedTables() [][]impl.Table {
	list := badTables()
	for _, tables := range goodTables() {
		list = append(list, tables)
	}
	return list
}

func checkFieldOf(t *testing.T, x impl.Table, key string, want impl.Field, wantOk bool) {
	t.Helper()
	if got, ok := impl.FieldOf(x, key); ok != wantOk || !sameField(got, want) {
		t.Errorf("FieldOf(%s, %q) = %+v, %v; want %+v, %v", brief(x), key, got, ok, want, wantOk)
	}
}

// oddTable has fields of all kinds, some of them invalid, and the key twice three times.
func oddTable() impl.Table {
	return tableOf("Odd name",
		textField("text", "v"), listField("list", "v", "", "v"), textField("twice", "first"), listField("empty"), textField("none", ""),
		listField("twice", "second"), impl.Field{Key: "both", Text: "v", List: []string{"w"}, IsList: true}, impl.Field{Key: "loose", List: []string{"w"}},
		textField("", "no key"), textField("Not A Key\n", "v"), textField("twice", "third"), textField("\xff", "\xfe"))
}

func TestFieldOf(t *testing.T) {
	x := oddTable()
	for i, f := range x.Fields {
		want := x.Fields[2]
		if f.Key != "twice" {
			want = x.Fields[i]
		}
		checkFieldOf(t, x, f.Key, want, true)
		checkFieldOf(t, tableOf("", x.Fields[i:]...), f.Key, f, true)
		if f.Key != "twice" || i == 2 {
			checkFieldOf(t, tableOf("a", x.Fields[:i]...), f.Key, impl.Field{}, false)
		}
	}
	for _, key := range []string{"other", "Text", "tex", "texts", " text", "text ", "v", "first", "Odd name", "Not A Key", "\x00", "\n"} {
		checkFieldOf(t, x, key, impl.Field{}, false)
	}
	for _, key := range []string{"", "text"} {
		checkFieldOf(t, impl.Table{}, key, impl.Field{}, false)
		checkFieldOf(t, tableOf(key), key, impl.Field{}, false)
		checkFieldOf(t, impl.Table{Fields: []impl.Field{}}, key, impl.Field{}, false)
	}
	many := tableOf("a", fieldsOf(numberedKeys(1000), 0)...)
	for i, f := range many.Fields {
		checkFieldOf(t, many, "key"+strconv.Itoa(i), f, true)
	}
}

func checkSetField(t *testing.T, x impl.Table, f impl.Field, want ...impl.Field) {
	t.Helper()
	got := impl.SetField(x, f)
	if !sameTables(tablesOf(got), tablesOf(tableOf(x.Name, want...))) {
		t.Errorf("SetField(%s, %+v) = %s, want %s", brief(x), f, brief(got), brief(want))
	}
	checkFieldOf(t, got, f.Key, f, true)
}

func TestSetField(t *testing.T) {
	x := oddTable()
	values := []impl.Field{{}, {Text: "new"}, {List: []string{"new", ""}, IsList: true}, {IsList: true}, {Text: "new", List: []string{"new"}, IsList: true}, {List: []string{"\n"}}}
	for _, f := range values {
		for i, old := range x.Fields {
			f.Key = old.Key
			want := slices.Clone(x.Fields)
			if f.Key == "twice" {
				i = 2
			}
			want[i] = f
			checkSetField(t, x, f, want...)
			checkSetField(t, tableOf(old.Key, old), f, f)
		}
		for _, key := range []string{"other", "Text", "text ", "v", "Odd name", "\x00", strings.Repeat("k", 31)} {
			f.Key = key
			checkSetField(t, x, f, append(slices.Clone(x.Fields), f)...)
			checkSetField(t, impl.Table{}, f, f)
			checkSetField(t, tableOf(key), f, f)
			checkSetField(t, tableOf("a", textField("k", "v")), f, textField("k", "v"), f)
		}
		f.Key = ""
		checkSetField(t, impl.Table{}, f, f)
		checkSetField(t, tableOf("a", textField("k", "v")), f, textField("k", "v"), f)
	}
	// the limits are not SetField's to keep
	full := tableOf("a", fieldsOf(numberedKeys(maxFields), 0)...)
	more := impl.SetField(full, textField("new", "v"))
	if len(more.Fields) != maxFields+1 || impl.TablesOk(tablesOf(more)) || !impl.TablesOk(tablesOf(impl.SetField(full, listField("key7", "v")))) {
		t.Error("a field is not added to a full table, or not replaced in it")
	}
}

// fieldVariants returns fields that differ from f, and from each other, in one part; f has a list of two different strings.
func fieldVariants(f impl.Field) []impl.Field {
	list := slices.Repeat([]impl.Field{f}, 9)
	list[0].Key += "x"
	list[1].Text += "x"
	list[2].IsList = !f.IsList
	list[3].List = nil
	list[4].List = f.List[:1]
	list[5].List = append(slices.Clip(f.List), "")
	list[6].List = []string{f.List[1], f.List[0]}
	list[7].List = []string{f.List[0] + "x", f.List[1]}
	list[8].List = []string{f.List[0], f.List[1] + "x"}
	return list
}

func TestSameTable(t *testing.T) {
	first, second := impl.Field{Key: "k", Text: "v", List: []string{"a", "b"}, IsList: true}, impl.Field{Key: "l", List: []string{"c", "d"}}
	list := tablesOf(tableOf("a", first, second), tableOf("b", first, second), tableOf("", first, second), tableOf("a"), tableOf(""), tableOf("a", first), tableOf("a", second), tableOf("a", second, first), tableOf("a", first, second, first), tableOf("a", first, second, impl.Field{}))
	for _, f := range fieldVariants(first) {
		list = append(list, tableOf("a", f, second))
	}
	for _, f := range fieldVariants(second) {
		list = append(list, tableOf("a", first, f))
	}
	for i, a := range list {
		for k, b := range list {
			if got := impl.SameTable(a, spareTable(b)); got != (i == k) {
				t.Errorf("SameTable(%+v, %+v) is %v", a, b, got)
			}
		}
	}
	for _, tables := range mixedTables() {
		for _, x := range tables[:min(len(tables), 3)] {
			if !impl.SameTable(x, spareTable(x)) {
				t.Errorf("SameTable of %+v and itself is false", x)
			}
		}
	}
	a, b := impl.Table{Fields: []impl.Field{}}, tableOf("a", impl.Field{List: []string{}})
	if !impl.SameTable(a, impl.Table{}) || !impl.SameTable(impl.Table{}, a) || !impl.SameTable(b, tableOf("a", impl.Field{})) || !impl.SameTable(tableOf("a", impl.Field{}), b) {
		t.Error("nil and empty slices differ")
	}
}

// callTables calls every function of the chapter.
func callTables(list []impl.Table, text string, key string, f impl.Field) {
	impl.TablesOk(list)
	impl.PutTables(list)
	impl.GetTables(text)
	for i, x := range list[:min(len(list), 5)] {
		impl.FieldOf(x, key)
		impl.SetField(x, f)
		impl.SameTable(x, list[0])
		impl.SameTable(list[len(list)-1-i], x)
	}
}

func TestPromise16TablesReturns(t *testing.T) {
	texts := append(byteTexts(), allTexts("[]\"= \na", 3)...)
	for _, s := range []string{"[", "[[", "[[a]]\n", "[[a]]\n\n", "k = [\n", " \"v\",\n", "\n", " = ", "k = \"", "]", "\"", "\\"} {
		for _, size := range []int{1, 100, maxFile / len(s), maxFile/len(s) + 1, 100000} {
			texts = append(texts, strings.Repeat(s, size), strings.Repeat(s, size)+"\n", "k = [\n"+strings.Repeat(s, size))
		}
	}
	for _, s := range texts {
		f := impl.Field{Key: s, Text: s, List: []string{s, s}, IsList: len(s)%2 == 0}
		callTables(tablesOf(tableOf(s, f, f), tableOf("", f)), s, s, f)
		callTables(tablesOf(tableOf("a", textField("k", s), listField("l", s))), "[[a]]\n"+s, "k", textField("l", s))
	}
	for _, list := range mixedTables() {
		callTables(list, "", "k", listField("k"))
	}
	large := tableOf("a", fieldsOf(numberedKeys(100000), 0)...)
	callTables(tablesOf(large, large), "", "key99999", textField("key99999", ""))
	callTables(tablesOf(large), "", "new", listField("new", make([]string, 100000)...))
	callTables(make([]impl.Table, 100000), "", "", impl.Field{})
	long := tableOf("a", listField("k", slices.Repeat([]string{"some text"}, 200000)...))
	callTables(tablesOf(long), impl.PutTables(tablesOf(long)), "k", long.Fields[0])
}

func spareField(f impl.Field) impl.Field {
	list, _ := spareList(ownTexts(f.List)...)
	return impl.Field{Key: strings.Clone(f.Key), Text: strings.Clone(f.Text), List: list, IsList: f.IsList}
}

// spareTable returns x in memory of its own, with spare capacity behind every slice.
func spareTable(x impl.Table) impl.Table {
	fields := []impl.Field{}
	for _, f := range x.Fields {
		fields = append(fields, spareField(f))
	}
	fields = append(fields, textField("spare", "spare"), listField("spare", "spare"))[:len(x.Fields)]
	return impl.Table{Name: strings.Clone(x.Name), Fields: fields}
}

func spareTables(list []impl.Table) []impl.Table {
	tables := []impl.Table{}
	for _, x := range list {
		tables = append(tables, spareTable(x))
	}
	return append(tables, tableOf("spare"), tableOf("spare", textField("k", "v")))[:len(list)]
}

func wholeField(f impl.Field) impl.Field {
	return impl.Field{Key: strings.Clone(f.Key), Text: strings.Clone(f.Text), List: ownTexts(f.List[:cap(f.List)]), IsList: f.IsList}
}

// wholeTables returns a copy of the list with all its slices extended to their capacity.
func wholeTables(list []impl.Table) []impl.Table {
	tables := []impl.Table{}
	for _, x := range list[:cap(list)] {
		whole := tableOf(strings.Clone(x.Name))
		for _, f := range x.Fields[:cap(x.Fields)] {
			whole.Fields = append(whole.Fields, wholeField(f))
		}
		tables = append(tables, whole)
	}
	return tables
}

// memoryTables returns lists of tables of all kinds, valid and not, with texts that are long enough to have memory of their own.
func memoryTables() [][]impl.Table {
	name, list := textField("name", "left-pad"), listField("hashes", "first sum", "second sum")
	first := tableOf("", textField("version", "four"), listField("empty"))
	return [][]impl.Table{
		{}, {first}, {first, tableOf("package", name, list)}, {tableOf("package", name, list), tableOf("package", list, name), tableOf("other-name")},
		{tableOf("package", name, name, list, list)}, {tableOf("", list)}, {tableOf("No Name", list), {}}, {oddTable(), oddTable()},
		{tableOf("package", impl.Field{Key: "hashes", Text: "both text", List: []string{"both list"}})},
		manyTables(maxTables, ""), manyTables(maxTables+1, "first"), {tableOf("package", fieldsOf(numberedKeys(maxFields), 0)...)},
	}
}

// memoryFields returns fields whose Keys are in some of the memoryTables.
func memoryFields() []impl.Field {
	return []impl.Field{
		textField("name", "new name"), listField("hashes", "new sum", "other sum"), listField("new key", "new text"), textField("twice", "new text"), listField("twice"),
		{Key: "key1", Text: "new text", List: []string{"new list"}, IsList: true}, {},
	}
}

func TestPromise16TablesArguments(t *testing.T) {
	for _, first := range memoryTables() {
		for _, second := range memoryFields() {
			list, f := spareTables(first), spareField(second)
			want, wantField := wholeTables(list), wholeField(f)
			callTables(list, "", "name", f)
			for _, x := range list {
				impl.SetField(x, f)
				impl.FieldOf(x, f.Key)
				for _, own := range x.Fields {
					impl.SetField(x, own)
				}
			}
			if !reflect.DeepEqual(wholeTables(list), want) || !reflect.DeepEqual(wholeField(f), wantField) {
				t.Errorf("%s or %+v was modified", brief(first), second)
			}
		}
	}
}

func fieldSpans(f impl.Field) []span {
	return append(keySpans(f.List), textSpan(f.Key), textSpan(f.Text))
}

func tableSpans(x impl.Table) []span {
	spans := []span{textSpan(x.Name), listSpan(x.Fields)}
	for _, f := range x.Fields {
		spans = append(spans, fieldSpans(f)...)
	}
	return spans
}

func tablesSpans(list []impl.Table) []span {
	spans := []span{listSpan(list)}
	for _, x := range list {
		spans = append(spans, tableSpans(x)...)
	}
	return spans
}

func TestPromise16TablesMemory(t *testing.T) {
	for _, tables := range memoryTables() {
		list := spareTables(tables)
		arguments := tablesSpans(list)
		text := strings.Clone(impl.PutTables(list))
		checkSpans(t, "PutTables", []span{textSpan(impl.PutTables(list))}, arguments)
		read, _ := impl.GetTables(text)
		again, _ := impl.GetTables(text)
		checkSpans(t, "GetTables", append(tablesSpans(read), tablesSpans(again)...), append(arguments, textSpan(text)))
		for _, x := range list[:min(len(list), 4)] {
			for _, field := range memoryFields() {
				f := spareField(field)
				all := append(fieldSpans(f), arguments...)
				found, _ := impl.FieldOf(x, f.Key)
				checkSpans(t, "FieldOf", fieldSpans(found), all)
				checkSpans(t, "SetField", tableSpans(impl.SetField(x, f)), all)
			}
			for _, f := range x.Fields {
				found, _ := impl.FieldOf(x, f.Key)
				checkSpans(t, "FieldOf", fieldSpans(found), arguments)
				checkSpans(t, "SetField", tableSpans(impl.SetField(x, f)), arguments)
			}
		}
	}
}

// The lists of an argument may be one and the same; those of a result are not.
func TestPromise16SharedTableMemory(t *testing.T) {
	list := ownTexts([]string{"first text", "second text"})
	x := tableOf(list[0], listField(list[0], list...), listField(list[0], list...), impl.Field{Key: list[1], Text: list[1], List: list})
	arguments := append(tableSpans(x), keySpans(list)...)
	for _, f := range append(x.Fields, listField("third text", list...), listField("")) {
		checkSpans(t, "SetField", tableSpans(impl.SetField(x, f)), arguments)
	}
	// an empty list has no room that an append to the result would fill
	room := make([]string, 0, 3)
	empty := impl.Table{Fields: make([]impl.Field, 0, 3)}
	f := impl.Field{Key: "some key", List: room}
	arguments = append(tableSpans(empty), fieldSpans(f)...)
	checkSpans(t, "SetField", tableSpans(impl.SetField(empty, f)), arguments)
	found, _ := impl.FieldOf(tableOf("a", f), "some key")
	checkSpans(t, "FieldOf", fieldSpans(found), arguments)
}
