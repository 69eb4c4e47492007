package tests

import (
	"fmt"
	"math"
	"math/rand"
	"reflect"
	"regexp"
	"slices"
	"strconv"
	"strings"
	"testing"

	"loop.example/g00445/impl"
)

const (
	maxFile  = 20000
	maxNodes = 600
	maxDeep  = 8
	maxInt   = 999999999
)

// brief is the beginning of what x holds.
func brief(x any) string { return fmt.Sprintf("%.300s", fmt.Sprint(x)) }

func intTree(n int) impl.Tree { return impl.Tree{Kind: impl.TInt, N: n} }

func textTree(s string) impl.Tree { return impl.Tree{Kind: impl.TText, S: s} }

func listTree(kids ...impl.Tree) impl.Tree { return impl.Tree{Kind: impl.TList, Kids: kids} }

// mapTree takes the keys in one text, separated by spaces.
func mapTree(keys string, kids ...impl.Tree) impl.Tree {
	return impl.Tree{Kind: impl.TMap, Keys: strings.Fields(keys), Kids: kids}
}

// wrapped puts x into that many lists and maps, in turn.
func wrapped(x impl.Tree, levels int) impl.Tree {
	for i := range levels {
		if i%2 == 0 {
			x = listTree(x)
		} else {
			x = mapTree("k", x)
		}
	}
	return x
}

func numberedKeys(size int) []string {
	keys := []string{}
	for i := range size {
		keys = append(keys, "key"+strconv.Itoa(i))
	}
	return keys
}

// goodTrees returns valid trees with their texts.
func goodTrees() map[string]impl.Tree {
	list := map[string]impl.Tree{
		"null":              {},
		"false":             {Kind: impl.TFalse},
		"true":              {Kind: impl.TTrue},
		"0":                 intTree(0),
		"7":                 intTree(7),
		"10":                intTree(10),
		"999999999":         intTree(maxInt),
		`""`:                textTree(""),
		`"a b"`:             textTree("a b"),
		`"\"\\\n\x00\x7f/"`: textTree("\"\\\n\x00\x7f/"),
		`"\xc3\xa9"`:        textTree("\u00e9"),
		`"null"`:            textTree("null"),
		"[]":                listTree(),
		"{}":                mapTree(""),
		"[\n  null\n]":      listTree(impl.Tree{}),
		"[\n  [],\n  {}\n]": listTree(listTree(), mapTree("")),
		"[\n  1,\n  1\n]":   listTree(intTree(1), intTree(1)),
		"[\n  [\n    [\n      1\n    ],\n    2\n  ],\n  3\n]":        listTree(listTree(listTree(intTree(1)), intTree(2)), intTree(3)),
		"{\n  \"b\": 1,\n  \"a\": 2\n}":                              mapTree("b a", intTree(1), intTree(2)),
		"{\n  \"a\": [],\n  \"b\": {\n    \"a\": true\n  }\n}":       mapTree("a b", listTree(), mapTree("a", impl.Tree{Kind: impl.TTrue})),
		"[\n  {\n    \"a\": \"x\"\n  },\n  {\n    \"a\": {}\n  }\n]": listTree(mapTree("a", textTree("x")), mapTree("a", mapTree(""))),
	}
	list["{\n  \"\": false,\n  \" \": null,\n  \"\\\"\\\\\\n\": 0,\n  \"\\x09\\xff\": \"\\x1f\"\n}"] = impl.Tree{
		Kind: impl.TMap,
		Keys: []string{"", " ", "\"\\\n", "\t\xff"},
		Kids: []impl.Tree{{Kind: impl.TFalse}, {}, intTree(0), textTree("\x1f")},
	}
	return list
}

// sizedTrees returns trees of exactly that many nodes, of which there are at least 20.
func sizedTrees(size int) []impl.Tree {
	flat := make([]impl.Tree, size-1)
	inner := make([]impl.Tree, (size-1)/2-1)
	other := make([]impl.Tree, size-3-len(inner))
	return []impl.Tree{
		listTree(flat...),
		{Kind: impl.TMap, Keys: numberedKeys(size - 1), Kids: flat},
		listTree(listTree(inner...), listTree(other...)),
		wrapped(listTree(flat[:size-8]...), 7),
	}
}

// deepTrees returns trees whose innermost node has that many lists and maps around it.
func deepTrees(levels int) []impl.Tree {
	list := []impl.Tree{}
	for _, x := range []impl.Tree{{}, intTree(5), textTree("x"), listTree(), mapTree("")} {
		deep := wrapped(x, levels)
		list = append(list, deep)
		if levels > 0 {
			list = append(list, listTree(intTree(1), deep.Kids[0]), mapTree("a b c", listTree(), mapTree("a", intTree(1)), deep.Kids[0]))
		}
	}
	return list
}

// badNodes returns trees that are invalid whatever their size.
func badNodes() []impl.Tree {
	list := []impl.Tree{
		{Kind: impl.TInt, N: -1}, {Kind: impl.TInt, N: maxInt + 1}, {Kind: impl.TInt, N: math.MinInt}, {Kind: impl.TInt, N: math.MaxInt}, {Kind: impl.TInt, N: 1 << 32},
		mapTree("a"), mapTree("a b", intTree(1)), mapTree("a", intTree(1), intTree(2)), mapTree("", intTree(1)),
		mapTree("a a", intTree(1), intTree(1)), mapTree("a b a", intTree(1), intTree(2), intTree(3)), mapTree("c b b", intTree(1), intTree(2), intTree(3)),
		{Kind: impl.TMap, Keys: []string{"", ""}, Kids: make([]impl.Tree, 2)},
	}
	for _, kind := range []int{-1, -2, -6, -1000, 7, 8, 13, 256, 1 << 32, math.MinInt, math.MaxInt} {
		list = append(list, impl.Tree{Kind: kind})
	}
	for kind := range impl.TMap + 1 {
		fields := []impl.Tree{
			{Kind: kind, N: 1}, {Kind: kind, N: -1}, {Kind: kind, S: "a"}, {Kind: kind, S: "\x00"},
			{Kind: kind, Keys: []string{"a"}}, {Kind: kind, Keys: []string{""}},
			{Kind: kind, Kids: []impl.Tree{{}}},
			{Kind: kind, Keys: []string{"a"}, Kids: []impl.Tree{{}}},
			{Kind: kind, N: 1, Keys: []string{"a"}, Kids: []impl.Tree{{}}}, {Kind: kind, S: "a", Keys: []string{"a"}, Kids: []impl.Tree{{}}},
			{Kind: kind, N: 1, S: "a"}, {Kind: kind, N: 1, Kids: []impl.Tree{{}}}, {Kind: kind, S: "a", Kids: []impl.Tree{{}}},
		}
		for _, x := range fields {
			if !usesOnly(x) {
				list = append(list, x)
			}
		}
	}
	return list
}

// usesOnly tells, for the trees of badNodes, whether they have only fields that their kind uses.
func usesOnly(x impl.Tree) bool {
	form := fmt.Sprint(x.N != 0, x.S != "", len(x.Keys), len(x.Kids))
	switch x.Kind {
	case impl.TInt:
		return form == "true false 0 0" && x.N > 0
	case impl.TText:
		return form == "false true 0 0"
	case impl.TList:
		return form == "false false 0 1"
	case impl.TMap:
		return form == "false false 1 1"
	}
	return false
}

// badTrees returns invalid trees of all kinds: the bad nodes, alone and within others, and too large and too deep ones.
func badTrees() []impl.Tree {
	list := []impl.Tree{}
	for _, x := range badNodes() {
		list = append(list, x, listTree(x), listTree(intTree(1), x, listTree()), mapTree("a b", x, intTree(1)), mapTree("a", listTree(mapTree("a", x))), wrapped(x, maxDeep))
	}
	for _, size := range []int{maxNodes + 1, maxNodes + 2, 2 * maxNodes, 20000} {
		list = append(list, sizedTrees(size)...)
	}
	for _, levels := range []int{maxDeep + 1, maxDeep + 2, 20, 1000} {
		list = append(list, deepTrees(levels)...)
	}
	return list
}

func TestTreeConstants(t *testing.T) {
	kinds := []int{impl.TNull, impl.TFalse, impl.TTrue, impl.TInt, impl.TText, impl.TList, impl.TMap}
	if !slices.Equal(kinds, []int{0, 1, 2, 3, 4, 5, 6}) || impl.MaxNodes != maxNodes || impl.MaxDeep != maxDeep || impl.MaxFile != maxFile {
		t.Error(kinds, impl.MaxNodes, impl.MaxDeep, impl.MaxFile)
	}
}

func TestTreeOk(t *testing.T) {
	good := slices.Concat(sizedTrees(maxNodes), sizedTrees(maxNodes-1), sizedTrees(20), []impl.Tree{{Keys: []string{}, Kids: []impl.Tree{}}})
	for _, x := range goodTrees() {
		good = append(good, x)
	}
	for levels := range maxDeep + 1 {
		good = append(good, deepTrees(levels)...)
	}
	for i, x := range good {
		if !impl.TreeOk(x) {
			t.Errorf("valid tree %d: %s is not accepted", i, brief(x))
		}
	}
	for i, x := range badTrees() {
		if impl.TreeOk(x) {
			t.Errorf("invalid tree %d: %s is accepted", i, brief(x))
		}
	}
}

// sameTree compares two trees by the names and values of their fields.
func sameTree(a impl.Tree, b impl.Tree) bool {
	if a.Kind != b.Kind || a.N != b.N || a.S != b.S {
		return false
	}
	return slices.Equal(a.Keys, b.Keys) && slices.EqualFunc(a.Kids, b.Kids, sameTree)
}

func TestSameTree(t *testing.T) {
	list := append(badTrees()[:400], sizedTrees(30)...)
	for _, x := range goodTrees() {
		list = append(list, x)
	}
	list = append(list, deepTrees(3)...)
	list = append(list,
		mapTree("a b", intTree(1), intTree(2)), mapTree("b a", intTree(1), intTree(2)), mapTree("b a", intTree(2), intTree(1)), mapTree("a b", intTree(1), intTree(3)), mapTree("a b", intTree(1)), mapTree("a", intTree(1), intTree(2)),
		listTree(listTree(intTree(1)), intTree(2)), listTree(listTree(intTree(1), intTree(2))), listTree(intTree(1), listTree(intTree(2))), listTree(listTree(), listTree()), listTree(listTree(), mapTree("")),
	)
	equal := 0
	for _, a := range list {
		for _, b := range list {
			want := sameTree(a, b)
			if got := impl.SameTree(a, b); got != want {
				t.Errorf("SameTree(%s, %s) = %v", brief(a), brief(b), got)
			}
			if want {
				equal++
			}
		}
	}
	if equal < len(list) {
		t.Errorf("only %d pairs of %d trees are equal", equal, len(list))
	}
	a, b := impl.Tree{Kind: impl.TList}, impl.Tree{Kind: impl.TList, Keys: []string{}, Kids: []impl.Tree{}}
	if !impl.SameTree(a, b) || !impl.SameTree(listTree(a), listTree(b)) || !impl.SameTree(b, a) {
		t.Error("nil and empty lists are not equal")
	}
	// the same list of kids in places whose other fields differ
	kids := []impl.Tree{intTree(1)}
	if impl.SameTree(listTree(listTree(kids...), listTree(kids...)), listTree(listTree(kids...), listTree(intTree(2)))) {
		t.Error("a second list that differs is not seen")
	}
}

// treeVariants returns trees that differ from x in one field of one node.
func treeVariants(x impl.Tree) []impl.Tree {
	list := []impl.Tree{x, x, x, x, x}
	list[0].Kind++
	list[1].N--
	list[2].S += "x"
	list[3].Keys = append(slices.Clip(x.Keys), "x")
	list[4].Kids = append(slices.Clip(x.Kids), impl.Tree{})
	for i, kid := range x.Kids {
		for _, other := range treeVariants(kid) {
			y := x
			y.Kids = slices.Clone(x.Kids)
			y.Kids[i] = other
			list = append(list, y)
		}
	}
	return list
}

func TestSameTreeVariants(t *testing.T) {
	inner := listTree(intTree(1), textTree("a"), listTree(intTree(2)), mapTree("a b", intTree(1), listTree(intTree(3))), listTree(listTree(intTree(4))))
	x := mapTree("a b c d e f", inner, listTree(inner, inner), intTree(1), inner, mapTree("a", inner), listTree(inner))
	list := treeVariants(x)
	for _, y := range list {
		if impl.SameTree(x, y) || impl.SameTree(y, x) || !impl.SameTree(y, spareTree(y)) {
			t.Errorf("%s and %s are not told apart", brief(x), brief(y))
		}
	}
	if len(list) < 300 {
		t.Errorf("there are only %d variants", len(list))
	}
}

// kept is what the scan of a text knows of one open list or map.
type kept struct {
	mark  string // its opening bracket
	keys  []string
	empty bool
}

// scan reads a text with a stack of what is open, apart from the program's way of doing it.
type scan struct {
	open  []kept
	wants string // what may come next: value, first (or the end of the list), key, first key, colon, more, none
	text  []byte // what PutTree is to write
	nodes int
	bad   bool // the tree is invalid
}

var tokenForm = regexp.MustCompile(`^(?:null|false|true|[0-9]+|"(?:[ !#-\[\]-~]|\\["\\n]|\\x(?:0[0-9b-f]|1[0-9a-f]|7f|[89a-f][0-9a-f]))*"|[\[\]{}:,])`)

var numberForm = regexp.MustCompile(`^(?:0|[1-9][0-9]{0,8})$`)

// put leaves out the text of an invalid tree, since its lines may be too long.
func (c *scan) put(text string) {
	if !c.bad {
		c.text = append(c.text, text...)
	}
}

func (c *scan) line() { c.put("\n" + strings.Repeat("  ", min(len(c.open), maxDeep+1))) }

// after tells what may come after a value.
func (c *scan) after() {
	c.wants = "more"
	if len(c.open) == 0 {
		c.wants = "none"
	}
}

func (c *scan) value(token string) bool {
	isNumber := token[0] >= '0' && token[0] <= '9'
	if strings.Contains("]}:,", token) || isNumber && !numberForm.MatchString(token) {
		return false
	}
	c.nodes++
	c.bad = c.bad || c.nodes > maxNodes || len(c.open) > maxDeep
	if n := len(c.open); n > 0 && c.open[n-1].mark == "[" {
		c.line()
		c.open[n-1].empty = false
	}
	c.put(token)
	switch token {
	case "[":
		c.open, c.wants = append(c.open, kept{mark: token, empty: true}), "first"
	case "{":
		c.open, c.wants = append(c.open, kept{mark: token, empty: true}), "first key"
	default:
		c.after()
	}
	return true
}

func (c *scan) key(token string) bool {
	if token[0] != '"' {
		return false
	}
	top := &c.open[len(c.open)-1]
	c.bad = c.bad || slices.Contains(top.keys, token)
	top.keys, top.empty = append(top.keys, token), false
	c.line()
	c.put(token)
	c.wants = "colon"
	return true
}

func (c *scan) closing(token string) bool {
	top := c.open[len(c.open)-1]
	if top.mark+token != "[]" && top.mark+token != "{}" {
		return false
	}
	c.open = c.open[:len(c.open)-1]
	if !top.empty {
		c.line()
	}
	c.put(token)
	c.after()
	return true
}

func (c *scan) more(token string) bool {
	if token != "," {
		return c.closing(token)
	}
	c.put(token)
	c.wants = "value"
	if c.open[len(c.open)-1].mark == "{" {
		c.wants = "key"
	}
	return true
}

// take reports whether the token fits.
func (c *scan) take(token string) bool {
	switch c.wants {
	case "value":
		return c.value(token)
	case "first":
		return c.closing(token) || c.value(token)
	case "key":
		return c.key(token)
	case "first key":
		return c.closing(token) || c.key(token)
	case "colon":
		c.put(": ")
		c.wants = "value"
		return token == ":"
	case "more":
		return c.more(token)
	}
	return false
}

// wantTree tells by the document's grammar which text the tree of s has, and which index GetTree returns.
func wantTree(s string) (string, int) {
	if len(s) > maxFile {
		return "", 0
	}
	c := scan{wants: "value"}
	at := 0
	for {
		at += len(s[at:]) - len(strings.TrimLeft(s[at:], " \n"))
		if at == len(s) {
			break
		}
		token := tokenForm.FindString(s[at:])
		if token == "" || !c.take(token) {
			return "", at
		}
		at += len(token)
	}
	switch {
	case c.wants != "none":
		return "", at
	case c.bad:
		return "", 0
	}
	return string(c.text), -1
}

// checkTree checks what GetTree returns for s, and that what it reads is written again as the document says.
func checkTree(t *testing.T, s string) int {
	t.Helper()
	text, want := wantTree(s)
	x, bad := impl.GetTree(s)
	if bad != want {
		t.Errorf("GetTree(%.300q) returns %d, want %d", s, bad, want)
		return want
	}
	if want >= 0 {
		if !sameTree(x, impl.Tree{}) {
			t.Errorf("GetTree(%.300q) returns %s with %d", s, brief(x), bad)
		}
		return want
	}
	if got := impl.PutTree(x); got != text || !impl.TreeOk(x) {
		t.Errorf("GetTree(%.300q) is written as %.300q, want %.300q", s, got, text)
	}
	return want
}

func checkBadTree(t *testing.T, s string, want int) {
	t.Helper()
	if x, bad := impl.GetTree(s); bad != want || !sameTree(x, impl.Tree{}) {
		t.Errorf("GetTree(%.300q) = %s, %d; want %d", s, brief(x), bad, want)
	}
}

func checkRecovered(t *testing.T, x impl.Tree) string {
	t.Helper()
	text := impl.PutTree(x)
	if back, bad := impl.GetTree(text); bad != -1 || !sameTree(back, x) {
		t.Errorf("%s is written as %.300q and read as %s, %d", brief(x), text, brief(back), bad)
	}
	if wanted, bad := wantTree(text); wanted != text || bad != -1 {
		t.Errorf("%s is written as %.300q, want %.300q", brief(x), text, wanted)
	}
	return text
}

func TestPromise6Texts(t *testing.T) {
	for want, x := range goodTrees() {
		if got := checkRecovered(t, x); got != want {
			t.Errorf("PutTree(%v) = %q, want %q", x, got, want)
		}
		checkTree(t, want)
		got, bad := impl.GetTree(want)
		if bad != -1 || !impl.SameTree(got, x) || !sameTree(got, x) {
			t.Errorf("GetTree(%q) = %v, %d; want %v", want, got, bad, x)
		}
	}
	for _, x := range slices.Concat(sizedTrees(maxNodes), sizedTrees(maxNodes-1)) {
		checkRecovered(t, x)
	}
	for levels := range maxDeep + 1 {
		for _, x := range deepTrees(levels) {
			checkRecovered(t, x)
		}
	}
	for _, s := range byteTexts() {
		if len(s) < 4000 {
			checkRecovered(t, textTree(s))
			checkRecovered(t, impl.Tree{Kind: impl.TMap, Keys: []string{s, s + "x"}, Kids: []impl.Tree{textTree(s), {}}})
		}
	}
	for _, n := range []int{0, 1, 9, 10, 99, 100, 123456789, maxInt - 1, maxInt} {
		checkRecovered(t, listTree(intTree(n), intTree(n)))
	}
}

// randomTree returns a valid tree of at most left nodes and levels, and takes its nodes off left.
func randomTree(r *rand.Rand, levels int, left *int) impl.Tree {
	*left--
	kind := r.Intn(impl.TMap + 1)
	if levels > 0 && r.Intn(2) == 0 {
		kind = impl.TList + r.Intn(2)
	}
	x := impl.Tree{Kind: kind}
	switch kind {
	case impl.TInt:
		x.N = r.Intn(maxInt + 1)
	case impl.TText:
		x.S = randomText(r)
	case impl.TList, impl.TMap:
		for size := r.Intn(7); size > 0 && levels > 0 && *left > 0; size-- {
			x.Kids = append(x.Kids, randomTree(r, levels-1, left))
			if kind == impl.TMap {
				x.Keys = append(x.Keys, randomText(r)+strconv.Itoa(size))
			}
		}
	}
	return x
}

func randomText(r *rand.Rand) string {
	b := make([]byte, r.Intn(6))
	r.Read(b)
	for i := range b {
		if r.Intn(2) == 0 {
			b[i] = "\"\\\n \x00az"[r.Intn(7)]
		}
	}
	return string(b)
}

func TestPromise6RandomTrees(t *testing.T) {
	r := rand.New(rand.NewSource(6))
	read, large := 0, 0
	for range 3000 {
		left := r.Intn(maxNodes)
		x := randomTree(r, maxDeep, &left)
		text := impl.PutTree(x)
		if !impl.TreeOk(x) || text == "" {
			t.Fatalf("%v is not accepted", x)
		}
		if len(text) > maxFile {
			checkBadTree(t, text, 0)
			large++
			continue
		}
		checkRecovered(t, x)
		read++
	}
	if read < 2000 {
		t.Errorf("only %d trees were read, and %d were too large", read, large)
	}
}

func TestPutTreeInvalid(t *testing.T) {
	for i, x := range badTrees() {
		if got := impl.PutTree(x); got != "" {
			t.Errorf("PutTree of the invalid tree %d: %s = %.300q", i, brief(x), got)
		}
	}
}

// PutTree knows no limit for its text; GetTree does.
func TestTreeFileLimit(t *testing.T) {
	for _, size := range []int{maxFile - 1, maxFile, maxFile + 1, maxFile + 2, 3 * maxFile} {
		bad := -1
		if size > maxFile {
			bad = 0
		}
		filler := strings.Repeat("a", size)
		long := impl.Tree{Kind: impl.TMap, Keys: []string{filler[:size-11]}, Kids: []impl.Tree{intTree(1)}}
		for _, x := range []impl.Tree{textTree(filler[:size-2]), listTree(textTree(filler[:size-8])), long} {
			text := impl.PutTree(x)
			if len(text) != size {
				t.Errorf("the text has %d bytes, want %d", len(text), size)
			}
			if got, at := impl.GetTree(text); at != bad || sameTree(got, x) != (bad == -1) {
				t.Errorf("GetTree of %d bytes returns %d", size, at)
			}
			checkTree(t, text)
		}
		blanks := strings.Repeat(" ", size-1)
		newlines := strings.Repeat("\n", size-1)
		for _, s := range []string{"1" + blanks, blanks + "1", newlines + "1", "1" + newlines, "[" + blanks[1:] + "]"} {
			if got := checkTree(t, s); got != bad {
				t.Errorf("a number and %d blanks: %d", size-1, got)
			}
		}
		end := size
		if size > maxFile {
			end = 0
		}
		checkBadTree(t, blanks+" ", end)
		checkBadTree(t, "["+newlines, end)
		checkBadTree(t, strings.Repeat("[", size), end)
		checkBadTree(t, strings.Repeat("{\"\":", size/4)+blanks[:size%4], end)
	}
}

// The index of a missing token is that of the end, behind all blanks.
func TestPromise6CutOff(t *testing.T) {
	tokens := []string{"{", `"a"`, ":", "[", "1", ",", `"x"`, ",", "null", ",", "{", "}", ",", "[", "]", "]", ",", `"\x00\n"`, ":", "{", `""`, ":", "true", "}", ",", `"c"`, ":", "false", "}"}
	for _, blank := range []string{"", " ", "\n", "  ", " \n \n"} {
		whole := blank
		for i, token := range tokens {
			checkBadTree(t, whole, len(whole))
			for size := 1; size < len(token); size++ {
				checkBadTree(t, whole+token[:size], len(whole))
			}
			for _, other := range []string{"@", "\t", "x", "'", "-", ".", "\x00", "/", "\xff", "NULL", "True", "\"\t", `"\u0041"`, `"\x41"`, "01", "-1", "+1", "1000000000"} {
				checkTree(t, whole+other+blank+strings.Join(tokens[i:], blank))
				if joins := strings.HasSuffix(whole, "1") && strings.Contains("01", other[:1]); !joins {
					checkBadTree(t, whole+other, len(whole))
				}
			}
			whole += token + blank
		}
		if checkTree(t, whole) != -1 {
			t.Errorf("%q is not accepted", whole)
		}
		for _, extra := range []string{"1", "null", `"`, "\"a\"", "]", "}", "[", ",", ":", "x", "\t", "[]", "\x00"} {
			checkBadTree(t, whole+extra, len(whole))
			checkBadTree(t, whole+extra+blank+whole, len(whole))
		}
	}
}

func TestGetTreeIndexes(t *testing.T) {
	cases := map[string]int{
		"": 0, " ": 1, "\n": 1, " \n  \n": 5, "\t": 0, " \t": 1, "\r\n": 0, "x": 0, "  x": 2,
		// words
		"nul": 0, "n": 0, "tru": 0, "fals": 0, "Null": 0, "TRUE": 0, "nil": 0, "[nul]": 1, " tru e": 1, "nullx": 4, "null null": 5, "nullnull": 4, "true1": 4, "[false true]": 7, "undefined": 0,
		// numbers
		"00": 0, "01": 0, "007": 0, "[01]": 1, "-1": 0, "+1": 0, "-0": 0, "[ -1]": 2, "1000000000": 0, "[1, 1000000000]": 4, "{\"a\": 99999999999999999999999}": 6, "[0000000001]": 1, "1.5": 1, "1e5": 1, "[1,2.0]": 4, "1 2": 2, "1-": 1, "0x1": 1, "1_0": 1, ".5": 0,
		// texts
		`"`: 0, `"a`: 0, ` "a`: 1, `"a\"`: 0, `"\`: 0, `"\n`: 0, `"\x0`: 0, `"\x41"`: 0, `"\x0a"`: 0, `"\xFF"`: 0, `"\t"`: 0, `"\/"`: 0, `"\u0041"`: 0, "\"\n\"": 0, "\"\t\"": 0, "\"\xc3\xa9\"": 0, `'a'`: 0, `"a""b"`: 3, `"a" "b"`: 4, `["a" "b"]`: 5, `["a", "b]`: 6,
		// lists
		"[": 1, "[ ": 2, "[1": 2, "[1 ": 3, "[1,": 3, "[1, ": 4, "[1,]": 3, "[,1]": 1, "[,]": 1, "[1,,2]": 3, "[1 2]": 3, "[1}": 2, "[}": 1, "]": 0, "[]]": 2, "[][]": 2, "[[]": 3, "[1:2]": 2, "[\"a\":2]": 4, "[1;2]": 2, "[1,\t2]": 3, "[1\t]": 2, "[\r\n]": 1,
		// maps
		"{": 1, "{\n": 2, "}": 0, "{]": 1, "{1}": 1, "{null:1}": 1, "{a:1}": 1, "{\"a\"}": 4, "{\"a\"": 4, "{\"a\" ": 5, "{\"a\" 1}": 5, "{\"a\",1}": 4, "{\"a\":": 5, "{\"a\": ": 6, "{\"a\":}": 5, "{\"a\":,}": 5, "{\"a\"::1}": 5, "{\"a\":1": 6, "{\"a\":1,": 7, "{\"a\":1,}": 7, "{\"a\":1,1": 7, "{\"a\":1 \"b\":2}": 7, "{\"a\":1]": 6, "{,}": 1, "{:1}": 1, "{\"a": 1, "{\"a\":1, \"b": 8, "{[]:1}": 1, "{\"a\":1}}": 7, "{\"a\":1};": 7, "{\"a\":1}\x00": 7,
		// comments and other marks before the value
		"//": 0, "1 // a": 2, "/* a */ 1": 0, "\ufeff1": 0, "\u00a01": 0, "\v1": 0, "\f1": 0, "\x001": 0, "\x00": 0,
		// invalid trees
		"{\"a\":1,\"a\":1}": 0, " [1, {\"b\": 0, \"a\":1, \"a\":2}]": 0, "{\"\":1,\"b\":{},\"\":2}": 0, "[{\"\\n\":1,\"\\n\":2}]": 0,
		// a token that does not fit comes before the tree that is invalid
		"{\"a\":1,\"a\":1": 12, "{\"a\":1,\"a\":1}]": 13, "{\"a\":1,\"a\":x}": 11,
	}
	for s, want := range cases {
		checkBadTree(t, s, want)
		if got := checkTree(t, s); got != want {
			t.Errorf("%q: the test's own scan returns %d, want %d", s, got, want)
		}
	}
	for _, s := range []string{"{\"a\":{\"a\":1},\"b\":{\"a\":1}}", "[{\"a\":1},{\"a\":1}]", "{\"a\":1,\"A\":1,\"a \":1,\"\":1}"} {
		if checkTree(t, s) != -1 {
			t.Errorf("%q has no key twice", s)
		}
	}
}

func TestTreeBlanks(t *testing.T) {
	tokens := []string{"[", "0", ",", `" a "`, ",", "{", `"a"`, ":", "null", ",", `"b c"`, ":", "[", "]", "}", ",", "false", "]"}
	want, bad := impl.GetTree(strings.Join(tokens, ""))
	if bad != -1 {
		t.Fatal(bad)
	}
	for gap := range len(tokens) + 1 {
		before, after := strings.Join(tokens[:gap], ""), strings.Join(tokens[gap:], "")
		for _, blank := range []string{" ", "\n", "  ", "\n\n", " \n", "\n ", strings.Repeat(" \n", 500)} {
			if x, bad := impl.GetTree(before + blank + after); bad != -1 || !sameTree(x, want) {
				t.Errorf("GetTree(%.300q) = %v, %d", before+blank+after, x, bad)
			}
		}
		for c := range 256 {
			other := string([]byte{byte(c)})
			checkTree(t, before+other+after)
			if strings.Contains("\t\v\f\r\x00\x1f\x7f\x85\xa0\xff", other) {
				checkBadTree(t, before+other+after, len(before))
				checkBadTree(t, before+" \n"+other+" "+after, len(before)+2)
			}
		}
	}
	// within a token no blank is passed over
	for s, at := range map[string]int{"nu ll": 0, "tr\nue": 0, "1 0": 2, "[1\n0]": 3, "\"a\nb\"": 0} {
		checkBadTree(t, s, at)
	}
}

func TestGetTreeLimits(t *testing.T) {
	ones := func(size int) string { return "[" + strings.TrimSuffix(strings.Repeat("1,", size), ",") + "]" }
	nested := func(levels int, inner string) string {
		return strings.Repeat("[", levels) + inner + strings.Repeat("]", levels)
	}
	good := []string{ones(maxNodes - 1), nested(maxDeep, "1"), nested(maxDeep, "{}"), nested(maxDeep, "[]"), nested(4, "{\"a\":{\"a\":{\"a\":{\"a\":null}}}}"), "[" + ones(300) + "," + ones(297) + "]"}
	for _, s := range good {
		if x, bad := impl.GetTree(s); bad != -1 || !impl.TreeOk(x) {
			t.Errorf("GetTree(%.300q) returns %d", s, bad)
		}
		checkTree(t, s)
	}
	bad := []string{ones(maxNodes), ones(maxNodes + 1), ones(9000), nested(maxDeep+1, "1"), nested(maxDeep+1, "{}"), nested(maxDeep+2, ""), nested(4, "{\"a\":{\"a\":{\"a\":{\"a\":[1]}}}}"), "[" + ones(300) + "," + ones(298) + "]", nested(maxFile/2, ""), nested(maxFile/2-1, "{}"), " " + ones(maxNodes), "[1," + nested(maxDeep, "1") + "]"}
	for _, s := range bad {
		checkBadTree(t, s, 0)
		checkTree(t, s)
		// a token that does not fit, too, comes first
		checkBadTree(t, s[:len(s)-1], len(s)-1)
		checkBadTree(t, s[:len(s)-1]+"}", len(s)-1)
		if len(s) < maxFile {
			checkBadTree(t, s+"1", len(s))
		}
	}
}

// tokenTexts returns every sequence of at most size of the tokens, of which there are at most ten.
func tokenTexts(tokens []string, size int) []string {
	list := allTexts("0123456789"[:len(tokens)], size)
	for i, code := range list {
		text := ""
		for k := range len(code) {
			text += tokens[code[k]-'0']
		}
		list[i] = text
	}
	return list
}

// Every sequence of up to six tokens is read as the document's grammar says.
func TestPromise6OtherTexts(t *testing.T) {
	tokens := []string{"[", "]", "{", "}", ",", ":", "1", `"a"`, " "}
	taken, left := 0, 0
	check := func(s string) {
		if checkTree(t, s) == -1 {
			taken++
		} else {
			left++
		}
	}
	for _, s := range tokenTexts(tokens, 6) {
		check(s)
	}
	for _, s := range allTexts("[{\"a:0,}]\n", 5) {
		check("{\"a\":" + s)
		check("[0," + s + "]")
	}
	for _, s := range []string{"{\"a\": [10, \"\\x0b\\\"\"], \"b\": {\"\": null}}", "[true,false ,\n{}]", "[\n  1,\n  {\n    \"a\": 999999999\n  }\n]"} {
		for _, near := range nearTexts(s) {
			check(near)
		}
	}
	if taken < 1000 || left < 100000 {
		t.Errorf("%d texts are trees and %d are none", taken, left)
	}
}

func checkKid(t *testing.T, x impl.Tree, key string, want impl.Tree, wantOk bool) {
	t.Helper()
	if got, ok := impl.Kid(x, key); ok != wantOk || !sameTree(got, want) {
		t.Errorf("Kid(%s, %q) = %s, %v; want %s, %v", brief(x), key, brief(got), ok, brief(want), wantOk)
	}
	text := ""
	if wantOk && want.Kind == impl.TText {
		text = want.S
	}
	if got := impl.TextOf(x, key); got != text {
		t.Errorf("TextOf(%s, %q) = %q, want %q", brief(x), key, got, text)
	}
}

// noMaps returns trees that are no TMap, with keys and kids all the same.
func noMaps() []impl.Tree {
	list := []impl.Tree{{}, intTree(1), textTree("a"), listTree(), listTree(textTree("a"))}
	for _, kind := range []int{impl.TNull, impl.TFalse, impl.TTrue, impl.TInt, impl.TText, impl.TList, -1, 7, -6, math.MinInt, math.MaxInt} {
		list = append(list, impl.Tree{Kind: kind, N: 1, S: "a", Keys: []string{"a", ""}, Kids: []impl.Tree{textTree("x"), textTree("y")}})
	}
	return list
}

func TestKid(t *testing.T) {
	values := []impl.Tree{{}, {Kind: impl.TFalse}, {Kind: impl.TTrue}, intTree(5), textTree("x"), textTree(""), listTree(textTree("y")), mapTree("a", textTree("z")), {Kind: 9, S: "no text"}, {Kind: impl.TInt, S: "no text"}}
	keys := []string{"a", "b", "", "\"\n", "A", "a ", "\xff", "node_modules/x", "ab", "key"}
	x := impl.Tree{Kind: impl.TMap, Keys: keys, Kids: values}
	for i, key := range keys {
		checkKid(t, x, key, values[i], true)
		checkKid(t, listTree(x), key, impl.Tree{}, false)
		checkKid(t, mapTree("out", x), key, impl.Tree{}, false)
	}
	for _, key := range []string{"c", "B", " ", "aa", "\n\"", "z", "x", "\x00"} {
		checkKid(t, x, key, impl.Tree{}, false)
	}
	for _, x := range noMaps() {
		checkKid(t, x, "a", impl.Tree{}, false)
		checkKid(t, x, "", impl.Tree{}, false)
	}
	checkKid(t, mapTree(""), "", impl.Tree{}, false)
	checkKid(t, mapTree(""), "a", impl.Tree{}, false)
	checkKid(t, mapTree("a b a", intTree(1), intTree(2), textTree("x")), "a", intTree(1), true)
	// a key without a value, and a value without a key
	checkKid(t, mapTree("a b", textTree("x")), "a", textTree("x"), true)
	checkKid(t, mapTree("a b", textTree("x")), "b", impl.Tree{}, false)
	checkKid(t, mapTree("a", textTree("x"), textTree("y")), "a", textTree("x"), true)
	checkKid(t, mapTree("", textTree("x")), "", impl.Tree{}, false)
}

func checkWith(t *testing.T, x impl.Tree, key string, value impl.Tree, want impl.Tree) {
	t.Helper()
	if got := impl.With(x, key, value); !sameTree(got, want) {
		t.Errorf("With(%s, %q, %s) = %s, want %s", brief(x), key, brief(value), brief(got), brief(want))
	}
}

func TestWith(t *testing.T) {
	x := mapTree("a b", intTree(1), textTree("x"))
	for _, value := range []impl.Tree{{}, intTree(7), textTree("y"), listTree(x), x, mapTree(""), {Kind: -3, N: -4, S: "z"}} {
		checkWith(t, x, "a", value, mapTree("a b", value, textTree("x")))
		checkWith(t, x, "b", value, mapTree("a b", intTree(1), value))
		checkWith(t, x, "c", value, mapTree("a b c", intTree(1), textTree("x"), value))
		checkWith(t, x, "", value, impl.Tree{Kind: impl.TMap, Keys: []string{"a", "b", ""}, Kids: []impl.Tree{intTree(1), textTree("x"), value}})
		checkWith(t, mapTree(""), "\n", value, impl.Tree{Kind: impl.TMap, Keys: []string{"\n"}, Kids: []impl.Tree{value}})
		for _, y := range noMaps() {
			checkWith(t, y, "a", value, y)
			checkWith(t, y, "c", value, y)
		}
		for _, key := range []string{"a", "b", "c", "", "\xff"} {
			checkKid(t, impl.With(x, key, value), key, value, true)
		}
	}
	checkWith(t, mapTree("a b a", intTree(1), intTree(2), intTree(3)), "a", intTree(4), mapTree("a b a", intTree(4), intTree(2), intTree(3)))
	// a key without a value, and a value without a key: the pair is appended to both lists
	checkWith(t, mapTree("a b", intTree(1)), "a", intTree(4), mapTree("a b", intTree(4)))
	checkWith(t, mapTree("a b", intTree(1)), "b", intTree(4), mapTree("a b b", intTree(1), intTree(4)))
	checkWith(t, mapTree("a b", intTree(1)), "c", intTree(4), mapTree("a b c", intTree(1), intTree(4)))
	checkWith(t, mapTree("a", intTree(1), intTree(2)), "a", intTree(4), mapTree("a", intTree(4), intTree(2)))
	checkWith(t, mapTree("a", intTree(1), intTree(2)), "b", intTree(4), mapTree("a b", intTree(1), intTree(2), intTree(4)))
	// the limits are not With's to keep
	large := sizedTrees(maxNodes)[1]
	more := impl.With(large, "new", intTree(1))
	if len(more.Keys) != maxNodes || len(more.Kids) != maxNodes || impl.TreeOk(more) || !impl.TreeOk(impl.With(large, "key7", intTree(1))) {
		t.Error("a value is not added to a map of MaxNodes nodes, or not replaced in it")
	}
}

func checkMaps(t *testing.T, keys []string, kids []impl.Tree, want impl.Tree) {
	t.Helper()
	if got := impl.Maps(keys, kids); !sameTree(got, want) {
		t.Errorf("Maps(%q, %s) = %s, want %s", keys, brief(kids), brief(got), brief(want))
	}
}

func TestMaps(t *testing.T) {
	kids := []impl.Tree{intTree(1), textTree("x"), listTree(intTree(2)), mapTree("a", intTree(3)), {Kind: 9}}
	keys := []string{"a", "", "a", "\n", "e"}
	for i := range len(keys) + 1 {
		for k := range len(kids) + 1 {
			size := min(i, k)
			want := impl.Tree{Kind: impl.TMap, Keys: keys[:size], Kids: kids[:size]}
			checkMaps(t, keys[:i], kids[:k], want)
		}
	}
	checkMaps(t, nil, nil, mapTree(""))
	checkMaps(t, keys, nil, mapTree(""))
	checkMaps(t, nil, kids, mapTree(""))
	checkMaps(t, []string{}, []impl.Tree{}, mapTree(""))
	many := impl.Maps(numberedKeys(1000), make([]impl.Tree, 2000))
	if len(many.Keys) != 1000 || len(many.Kids) != 1000 || many.Kind != impl.TMap {
		t.Error(len(many.Keys), len(many.Kids), many.Kind)
	}
}

// callTree calls every function of the chapter.
func callTree(x impl.Tree, y impl.Tree, key string, text string) {
	impl.TreeOk(x)
	impl.SameTree(x, y)
	impl.PutTree(x)
	impl.GetTree(text)
	impl.Kid(x, key)
	impl.TextOf(x, key)
	impl.With(x, key, y)
	impl.Maps(x.Keys, y.Kids)
	impl.Maps([]string{key}, []impl.Tree{x, y})
}

func TestPromise16TreeReturns(t *testing.T) {
	texts := append(byteTexts(), allTexts("[\"{\\:x", 4)...)
	for _, s := range []string{"[", "{", "\"", "[{\"a\":", "{\"a\":[", "1", "0", ",", "null", "[],", "\\", " ", "\n", "[[1],", "{\"a\":{},"} {
		for _, size := range []int{1, 100, maxFile / len(s), maxFile/len(s) + 1, 100000} {
			texts = append(texts, strings.Repeat(s, size))
		}
	}
	for _, s := range texts {
		x := impl.Tree{Kind: impl.TMap, S: s, Keys: []string{s, "a"}, Kids: []impl.Tree{textTree(s)}}
		callTree(x, listTree(x), s, s)
		callTree(textTree(s), x, s, "["+s)
		callTree(impl.Tree{Kind: impl.TMap, Keys: []string{s}, Kids: []impl.Tree{textTree(s)}}, x, s, "{\"a\":"+s)
	}
	for _, x := range append(badTrees(), noMaps()...) {
		callTree(x, x, "a", "")
		callTree(mapTree("a b", x, x), x, "a", "")
	}
	wide := impl.Tree{Kind: impl.TMap, Keys: numberedKeys(200000), Kids: make([]impl.Tree, 200000)}
	callTree(wide, wide, "key199999", "")
	callTree(mapTree("a a a", wide, wide), listTree(wide, wide), "a", "")
	deep := wrapped(intTree(1), 300001)
	callTree(deep, wrapped(intTree(1), 300001), "k", "")
	callTree(mapTree("k", deep), mapTree("k", deep), "k", "")
	if impl.SameTree(deep, wrapped(intTree(2), 300001)) || !impl.SameTree(deep, wrapped(intTree(1), 300001)) {
		t.Error("deep trees are not compared")
	}
}

// loopTree returns a map that has itself as the value of a, in the given number of lists of kids, and a text as that of b.
func loopTree(lists int, text string) impl.Tree {
	first := make([]impl.Tree, 2)
	kids := first
	for range lists - 1 {
		next := make([]impl.Tree, 2)
		kids[0], kids[1] = mapTree("a b", next...), textTree(text)
		kids = next
	}
	kids[0], kids[1] = mapTree("a b", first...), textTree(text)
	return mapTree("a b", first...)
}

// listsOf returns the spans of all lists and texts of a tree that may contain itself, each list once.
func listsOf(x impl.Tree) []span {
	spans := []span{}
	seen := map[*impl.Tree]bool{}
	open := [][]impl.Tree{{x}}
	for len(open) > 0 {
		list := open[0]
		open = open[1:]
		for _, x := range list {
			spans = append(spans, textSpan(x.S))
			spans = append(spans, keySpans(x.Keys)...)
			if len(x.Kids) > 0 && !seen[&x.Kids[0]] {
				seen[&x.Kids[0]] = true
				spans = append(spans, listSpan(x.Kids))
				open = append(open, x.Kids)
			}
		}
	}
	return spans
}

func checkLoopCopy(t *testing.T, what string, got impl.Tree, want impl.Tree, arguments []span) {
	t.Helper()
	if !impl.SameTree(got, want) {
		t.Errorf("%s of a tree that contains itself is another one", what)
	}
	for _, a := range listsOf(got) {
		for _, b := range arguments {
			if a.meets(b) {
				t.Fatalf("%s of a tree that contains itself shares memory with it", what)
			}
		}
	}
}

// Go's slices can make a tree that contains itself; the functions return for it as for any other.
func TestPromise16LoopTrees(t *testing.T) {
	for _, lists := range []int{1, 2, 3, 7} {
		x, y, other := loopTree(lists, "text"), loopTree(5, "text"), loopTree(lists, "other")
		if impl.TreeOk(x) || impl.PutTree(x) != "" || impl.TreeOk(listTree(x)) {
			t.Error("a tree that contains itself is accepted")
		}
		if !impl.SameTree(x, x) || !impl.SameTree(x, y) || impl.SameTree(x, other) || impl.SameTree(x, textTree("text")) || impl.SameTree(x, mapTree("a b", intTree(1), textTree("text"))) || !impl.SameTree(x, mapTree("a b", y, textTree("text"))) {
			t.Error("trees that contain themselves are not compared")
		}
		arguments := listsOf(x)
		kid, ok := impl.Kid(x, "a")
		if !ok || impl.TextOf(x, "b") != "text" || impl.TextOf(x, "a") != "" {
			t.Error("a tree that contains itself has no kid")
		}
		checkLoopCopy(t, "Kid", kid, x, arguments)
		checkLoopCopy(t, "With", impl.With(x, "b", intTree(1)), mapTree("a b", x, intTree(1)), arguments)
		checkLoopCopy(t, "With", impl.With(x, "a", x), x, arguments)
		checkLoopCopy(t, "With", impl.With(mapTree("b", intTree(1)), "a", x), mapTree("b a", intTree(1), x), arguments)
		checkLoopCopy(t, "With", impl.With(listTree(x), "a", x), listTree(x), arguments)
		checkLoopCopy(t, "Maps", impl.Maps([]string{"a", "b"}, []impl.Tree{x, x}), mapTree("a b", x, x), arguments)
	}
	// a list that stands in itself many times, longer than what is copied apart
	kids := make([]impl.Tree, 30000)
	x := impl.Tree{Kind: impl.TMap, Keys: numberedKeys(len(kids)), Kids: kids}
	kids[1], kids[2], kids[29999] = x, listTree(x, x), x
	got := impl.With(x, "key0", textTree("new"))
	second, _ := impl.Kid(got, "key1")
	if impl.TextOf(got, "key0") != "new" || !impl.SameTree(second, x) || impl.SameTree(got, x) {
		t.Error("With changes a tree within the tree, too")
	}
}

// A list that stands twice on every level makes a tree too large for any memory.
func TestPromise16SharedLists(t *testing.T) {
	doubled := func(inner impl.Tree) impl.Tree {
		for range 100 {
			inner = mapTree("a b", inner, inner)
		}
		return inner
	}
	x, y, other := doubled(intTree(1)), doubled(intTree(1)), doubled(intTree(2))
	if impl.TreeOk(x) || impl.PutTree(x) != "" || !impl.SameTree(x, y) || impl.SameTree(x, other) {
		t.Error("a tree of shared lists is not told from others")
	}
	arguments := listsOf(x)
	kid, _ := impl.Kid(mapTree("c", x), "c")
	checkLoopCopy(t, "Kid", kid, y, arguments)
	checkLoopCopy(t, "With", impl.With(x, "c", x), mapTree("a b c", x.Kids[0], x.Kids[1], y), arguments)
	checkLoopCopy(t, "Maps", impl.Maps([]string{"c"}, []impl.Tree{x}), mapTree("c", y), arguments)
}

// Lists that begin at the same place in memory are not the same list.
func TestListsWithOneBeginning(t *testing.T) {
	base, other := []impl.Tree{intTree(1), intTree(2)}, []impl.Tree{intTree(1), intTree(3)}
	if impl.SameTree(listTree(listTree(base[:1]...), listTree(base...)), listTree(listTree(other[:1]...), listTree(other...))) {
		t.Error("SameTree does not see the end of the longer list")
	}
	for _, size := range []int{0, maxFile - 3, maxFile, 2 * maxFile} {
		x := mapTree("a b c d", listTree(make([]impl.Tree, size)...), listTree(base[:1]...), listTree(base...), listTree(base[1:]...))
		if got := impl.With(listTree(x), "a", x); !sameTree(got, listTree(x)) {
			t.Errorf("a tree of %d nodes is copied as another one", size)
		}
		if got, _ := impl.Kid(mapTree("k", x), "k"); !sameTree(got, x) {
			t.Errorf("a kid of %d nodes is another one", size)
		}
	}
}

// spareTree returns x in memory of its own, with spare capacity behind every slice.
func spareTree(x impl.Tree) impl.Tree {
	kids := []impl.Tree{}
	for _, kid := range x.Kids {
		kids = append(kids, spareTree(kid))
	}
	kids = append(kids, textTree("spare"), intTree(5))[:len(x.Kids)]
	keys, _ := spareList(ownTexts(x.Keys)...)
	return impl.Tree{Kind: x.Kind, N: x.N, S: strings.Clone(x.S), Keys: keys, Kids: kids}
}

// wholeTree returns a copy of x with all its slices extended to their capacity.
func wholeTree(x impl.Tree) impl.Tree {
	kids := []impl.Tree{}
	for _, kid := range x.Kids[:cap(x.Kids)] {
		kids = append(kids, wholeTree(kid))
	}
	return impl.Tree{Kind: x.Kind, N: x.N, S: strings.Clone(x.S), Keys: ownTexts(x.Keys[:cap(x.Keys)]), Kids: kids}
}

// memoryTrees returns trees of all kinds, valid and not, with texts that are long enough to have memory of their own.
func memoryTrees() []impl.Tree {
	inner := mapTree("name version hashes", textTree("left-pad"), textTree("1.3.0"), listTree(textTree("sha1"), textTree("sha256"), listTree()))
	list := []impl.Tree{
		{}, intTree(12), textTree("some text"), listTree(), mapTree(""), inner, listTree(inner, inner, textTree("more")),
		mapTree("first second third", inner, listTree(inner, intTree(3)), textTree("third text")),
		mapTree("name first name", inner, inner, textTree("again")),
		mapTree("first name third", textTree("lonely")), mapTree("name", inner, inner), mapTree("name"),
		{Kind: impl.TMap, N: 7, S: "unused", Keys: []string{"name"}, Kids: []impl.Tree{textTree("value")}},
		{Kind: 77, N: 7, S: "unused", Keys: []string{"name"}, Kids: []impl.Tree{inner, inner}},
		listTree(mapTree("outer", listTree(listTree(mapTree("name", inner))))),
	}
	return append(list, noMaps()[5:]...)
}

func TestPromise16TreeArguments(t *testing.T) {
	for _, first := range memoryTrees() {
		for _, second := range memoryTrees() {
			x, y := spareTree(first), spareTree(second)
			wantX, wantY := wholeTree(x), wholeTree(y)
			for _, key := range []string{"name", "first", "new", ""} {
				callTree(x, y, key, "")
				callTree(x, x, key, "")
			}
			if !reflect.DeepEqual(wholeTree(x), wantX) || !reflect.DeepEqual(wholeTree(y), wantY) {
				t.Errorf("%v or %v was modified", first, second)
			}
		}
	}
}

// treeSpans returns the memory of the tree, with that of a list that stands in it twice twice.
func treeSpans(x impl.Tree) []span {
	spans := append(keySpans(x.Keys), textSpan(x.S), listSpan(x.Kids))
	for _, kid := range x.Kids {
		spans = append(spans, treeSpans(kid)...)
	}
	return spans
}

func TestPromise16TreeMemory(t *testing.T) {
	for _, first := range memoryTrees() {
		x := spareTree(first)
		text := strings.Clone(impl.PutTree(x))
		arguments := append(treeSpans(x), textSpan(text))
		checkSpans(t, "PutTree", []span{textSpan(impl.PutTree(x))}, treeSpans(x))
		read, _ := impl.GetTree(text)
		again, _ := impl.GetTree(text)
		checkSpans(t, "GetTree", append(treeSpans(read), treeSpans(again)...), arguments)
		for _, key := range []string{"name", "first", "third", "new name"} {
			key := strings.Clone(key)
			all := append(arguments, textSpan(key))
			kid, _ := impl.Kid(x, key)
			checkSpans(t, "Kid", treeSpans(kid), all)
			checkSpans(t, "TextOf", []span{textSpan(impl.TextOf(x, key))}, all)
			checkSpans(t, "With", treeSpans(impl.With(x, key, x)), all)
			for _, second := range memoryTrees() {
				y := spareTree(second)
				both := append(treeSpans(y), all...)
				checkSpans(t, "With", treeSpans(impl.With(x, key, y)), both)
				checkSpans(t, "Maps", treeSpans(impl.Maps([]string{key, key}, []impl.Tree{x, x, y})), both)
				checkSpans(t, "Maps", treeSpans(impl.Maps(x.Keys, y.Kids)), both)
			}
		}
	}
}

// The lists of an argument may be one and the same; those of a result are not.
func TestPromise16SharedTreeMemory(t *testing.T) {
	keys := []string{"first", "second"}
	shared := impl.Tree{Kind: impl.TMap, Keys: keys, Kids: []impl.Tree{textTree("one text"), listTree(textTree("other text"))}}
	x := impl.Tree{Kind: impl.TMap, Keys: keys, Kids: []impl.Tree{shared, shared}}
	outer := impl.Tree{Kind: impl.TMap, Keys: keys, Kids: []impl.Tree{x, x}}
	arguments := append(treeSpans(outer), keySpans(keys)...)
	kid, _ := impl.Kid(outer, "first")
	checkSpans(t, "Kid", treeSpans(kid), arguments)
	checkSpans(t, "With", treeSpans(impl.With(outer, "first", outer)), arguments)
	checkSpans(t, "With", treeSpans(impl.With(outer, "third", outer)), arguments)
	checkSpans(t, "With", treeSpans(impl.With(listTree(outer, x), "third", outer)), arguments)
	checkSpans(t, "Maps", treeSpans(impl.Maps(keys, outer.Kids)), arguments)
	checkSpans(t, "Maps", treeSpans(impl.Maps(keys, []impl.Tree{outer, outer})), arguments)
	// an empty list has no room that an append to the result would fill
	empty := impl.Tree{Kind: impl.TList, Keys: make([]string, 0, 3), Kids: make([]impl.Tree, 0, 3)}
	room := append(keySpans(empty.Keys), listSpan(empty.Kids))
	checkSpans(t, "With", treeSpans(impl.With(empty, "a", empty)), room)
	checkSpans(t, "Maps", treeSpans(impl.Maps(empty.Keys, empty.Kids)), room)
	checkSpans(t, "Maps", treeSpans(impl.Maps(keys, []impl.Tree{empty, empty})), room)
}
