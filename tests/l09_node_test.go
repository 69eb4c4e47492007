package tests

import (
	"math/rand"
	"reflect"
	"slices"
	"strconv"
	"strings"
	"testing"

	"loop.example/g00445/impl"
)

const (
	maxSpots = 60
	maxPath  = 6
)

func TestNodeConstants(t *testing.T) {
	codes := []int{impl.RdOk, impl.RdText, impl.RdForm, impl.RdNeed, impl.RdGraph}
	if impl.MaxSpots != maxSpots || !slices.Equal(codes, []int{0, 1, 2, 3, 4}) {
		t.Errorf("MaxSpots is %d, the codes are %d", impl.MaxSpots, codes)
	}
}

// names returns the elements of a text, separated by spaces.
func names(text string) []string { return strings.Fields(text) }

func TestPathText(t *testing.T) {
	cases := map[string]string{
		"":            "",
		"a":           "node_modules/a",
		"a b":         "node_modules/a/node_modules/b",
		"a a a":       "node_modules/a/node_modules/a/node_modules/a",
		"@org/ui b":   "node_modules/@org/ui/node_modules/b",
		"a/b/c @d":    "node_modules/a/b/c/node_modules/@d",
		"a b c d e f": "node_modules/a/node_modules/b/node_modules/c/node_modules/d/node_modules/e/node_modules/f",
		// more names than a Path has, and texts that are no names
		"a b c d e f g": "node_modules/a/node_modules/b/node_modules/c/node_modules/d/node_modules/e/node_modules/f/node_modules/g",
		"A":             "node_modules/A",
		"node_modules":  "node_modules/node_modules",
		"/":             "node_modules//",
	}
	for text, want := range cases {
		if got := impl.PathText(names(text)); got != want {
			t.Errorf("PathText(%q) = %q, want %q", text, got, want)
		}
	}
	if none, blank := impl.PathText(nil), impl.PathText([]string{"", ""}); none != "" || blank != "node_modules//node_modules/" {
		t.Errorf("PathText of no path and of empty names: %q, %q", none, blank)
	}
}

// wantReadPath goes from component to component: each node_modules begins a name.
func wantReadPath(s string) []string {
	parts := strings.Split(s, "/")
	if parts[0] != "node_modules" {
		return nil
	}
	list := [][]string{}
	for _, part := range parts {
		if part == "node_modules" {
			list = append(list, nil)
			continue
		}
		list[len(list)-1] = append(list[len(list)-1], part)
	}
	path := []string{}
	for _, components := range list {
		name := strings.Join(components, "/")
		if !impl.NameOk(name) {
			return nil
		}
		path = append(path, name)
	}
	return path
}

// checkReadPath checks what ReadPath returns for s, and returns whether s is a path.
func checkReadPath(t *testing.T, s string) bool {
	t.Helper()
	got, want := impl.ReadPath(s), wantReadPath(s)
	if !slices.Equal(got, want) {
		t.Errorf("ReadPath(%.300q) = %.300q, want %.300q", s, got, want)
	}
	if len(got) > 0 && impl.PathText(got) != s {
		t.Errorf("ReadPath(%.300q) = %.300q, whose PathText is %.300q", s, got, impl.PathText(got))
	}
	return len(want) > 0
}

func TestReadPath(t *testing.T) {
	for _, text := range []string{"a", "a b", "a a a", "@org/ui b", "a/b/c @d", "@a @a/b @a", "@node_modules", "@node_modules @node_modules/a node_modules2", "a b c d e f", "a b c d e f g", "- . _ .. 0/0", strings.Repeat("a", 60)} {
		path := names(text)
		s := "node_modules/" + strings.Join(path, "/node_modules/")
		if got := impl.ReadPath(s); !slices.Equal(got, path) {
			t.Errorf("ReadPath(%q) = %q", s, got)
		}
		checkReadPath(t, s)
	}
	bad := []string{
		"", "a", "/", "node_modules", "node_modules/", "/node_modules/a", "node_modules//a", "node_modules/a/", "node_modules/a//b", "node_modules/a/node_modules", "node_modules/a/node_modules/", "node_modules/a//node_modules/b", "node_modules/node_modules", "node_modules/node_modules/a", "node_modules/a/node_modules/node_modules/b",
		"a/node_modules/b", "node_modules/A", "node_modules/a b", "node_modules/a/node_modules/B", "node_modules/A/node_modules/b", "node_modules/@", "node_modules/@/a", "node_modules/a/@b", "node_modules/a@1.0.0", "Node_modules/a", "node_modulesa", "node_modules\\a", "node_modules/a\n", " node_modules/a", "xnode_modules/a", "node_modules/" + strings.Repeat("a", 61), "node_modules/a/node_modules/" + strings.Repeat("a", 61),
	}
	for _, s := range bad {
		if got := impl.ReadPath(s); len(got) != 0 {
			t.Errorf("ReadPath(%q) = %q", s, got)
		}
		checkReadPath(t, s)
	}
}

func TestReadPathOtherTexts(t *testing.T) {
	texts := append(byteTexts(), tokenTexts([]string{"node_modules", "/", "a", "@", "A"}, 7)...)
	for _, s := range tokenTexts([]string{"node_modules/", "/node_modules", "/", "a", "@b"}, 6) {
		texts = append(texts, "node_modules/"+s)
	}
	for _, name := range append(purlNames(), badNames()...) {
		texts = append(texts, "node_modules/"+name, "node_modules/"+name+"/node_modules/"+name, "node_modules/a/node_modules/"+name, name)
	}
	for _, s := range []string{"node_modules/a", "node_modules/@org/ui/node_modules/b"} {
		texts = append(texts, nearTexts(s)...)
	}
	taken := 0
	for _, s := range texts {
		if checkReadPath(t, s) {
			taken++
		}
	}
	if taken < 1000 || len(texts)-taken < 50000 {
		t.Errorf("%d of %d texts are paths", taken, len(texts))
	}
}

// spotOf returns the spot of a text: the names of its Path, separated by spaces, an equals sign, and its key.
func spotOf(text string) impl.Spot {
	path, key, _ := strings.Cut(text, "=")
	return impl.Spot{Path: names(path), Key: key}
}

func spotsOf(texts ...string) []impl.Spot {
	spots := []impl.Spot{}
	for _, s := range texts {
		spots = append(spots, spotOf(s))
	}
	return spots
}

// wantLookup asks folder by folder, as the document says.
func wantLookup(spots []impl.Spot, path []string, name string) string {
	for size := len(path); size >= 0; size-- {
		place := append(slices.Clone(path[:size]), name)
		for _, s := range spots {
			if slices.Equal(s.Path, place) {
				return s.Key
			}
		}
	}
	return ""
}

func checkLookup(t *testing.T, spots []impl.Spot, path []string, name string, want string) {
	t.Helper()
	if got := impl.Lookup(spots, path, name); got != want {
		t.Errorf("Lookup(%s, %q, %q) = %q, want %q", brief(spots), path, name, got, want)
	}
}

func TestLookup(t *testing.T) {
	spots := spotsOf("a=top a", "b=top b", "@o/c=top c", "a b=b in a", "a b c=c in b in a", "b b=b in b", "d d d=d in d in d")
	for _, c := range []struct{ path, name, want string }{
		// in the folder itself, whose last name may be the one that is asked for
		{"a", "b", "b in a"}, {"a b", "c", "c in b in a"}, {"b", "b", "b in b"}, {"", "a", "top a"}, {"", "@o/c", "top c"}, {"d d", "d", "d in d in d"},
		// in a folder above: one, two, and without any folder
		{"a b", "b", "b in a"}, {"a b c", "b", "b in a"}, {"a b c", "c", "c in b in a"}, {"a b c", "a", "top a"}, {"a b x y z", "c", "c in b in a"}, {"a x", "b", "b in a"}, {"x a", "b", "top b"}, {"a b", "@o/c", "top c"}, {"b a", "b", "b in b"}, {"b b", "b", "b in b"}, {"b b b b b b b b", "b", "b in b"}, {"a", "a", "top a"}, {"a a", "a", "top a"}, {"d d d", "d", "d in d in d"}, {"x y z", "b", "top b"}, {"a/b", "b", "top b"},
		// nowhere: not at all, or only in folders that are not above
		{"", "x", ""}, {"a b c", "x", ""}, {"", "c", ""}, {"a", "c", ""}, {"b", "c", ""}, {"b b", "c", ""}, {"a x", "c", ""}, {"x", "d", ""}, {"d", "d", ""}, {"", "d", ""}, {"a b", "o/c", ""}, {"a b c", "", ""}, {"", "", ""}, {"", "A", ""}, {"", "a ", ""}, {"", "top a", ""},
	} {
		checkLookup(t, spots, names(c.path), c.name, c.want)
		checkLookup(t, slices.Concat(spots, spots), names(c.path), c.name, c.want)
	}
	checkLookup(t, nil, nil, "a", "")
	checkLookup(t, nil, names("a b"), "a", "")
	// of spots with the same Path the first counts, also one with an empty key, and behind those in other folders
	twice := spotsOf("b=1", "a b=2", "b=3", "a b=4", "a b=2", "c=", "c=5", "a c=", "a c=6")
	checkLookup(t, twice, nil, "b", "1")
	checkLookup(t, twice, names("a"), "b", "2")
	checkLookup(t, twice, names("x"), "b", "1")
	checkLookup(t, twice, nil, "c", "")
	checkLookup(t, twice, names("a"), "c", "")
	checkLookup(t, twice, names("x"), "c", "")
	slices.Reverse(twice)
	checkLookup(t, twice, nil, "b", "3")
	checkLookup(t, twice, names("a"), "b", "2")
	checkLookup(t, twice, nil, "c", "5")
	checkLookup(t, twice, names("a"), "c", "6")
	// names are held against each other one by one, however the texts of the paths look
	slashes := spotsOf("a/b c d=1", "a b/c e=2")
	for _, c := range []struct{ path, name, want string }{{"a/b c", "d", "1"}, {"a b/c", "d", ""}, {"a b c", "d", ""}, {"a/b/c", "d", ""}, {"a b/c", "e", "2"}, {"a/b c", "e", ""}, {"a", "b/c", ""}} {
		checkLookup(t, slashes, names(c.path), c.name, c.want)
	}
	// spots without a Path are in no folder, and empty names are names
	odd := []impl.Spot{{Key: "none"}, {Path: []string{""}, Key: "blank"}, {Path: []string{"", ""}, Key: "blank in blank"}}
	checkLookup(t, odd, nil, "", "blank")
	checkLookup(t, odd, []string{""}, "", "blank in blank")
	checkLookup(t, odd, []string{"a"}, "", "blank")
	checkLookup(t, odd[:1], nil, "", "")
	checkLookup(t, odd[:1], names("a"), "a", "")
}

func TestLookupByDefinition(t *testing.T) {
	r := rand.New(rand.NewSource(9))
	paths := [][]string{}
	for _, s := range allTexts("abc", 4) {
		paths = append(paths, strings.Split(s, "")[:len(s)])
	}
	found := 0
	for range 300 {
		spots := []impl.Spot{}
		for range r.Intn(20) {
			spots = append(spots, impl.Spot{Path: paths[r.Intn(len(paths))], Key: strconv.Itoa(len(spots))})
		}
		for _, path := range paths {
			for _, name := range names("a b c d") {
				want := wantLookup(spots, path, name)
				checkLookup(t, spots, path, name, want)
				if want != "" {
					found++
				}
			}
		}
	}
	if found < 10000 {
		t.Errorf("only %d names were found", found)
	}
}

func equalSpots(a []impl.Spot, b []impl.Spot) bool {
	return slices.EqualFunc(a, b, func(x impl.Spot, y impl.Spot) bool { return x.Key == y.Key && slices.Equal(x.Path, y.Path) })
}

// sameNames reports whether two of the keys have the same name.
func sameNames(keys []string) bool {
	for i, a := range keys {
		for _, b := range keys[:i] {
			if a[:strings.LastIndexByte(a, '@')] == b[:strings.LastIndexByte(b, '@')] {
				return true
			}
		}
	}
	return false
}

// wantLayout follows the document step by step.
func wantLayout(g impl.Graph) ([]impl.Spot, bool) {
	if !impl.GraphOk(g) || sameNames(g.Top) {
		return nil, false
	}
	spots := []impl.Spot{}
	for _, key := range g.Top {
		spots = append(spots, impl.Spot{Path: []string{key[:strings.LastIndexByte(key, '@')]}, Key: key})
	}
	for next := 0; next < len(spots); next++ {
		s := spots[next]
		needs := g.Packs[slices.Index(keysOf(g), s.Key)].Needs
		if sameNames(needs) {
			return nil, false
		}
		for _, key := range needs {
			name := key[:strings.LastIndexByte(key, '@')]
			found := wantLookup(spots, s.Path, name)
			if found == key {
				continue
			}
			path := []string{name}
			if found != "" {
				path = append(slices.Clone(s.Path), name)
			}
			spots = append(spots, impl.Spot{Path: path, Key: key})
			if len(spots) > maxSpots || len(path) > maxPath {
				return nil, false
			}
		}
	}
	return spots, true
}

// checkLayout checks what Layout returns for g, and promise 9 for it: each need of the pack of every spot is found from there.
func checkLayout(t *testing.T, g impl.Graph) ([]impl.Spot, bool) {
	t.Helper()
	got, ok := impl.Layout(g)
	want, wantOk := wantLayout(g)
	if ok != wantOk || !equalSpots(got, want) {
		t.Errorf("Layout(%s) = %q, %v; want %q, %v", brief(g), got, ok, want, wantOk)
	}
	paths := []string{}
	for _, s := range got {
		p := g.Packs[slices.Index(keysOf(g), s.Key)]
		if len(s.Path) < 1 || len(s.Path) > maxPath || s.Path[len(s.Path)-1] != p.Name {
			t.Errorf("Layout(%s) has the spot %q", brief(g), s)
		}
		for _, key := range p.Needs {
			name, _ := impl.SplitKey(key)
			if found := impl.Lookup(got, s.Path, name); found != key {
				t.Errorf("%s needs %s in %q and finds %q", s.Key, key, s.Path, found)
			}
		}
		paths = append(paths, strings.Join(s.Path, " "))
	}
	slices.Sort(paths)
	if len(slices.Compact(paths)) != len(got) || len(got) > maxSpots {
		t.Errorf("Layout(%s) has %d spots with %d Paths", brief(g), len(got), len(slices.Compact(paths)))
	}
	return got, ok
}

// layoutCases are graphs, line by line, with the spots of their layouts.
func layoutCases() map[string][]string {
	return map[string][]string{
		"":                {},
		"*a":              {"a=a@1.0.0"},
		"*a, *b":          {"a=a@1.0.0", "b=b@1.0.0"},
		"*a b, b c, c":    {"a=a@1.0.0", "b=b@1.0.0", "c=c@1.0.0"},
		"*@o/u b, b":      {"@o/u=@o/u@1.0.0", "b=b@1.0.0"},
		"*@a a/b, *a/b":   {"@a=@a@1.0.0", "a/b=a/b@1.0.0"},
		"*a-b a, a.b, *a": {"a-b=a-b@1.0.0", "a=a@1.0.0"},
		// packs that are not reached get no spot, whatever they need
		"a":                           {},
		"*a, b a, c c":                {"a=a@1.0.0"},
		"*a, b, b@2.0.0, u b b@2.0.0": {"a=a@1.0.0"},
		// Top is placed first, so that it keeps its place however early the other version is needed
		"*a b@2.0.0, *b, b@2.0.0":                  {"a=a@1.0.0", "b=b@1.0.0", "a b=b@2.0.0"},
		"*a b, b, *b@2.0.0":                        {"a=a@1.0.0", "b=b@2.0.0", "a b=b@1.0.0"},
		"*a c, b, *b@2.0.0, c b":                   {"a=a@1.0.0", "b=b@2.0.0", "c=c@1.0.0", "c b=b@1.0.0"},
		"*a b, b c@2.0.0, *c, c@2.0.0":             {"a=a@1.0.0", "c=c@1.0.0", "b=b@1.0.0", "b c=c@2.0.0"},
		"*a b@2.0.0, *b, b@2.0.0 c, c b":           {"a=a@1.0.0", "b=b@1.0.0", "a b=b@2.0.0", "c=c@1.0.0"},
		"*a b@2.0.0, *b, b@2.0.0 b@2.0.0":          {"a=a@1.0.0", "b=b@1.0.0", "a b=b@2.0.0"},
		"*a b@2.0.0, *b a, b@2.0.0 a":              {"a=a@1.0.0", "b=b@1.0.0", "a b=b@2.0.0"},
		"*a c, *b c@2.0.0, c, c@2.0.0":             {"a=a@1.0.0", "b=b@1.0.0", "c=c@1.0.0", "b c=c@2.0.0"},
		"*a x, *b x@2.0.0, *c x@2.0.0, x, x@2.0.0": {"a=a@1.0.0", "b=b@1.0.0", "c=c@1.0.0", "x=x@1.0.0", "b x=x@2.0.0", "c x=x@2.0.0"},
		// three versions: the first that is needed gets the place without a folder
		"*a x, *b x@2.0.0, *c x@3.0.0, x, x@2.0.0, x@3.0.0":     {"a=a@1.0.0", "b=b@1.0.0", "c=c@1.0.0", "x=x@1.0.0", "b x=x@2.0.0", "c x=x@3.0.0"},
		"*a x@2.0.0, *b x, *c x@3.0.0, x, x@2.0.0, x@3.0.0":     {"a=a@1.0.0", "b=b@1.0.0", "c=c@1.0.0", "x=x@2.0.0", "b x=x@1.0.0", "c x=x@3.0.0"},
		"*a x@2.0.0, *b x@3.0.0, *x, x@2.0.0, x@3.0.0":          {"a=a@1.0.0", "b=b@1.0.0", "x=x@1.0.0", "a x=x@2.0.0", "b x=x@3.0.0"},
		"*a b x@2.0.0, b x@3.0.0, *x, x@2.0.0, x@3.0.0":         {"a=a@1.0.0", "x=x@1.0.0", "b=b@1.0.0", "a x=x@2.0.0", "b x=x@3.0.0"},
		"*a x@2.0.0, *x, x@2.0.0 x@3.0.0, x@3.0.0 x@2.0.0 z, z": nil, // x for ever
		// inside a folder: what is beside a pack is found, what is there in another version is not
		"*b, b@2.0.0 c@2.0.0, *c, c@2.0.0, *d b@2.0.0 c@2.0.0":          {"b=b@1.0.0", "c=c@1.0.0", "d=d@1.0.0", "d b=b@2.0.0", "d c=c@2.0.0"},
		"*b, b@2.0.0 c, *c, c@2.0.0, *d b@2.0.0 c@2.0.0":                {"b=b@1.0.0", "c=c@1.0.0", "d=d@1.0.0", "d b=b@2.0.0", "d c=c@2.0.0", "d b c=c@1.0.0"},
		"*b, b@2.0.0 c@3.0.0, *c, c@2.0.0, c@3.0.0, *d b@2.0.0 c@2.0.0": {"b=b@1.0.0", "c=c@1.0.0", "d=d@1.0.0", "d b=b@2.0.0", "d c=c@2.0.0", "d b c=c@3.0.0"},
		"*b, b@2.0.0 c@2.0.0, *c, c@2.0.0 b, *d b@2.0.0":                {"b=b@1.0.0", "c=c@1.0.0", "d=d@1.0.0", "d b=b@2.0.0", "d b c=c@2.0.0", "d b c b=b@1.0.0"},
		"*b, b@2.0.0 c@2.0.0, *c, c@2.0.0 b@2.0.0, *d b@2.0.0":          {"b=b@1.0.0", "c=c@1.0.0", "d=d@1.0.0", "d b=b@2.0.0", "d b c=c@2.0.0"},
		// cycles, and packs that need themselves or another version of themselves
		"*a a":                        {"a=a@1.0.0"},
		"*a b, b a":                   {"a=a@1.0.0", "b=b@1.0.0"},
		"*a b, b c, c a b":            {"a=a@1.0.0", "b=b@1.0.0", "c=c@1.0.0"},
		"*a a@2.0.0, a@2.0.0":         {"a=a@1.0.0", "a a=a@2.0.0"},
		"*a a@2.0.0, a@2.0.0 a@2.0.0": {"a=a@1.0.0", "a a=a@2.0.0"},
		"a, *a@2.0.0 a":               {"a=a@2.0.0", "a a=a@1.0.0"},
		"*a b, b b@2.0.0, b@2.0.0 a":  {"a=a@1.0.0", "b=b@1.0.0", "b b=b@2.0.0"},
		"*a a@2.0.0, a@2.0.0 a":       nil, // each needs the other one for ever
		"*a b@2.0.0, a@2.0.0 b, *b a@2.0.0, b@2.0.0 a": {"a=a@1.0.0", "b=b@1.0.0", "a b=b@2.0.0", "b a=a@2.0.0"},
		"*a b@2.0.0, a@2.0.0 b, *b a, b@2.0.0 a@2.0.0": nil, // every version is needed where the other one is nearer
		// names that are the same: of Top, and of the Needs of a pack that gets a spot, in whatever folder
		"*a, *a@2.0.0":                                  nil,
		"*a, *b, *b@2.0.0":                              nil,
		"*@o/a, *@o/a@1.0.0-rc.1":                       nil,
		"*a b b@2.0.0, b, b@2.0.0":                      nil,
		"*a c, b, b@2.0.0, c b b@2.0.0":                 nil,
		"*a b@2.0.0, *b, b@2.0.0 c c@2.0.0, c, c@2.0.0": nil,
		"*a a a@2.0.0, a@2.0.0":                         nil,
		"*a, a@2.0.0, *b a a@2.0.0":                     nil,
		"*@a b, *a b, b":                                {"@a=@a@1.0.0", "a=a@1.0.0", "b=b@1.0.0"},
		"*@a/b, *a/b, *b":                               {"@a/b=@a/b@1.0.0", "a/b=a/b@1.0.0", "b=b@1.0.0"},
	}
}

// graphIn returns the graph of a text with its lines between commas.
func graphIn(text string) impl.Graph {
	if text == "" {
		return impl.Graph{}
	}
	return graphOf(strings.Split(text, ", ")...)
}

func TestLayout(t *testing.T) {
	for text, want := range layoutCases() {
		got, ok := checkLayout(t, graphIn(text))
		if ok != (want != nil) || !equalSpots(got, spotsOf(want...)) {
			t.Errorf("Layout(%s) = %q, %v; want %q", text, got, ok, want)
		}
	}
	if got, ok := impl.Layout(impl.Graph{Top: []string{}, Packs: []impl.Pack{}}); len(got) != 0 || !ok {
		t.Errorf("Layout of an empty graph = %q, %v", got, ok)
	}
	for _, g := range badGraphs() {
		if got, ok := impl.Layout(g); len(got) != 0 || ok {
			t.Errorf("Layout of the invalid graph %s = %q, %v", brief(g), got, ok)
		}
	}
	// the other parts of a pack do not matter
	rich := richGraph()
	if got, ok := checkLayout(t, rich); !ok || !equalSpots(got, spotsOf("@org/ui=@org/ui@1.0.0-rc.1", "a=a@1.0.0", "c=c@1.0.0", "b=b@1.0.0")) {
		t.Errorf("Layout(%s) = %q, %v", brief(rich), got, ok)
	}
}

// spreadGraph returns a graph whose layout has 2*size+1 spots: that many packs need the version of x that Top does not have.
func spreadGraph(size int) impl.Graph {
	lines := []string{}
	for i := range size {
		lines = append(lines, "*p"+strconv.Itoa(100+i)+" x@2.0.0")
	}
	return graphOf(append(lines, "*x", "x@2.0.0")...)
}

// addPack adds the pack of the line behind the other ones, and to Top if it has a star.
func addPack(g impl.Graph, line string) impl.Graph {
	more := graphOf(line)
	return impl.Graph{Top: slices.Concat(g.Top, more.Top), Packs: slices.Concat(g.Packs, more.Packs)}
}

func TestLayoutSpots(t *testing.T) {
	cases := []struct {
		g     impl.Graph
		spots int
	}{
		{spreadGraph(0), 1}, {spreadGraph(1), 3}, {spreadGraph(28), 57}, {spreadGraph(29), 59}, {spreadGraph(30), 61}, {spreadGraph(38), 77},
		{addPack(spreadGraph(29), "*y"), 60}, {addPack(spreadGraph(29), "y"), 59}, {addPack(spreadGraph(29), "*y x@2.0.0"), 61},
		// the last spot is one of Top, one in a folder, or one that has the name alone
		{addPack(addPack(spreadGraph(29), "*y z"), "*z"), 61}, {addPack(addPack(spreadGraph(29), "*y z"), "z"), 61}, {addPack(addPack(spreadGraph(28), "*y z"), "z"), 59}, {addPack(addPack(addPack(spreadGraph(28), "*y z"), "z zz"), "zz"), 60}, {addPack(addPack(addPack(spreadGraph(28), "*y z x@2.0.0"), "z zz"), "zz"), 61},
		{numberedGraph(40), 40}, {numberedGraph(1), 1},
	}
	for _, c := range cases {
		// needs stand in the order of their keys
		for i := range c.g.Packs {
			slices.Sort(c.g.Packs[i].Needs)
		}
		if !impl.GraphOk(c.g) {
			t.Fatalf("the graph %s is invalid", brief(c.g))
		}
		spots, ok := checkLayout(t, c.g)
		if ok != (c.spots <= maxSpots) || ok && len(spots) != c.spots {
			t.Errorf("Layout(%s) = %d spots, %v; want %d", brief(c.g), len(spots), ok, c.spots)
		}
	}
}

// deepGraphs returns graphs whose layouts have Paths of up to that many names: versions of one pack that need each other, and packs that need what Top has in another version.
func deepGraphs(size int) []impl.Graph {
	same, other := []string{}, []string{}
	for i := 1; i <= size; i++ {
		line := "x@" + strconv.Itoa(i) + ".0.0"
		if i < size {
			line += " x@" + strconv.Itoa(i+1) + ".0.0"
		}
		same = append(same, line)
		name, next := "p"+strconv.Itoa(i), "p"+strconv.Itoa(i+1)
		first, second := "*"+name, name+"@2.0.0"
		if i == 1 {
			first += " " + next + "@2.0.0"
		}
		if i < size {
			second += " " + next + "@2.0.0"
		}
		other = append(other, first, second)
	}
	same[0] = "*" + same[0]
	return []impl.Graph{graphOf(same...), graphOf(other...)}
}

func TestLayoutPaths(t *testing.T) {
	for size := 2; size <= 9; size++ {
		for _, g := range deepGraphs(size) {
			spots, ok := checkLayout(t, g)
			if ok != (size <= maxPath) || !impl.GraphOk(g) {
				t.Errorf("Layout(%s) for Paths of %d names: %v", brief(g), size, ok)
			}
			longest := 0
			for _, s := range spots {
				longest = max(longest, len(s.Path))
			}
			if ok && longest != size {
				t.Errorf("Layout(%s) has Paths of %d names, want %d", brief(g), longest, size)
			}
		}
	}
}

// randomNodeGraph returns a valid graph of few names with several versions, mostly without two needs of one name, and mostly without packs that are not reached.
func randomNodeGraph(r *rand.Rand) impl.Graph {
	groups := [][]string{} // the keys of each name
	keys := []string{}
	for _, name := range []string{"aa", "aa-b", "aa.b/c", "@aa", "@aa/b", "bb", "@node_modules", "c0", "dd", "ee"}[r.Intn(8):] {
		group := []string{}
		for _, version := range []string{"1.0.0", "1.10.0", "1.9.0", "2.0.0-rc.1", "2.0.0-rc.2"} {
			if r.Intn(2) == 0 {
				group = append(group, name+"@"+version)
			}
		}
		if len(group) > 0 {
			groups = append(groups, group)
		}
		keys = append(keys, group...)
	}
	slices.Sort(keys)
	odds := 2 + r.Intn(8)
	choose := func() []string {
		list := []string{}
		for _, group := range groups {
			if r.Intn(odds) == 0 {
				list = append(list, group[r.Intn(len(group))])
			}
		}
		if r.Intn(30) == 0 && len(keys) > 0 {
			list = append(list, keys[r.Intn(len(keys))])
		}
		slices.Sort(list)
		return slices.Compact(list)
	}
	g := impl.Graph{Top: choose()}
	for _, key := range keys {
		p := packOf(key)
		p.Needs = choose()
		p.Dev = r.Intn(2) == 0
		p.Source = []string{"", "src", "https://x.example/a?b#c"}[r.Intn(3)]
		p.Sums = slices.Concat(allSums()[1:1+r.Intn(3)], allSums()[3:3+r.Intn(2)])
		if r.Intn(100) == 0 {
			p.Sums = allSums()[:1+r.Intn(4)]
		}
		g.Packs = append(g.Packs, p)
	}
	if r.Intn(10) > 0 {
		g = impl.Prune(g)
	}
	return g
}

// nodeGraphs returns graphs of all kinds that are valid.
func nodeGraphs() []impl.Graph {
	list := slices.Concat(smallGraphs(), largeGraphs())
	for text := range layoutCases() {
		list = append(list, graphIn(text))
	}
	for size := 2; size <= 7; size++ {
		list = append(list, deepGraphs(size)...)
	}
	for size := range 35 {
		list = append(list, spreadGraph(size))
	}
	r := rand.New(rand.NewSource(99))
	for range 10000 {
		list = append(list, randomNodeGraph(r))
	}
	return list
}

// From every spot of a layout each need of its pack is found exactly, and every pack that is reached has a spot.
func TestPromise9Layout(t *testing.T) {
	depths := [maxPath + 1]int{}
	failed := 0
	for _, g := range nodeGraphs() {
		spots, ok := checkLayout(t, g)
		if !ok {
			failed++
			continue
		}
		placed := []string{}
		for _, s := range spots {
			depths[len(s.Path)]++
			placed = append(placed, s.Key)
		}
		slices.Sort(placed)
		if reached := impl.Reach(g, g.Top); !slices.Equal(slices.Compact(placed), reached) {
			t.Errorf("Layout(%s) has spots for %q, not for %q", brief(g), placed, reached)
		}
	}
	if failed < 1000 || slices.Min(depths[1:]) < 10 {
		t.Errorf("%d layouts failed, and the numbers of spots by the length of their Paths are %d", failed, depths)
	}
}

// nodeLines returns the lines of a map from names to versions, indented as far as its other elements are.
func nodeLines(keys []string) string {
	lines := []string{}
	for _, key := range keys {
		at := strings.LastIndexByte(key, '@')
		lines = append(lines, "\n        \""+key[:at]+"\": \""+key[at+1:]+"\"")
	}
	if len(lines) == 0 {
		return "      \"dependencies\": {}"
	}
	return "      \"dependencies\": {" + strings.Join(lines, ",") + "\n      }"
}

// wantPack returns the lines of a pack in its file.
func wantPack(p impl.Pack) string {
	lines := []string{"      \"version\": \"" + p.Version + "\""}
	if p.Source != "" {
		lines = append(lines, "      \"resolved\": \""+p.Source+"\"")
	}
	if len(p.Sums) > 0 {
		lines = append(lines, "      \"integrity\": \""+wantPutIntegrity(p.Sums)+"\"")
	}
	if p.Dev {
		lines = append(lines, "      \"dev\": true")
	}
	if len(p.Needs) > 0 {
		lines = append(lines, nodeLines(p.Needs))
	}
	return strings.Join(lines, ",\n")
}

// nodeText writes the file of the graph with these spots, however large it is.
func nodeText(g impl.Graph, spots []impl.Spot) string {
	text := "{\n  \"lockfileVersion\": 3,\n  \"packages\": {\n    \"\": {\n" + nodeLines(g.Top) + "\n    }"
	for _, s := range spots {
		text += ",\n    \"node_modules/" + strings.Join(s.Path, "/node_modules/") + "\": {\n" + wantPack(g.Packs[slices.Index(keysOf(g), s.Key)]) + "\n    }"
	}
	return text + "\n  }\n}"
}

// nodesOf returns the number of nodes of a text of maps: every value stands behind a colon and a space, but for the outer map.
func nodesOf(text string) int { return 1 + strings.Count(text, "\": ") }

// wantPutNode tells by the document's text what PutNode returns.
func wantPutNode(g impl.Graph) (string, bool) {
	spots, ok := wantLayout(g)
	if !ok {
		return "", false
	}
	for _, p := range g.Packs {
		key := p.Name + "@" + p.Version
		placed := slices.ContainsFunc(spots, func(s impl.Spot) bool { return s.Key == key })
		if !placed || slices.ContainsFunc(p.Sums, func(s impl.Sum) bool { return s.Alg == "h1" }) {
			return "", false
		}
	}
	text := nodeText(g, spots)
	if len(text) > maxFile || nodesOf(text) > maxNodes {
		return "", false
	}
	return text, true
}

// checkPutNode checks what PutNode returns for g, and promise 9 for it: if there is a text, g is recovered from it.
func checkPutNode(t *testing.T, g impl.Graph) (string, bool) {
	t.Helper()
	got, ok := impl.PutNode(g)
	want, wantOk := wantPutNode(g)
	if ok != wantOk || got != want {
		t.Errorf("PutNode(%s) = %.500q, %v; want %.500q, %v", brief(g), got, ok, want, wantOk)
	}
	if ok {
		checkNode(t, got, g)
	}
	return got, ok
}

// checkNode checks that GetNode reads that graph.
func checkNode(t *testing.T, s string, want impl.Graph) {
	t.Helper()
	if got, code := impl.GetNode(s); code != impl.RdOk || !equalGraphs(got, want) {
		t.Errorf("GetNode(%.1000q) = %s, %d; want %s", s, brief(got), code, brief(want))
	}
}

func TestPutNode(t *testing.T) {
	start := "{\n  \"lockfileVersion\": 3,\n  \"packages\": {\n    \"\": {\n      \"dependencies\": "
	ab := start + "{\n        \"a\": \"1.0.0\"\n      }\n    },\n    \"node_modules/a\": {\n      \"version\": \"1.0.0\","
	if got, ok := checkPutNode(t, impl.Graph{}); !ok || got != start+"{}\n    }\n  }\n}" {
		t.Errorf("the empty graph is written as %q, %v", got, ok)
	}
	full := graphOf("*a b", "b", "b@2.0.0-rc.1 a b@2.0.0-rc.1", "*c b@2.0.0-rc.1")
	full.Packs[0].Source, full.Packs[0].Dev = "https://x.example/a", true
	full.Packs[2].Sums = []impl.Sum{{Alg: "sha1", Bytes: "12345678901234567890"}, {Alg: "sha256", Bytes: "12345678901234567890123456789012"}}
	full.Packs[3].Dev = true
	want := start + `{
        "a": "1.0.0",
        "c": "1.0.0"
      }
    },
    "node_modules/a": {
      "version": "1.0.0",
      "resolved": "https://x.example/a",
      "dev": true,
      "dependencies": {
        "b": "1.0.0"
      }
    },
    "node_modules/c": {
      "version": "1.0.0",
      "dev": true,
      "dependencies": {
        "b": "2.0.0-rc.1"
      }
    },
    "node_modules/b": {
      "version": "1.0.0"
    },
    "node_modules/c/node_modules/b": {
      "version": "2.0.0-rc.1",
      "integrity": "` + goodSum + " " + goodSum256 + `",
      "dependencies": {
        "a": "1.0.0",
        "b": "2.0.0-rc.1"
      }
    }
  }
}`
	if got, ok := checkPutNode(t, full); !ok || got != want {
		t.Errorf("PutNode = %s, %v", got, ok)
	}
	// each of the parts that a pack may lack, alone
	one := graphOf("*a")
	for _, c := range []struct {
		change func(*impl.Pack)
		rest   string
	}{
		{func(p *impl.Pack) { p.Source = "x" }, "\n      \"resolved\": \"x\""},
		{func(p *impl.Pack) { p.Sums = allSums()[3:] }, "\n      \"integrity\": \"" + wantPutIntegrity(allSums()[3:]) + "\""},
		{func(p *impl.Pack) { p.Dev = true }, "\n      \"dev\": true"},
		{func(p *impl.Pack) { p.Needs = keyList("a") }, "\n      \"dependencies\": {\n        \"a\": \"1.0.0\"\n      }"},
	} {
		g := cloneGraph(one)
		c.change(&g.Packs[0])
		if got, ok := checkPutNode(t, g); !ok || got != ab+c.rest+"\n    }\n  }\n}" {
			t.Errorf("PutNode(%v) = %s, %v", g, got, ok)
		}
	}
}

// noNodeGraphs returns graphs that PutNode does not write.
func noNodeGraphs() []impl.Graph {
	list := append(badGraphs(), graphOf("a"), graphOf("*a", "b"), graphOf("*a", "b a"), graphOf("*a b", "b", "b@2.0.0"), graphOf("b a", "b b"), richGraph(), spreadGraph(30), spreadGraph(31))
	for text, spots := range layoutCases() {
		if spots == nil {
			list = append(list, graphIn(text))
		}
	}
	for size := maxPath + 1; size < 10; size++ {
		list = append(list, deepGraphs(size)...)
	}
	for i := range 3 {
		g := graphOf("*a b", "b c", "c")
		g.Packs[i].Sums = allSums()[:1]
		list = append(list, g)
		g = graphOf("*a b", "b c", "c")
		g.Packs[i].Sums = allSums()
		list = append(list, g)
	}
	return list
}

func TestPutNodeInvalid(t *testing.T) {
	for _, g := range noNodeGraphs() {
		if got, ok := checkPutNode(t, g); got != "" || ok {
			t.Errorf("PutNode(%s) = %.300q, %v", brief(g), got, ok)
		}
	}
}

// crowdedGraph returns a graph whose tree has that many nodes, 126 or more.
func crowdedGraph(nodes int) impl.Graph {
	g := numberedGraph(40)
	keys := keysOf(g)
	left := nodes - 5 - 3*len(keys)
	for i := range g.Packs {
		size := max(0, min(left-1, len(keys)))
		g.Packs[i].Needs = keys[:size]
		if size > 0 {
			left -= size + 1
		}
	}
	if left == 1 {
		g.Packs[0].Dev = true
	}
	return g
}

func TestPutNodeNodes(t *testing.T) {
	for _, nodes := range []int{126, 127, 200, 598, 599, 600, 601, 602, 700, 1700} {
		g := crowdedGraph(nodes)
		spots, ok := wantLayout(g)
		if got := nodesOf(nodeText(g, spots)); !ok || got != nodes {
			t.Fatalf("the graph's tree has %d nodes, want %d", got, nodes)
		}
		if _, ok := checkPutNode(t, g); ok != (nodes <= maxNodes) {
			t.Errorf("PutNode of a graph with %d nodes: %v", nodes, ok)
		}
	}
}

// graphOfSize returns a graph whose text has that many bytes, from 11000 to 22000.
func graphOfSize(t *testing.T, size int) impl.Graph {
	t.Helper()
	g := crowdedGraph(300)
	for i := range g.Packs {
		g.Packs[i].Sums = allSums()[1:]
	}
	spots, _ := wantLayout(g)
	for i := range g.Packs {
		left := size - len(nodeText(g, spots)) - len("      \"resolved\": \"\",\n")
		if left > 100 && left < 130 { // leave enough for the next one
			left -= 50
		}
		g.Packs[i].Source = strings.Repeat("x", max(0, min(left, 100)))
	}
	if got := len(nodeText(g, spots)); got != size {
		t.Fatalf("the graph's text has %d bytes, want %d", got, size)
	}
	return g
}

func TestPutNodeFileLimit(t *testing.T) {
	for _, size := range []int{18000, maxFile - 2, maxFile - 1, maxFile, maxFile + 1, maxFile + 2, 20500} {
		g := graphOfSize(t, size)
		if text, ok := checkPutNode(t, g); ok != (size <= maxFile) || ok && len(text) != size {
			t.Errorf("PutNode of a graph with %d bytes: %d, %v", size, len(text), ok)
		}
		spots, _ := wantLayout(g)
		want := impl.RdOk
		if size > maxFile {
			want = impl.RdText
		}
		if _, code := impl.GetNode(nodeText(g, spots)); code != want {
			t.Errorf("GetNode of %d bytes: %d, want %d", size, code, want)
		}
	}
}

// A graph is recovered from its package-lock.json.
func TestPromise9Recovered(t *testing.T) {
	written, left := 0, 0
	for _, g := range nodeGraphs() {
		if _, ok := checkPutNode(t, g); ok {
			written++
		} else {
			left++
		}
	}
	if written < 3000 || left < 3000 {
		t.Errorf("%d graphs are written and %d are not", written, left)
	}
}

// kinds of values that each key of a pack's map may have
var nodeKinds = map[string]int{"version": impl.TText, "resolved": impl.TText, "integrity": impl.TText, "dev": impl.TTrue, "dependencies": impl.TMap}

// nodeParts returns the values of the map of a pack, or of the first map, by their keys, and whether it has the right form.
func nodeParts(x impl.Tree, first bool) (map[string]impl.Tree, bool) {
	parts := map[string]impl.Tree{}
	for i, key := range x.Keys {
		kind, known := nodeKinds[key]
		if !known || x.Kids[i].Kind != kind || first && key != "dependencies" {
			return nil, false
		}
		parts[key] = x.Kids[i]
	}
	for _, kid := range parts["dependencies"].Kids {
		if kid.Kind != impl.TText {
			return nil, false
		}
	}
	_, ok := impl.ReadVersion(parts["version"].S)
	return parts, x.Kind == impl.TMap && (first || ok)
}

// nodeMaps returns the keys of the packages with what nodeParts returns of their maps, and whether all have the right form.
func nodeMaps(x impl.Tree) ([]string, []map[string]impl.Tree, bool) {
	at := slices.Index(x.Keys, "packages")
	if x.Kind != impl.TMap || at < 0 || x.Kids[at].Kind != impl.TMap || len(x.Kids[at].Keys) == 0 || x.Kids[at].Keys[0] != "" {
		return nil, nil, false
	}
	keys, maps := x.Kids[at].Keys, []map[string]impl.Tree{}
	for i, key := range keys {
		parts, ok := nodeParts(x.Kids[at].Kids[i], i == 0)
		if !ok || i > 0 && len(wantReadPath(key)) == 0 {
			return nil, nil, false
		}
		maps = append(maps, parts)
	}
	return keys, maps, true
}

// nodeNeeds returns the keys that are found for the needs, in ascending order, and whether all are found in their ranges.
func nodeNeeds(spots []impl.Spot, path []string, needs impl.Tree) ([]string, bool) {
	keys := []string{}
	for i, name := range needs.Keys {
		key := wantLookup(spots, path, name)
		bounds, ok := wantRange(needs.Kids[i].S)
		if key == "" || !ok || !impl.In(key[len(name)+1:], bounds) {
			return nil, false
		}
		keys = append(keys, key)
	}
	slices.Sort(keys)
	return keys, true
}

// wantNode tells by the document's text what GetNode returns.
func wantNode(s string) (impl.Graph, int) {
	x, bad := impl.GetTree(s)
	if bad >= 0 {
		return impl.Graph{}, impl.RdText
	}
	keys, maps, ok := nodeMaps(x)
	if !ok {
		return impl.Graph{}, impl.RdForm
	}
	spots := []impl.Spot{}
	for i, parts := range maps[1:] {
		path := wantReadPath(keys[i+1])
		spots = append(spots, impl.Spot{Path: path, Key: path[len(path)-1] + "@" + parts["version"].S})
	}
	needs := [][]string{}
	for i, parts := range maps {
		list, ok := nodeNeeds(spots, wantReadPath(keys[i]), parts["dependencies"])
		if !ok {
			return impl.Graph{}, impl.RdNeed
		}
		needs = append(needs, list)
	}
	g := impl.Graph{Top: needs[0]}
	for i, s := range spots {
		parts := maps[i+1]
		_, dev := parts["dev"]
		p := impl.Pack{Name: s.Path[len(s.Path)-1], Version: parts["version"].S, Source: parts["resolved"].S, Dev: dev, Needs: needs[i+1]}
		p.Sums, ok = wantSums(parts["integrity"].S)
		at := impl.Find(g, s.Key)
		if !ok || at >= 0 && !equalGraphs(impl.Graph{Packs: []impl.Pack{p}}, impl.Graph{Packs: g.Packs[at : at+1]}) {
			return impl.Graph{}, impl.RdGraph
		}
		if at < 0 {
			g.Packs = append(g.Packs, p)
		}
	}
	slices.SortFunc(g.Packs, func(p impl.Pack, q impl.Pack) int {
		return strings.Compare(p.Name+"@"+p.Version, q.Name+"@"+q.Version)
	})
	if !impl.GraphOk(g) {
		return impl.Graph{}, impl.RdGraph
	}
	return g, impl.RdOk
}

// checkGetNode checks what GetNode returns for s, and returns the code.
func checkGetNode(t *testing.T, s string) int {
	t.Helper()
	want, wantCode := wantNode(s)
	got, code := impl.GetNode(s)
	if code != wantCode || !equalGraphs(got, want) {
		t.Errorf("GetNode(%.2000q) = %s, %d; want %s, %d", s, brief(got), code, brief(want), wantCode)
	}
	return wantCode
}

func checkCode(t *testing.T, s string, want int) {
	t.Helper()
	if got, code := impl.GetNode(s); code != want || code != impl.RdOk && !equalGraphs(got, impl.Graph{}) {
		t.Errorf("GetNode(%.2000q) = %s, %d; want %d", s, brief(got), code, want)
	}
	if got := checkGetNode(t, s); got != want {
		t.Errorf("%.2000q: the test's own reading returns %d, want %d", s, got, want)
	}
}

// nodeFile returns a file with these maps; each text is the names of a path, separated by spaces, an equals sign, and what stands in the map.
func nodeFile(maps ...string) string {
	list := []string{}
	for _, s := range maps {
		path, parts, _ := strings.Cut(s, "=")
		key := ""
		if path != "" {
			key = "node_modules/" + strings.Join(names(path), "/node_modules/")
		}
		list = append(list, "\""+key+"\": {"+parts+"}")
	}
	return "{\"packages\": {" + strings.Join(list, ", ") + "}}"
}

const (
	v1 = `"version": "1.0.0"`
	v2 = `"version": "2.0.0"`
)

// deps returns the dependencies of a text, in which names and ranges stand in turn, separated by commas.
func deps(text string) string {
	parts := strings.Split(text, ",")
	list := []string{}
	for i := 0; i+1 < len(parts); i += 2 {
		list = append(list, "\""+parts[i]+"\": \""+parts[i+1]+"\"")
	}
	return "\"dependencies\": {" + strings.Join(list, ", ") + "}"
}

func TestGetNodeGraphs(t *testing.T) {
	rich := graphOf("*a")
	rich.Packs[0].Source, rich.Packs[0].Dev = "src", true
	rich.Packs[0].Sums = []impl.Sum{{Alg: "sha1", Bytes: "12345678901234567890"}}
	all := v1 + `, "resolved": "src", "integrity": "` + goodSum + `", "dev": true`
	cases := map[string]impl.Graph{
		nodeFile("="):                                     {},
		nodeFile("=" + deps("")):                          {},
		nodeFile("=", "a="+v1):                            graphOf("a"),
		nodeFile("="+deps("a,1.0.0"), "a="+v1):            graphOf("*a"),
		nodeFile("="+deps("a,*"), "a="+all):               rich,
		nodeFile("="+deps("a,*"), "a="+all+", "+deps("")): rich,
		nodeFile("=", "a="+v1+`, "resolved": "", "integrity": "", `+deps("")): graphOf("a"),
		// every form of a range, in the first map and in others
		nodeFile("="+deps("a,^1.0.0,b,1 || 2"), "a="+v1+", "+deps("b,>=1.0.0 <3.0.0"), "b="+v2): graphOf("*a b@2.0.0", "*b@2.0.0"),
		nodeFile("="+deps("a,^2.0.0-a"), `a="version": "2.0.0-rc.1"`):                           graphOf("*a@2.0.0-rc.1"),
		// the nearest folder counts, and the order of the maps does not
		nodeFile("="+deps("a,*,b,*"), "a="+v1+", "+deps("b,*"), "a b="+v2, "b="+v1):                         graphOf("*a b@2.0.0", "*b", "b@2.0.0"),
		nodeFile("="+deps("a,*,b,*"), "a b="+v2, "b="+v1, "a="+v1+", "+deps("b,*")):                         graphOf("*a b@2.0.0", "*b", "b@2.0.0"),
		nodeFile("="+deps("a,*"), "a="+v1+", "+deps("c,*"), "a c="+v1+", "+deps("b,*"), "a b="+v2, "b="+v1): graphOf("*a c", "b", "b@2.0.0", "c b@2.0.0"),
		nodeFile("=", "a="+v1+", "+deps("a,*"), "a a="+v2+", "+deps("a,2.0.0")):                             graphOf("a a@2.0.0", "a@2.0.0 a@2.0.0"),
		nodeFile("=", "a="+v1+", "+deps("a,*")):                                                             graphOf("a a"),
		// folders of packs that do not exist, and more names than a Path has
		nodeFile("=", "x y a="+v1):           graphOf("a"),
		nodeFile("=", "a b c d e f g h="+v1): graphOf("h"),
		nodeFile("=", "a b c d e f g h="+v1+", "+deps("i,*"), "a b c d e f g i="+v2): graphOf("h i@2.0.0", "i@2.0.0"),
		// keys ascend in the graph, whatever their order in the file: names in the order of npm, and in the other one
		nodeFile("="+deps("a,*,a-b,*"), "a="+v1+", "+deps("a,*,a-b,*"), "a-b="+v1):        graphOf("*a-b", "*a a-b a"),
		nodeFile("="+deps("a-b,*,a,*"), "a-b="+v1, "a="+v1+", "+deps("a-b,*,a,*")):        graphOf("*a-b", "*a a-b a"),
		nodeFile("="+deps("c,*,b,*,a,*"), "c="+v1, "b="+v1, "a="+v1+", "+deps("c,*,b,*")): graphOf("*a b c", "*b", "*c"),
		nodeFile("=", "@a/b="+v1, "a/b="+v1+", "+deps("@a/b,*")):                          graphOf("@a/b", "a/b @a/b"),
		// two spots of one key that describe the same pack, in other words
		nodeFile("=", "a="+v1, "b a="+v1, "b="+v1):                                                                   graphOf("a", "b"),
		nodeFile("=", "a="+v1+`, "resolved": "", `+deps(""), "b a="+v1+`, "integrity": ""`):                          graphOf("a"),
		nodeFile("=", "b a="+v1+", "+deps("c,*"), "a="+v1+", "+deps("c,^2.0.0"), "c="+v2):                            graphOf("a c@2.0.0", "c@2.0.0"),
		nodeFile("=", "b a="+v1+", "+deps("c,*,d,*"), "a="+v1+", "+deps("d,1.0.0,c,*"), "c="+v2, "b c="+v2, "d="+v1): graphOf("a c@2.0.0 d", "c@2.0.0", "d"),
	}
	for i := range cases {
		checkCode(t, i, impl.RdOk)
	}
	for s, want := range cases {
		for i := range want.Packs {
			slices.Sort(want.Packs[i].Needs)
		}
		checkNode(t, s, want)
	}
	// the outer map may have other keys, before packages and behind it, with whatever values
	file := `"packages": {"": {` + deps("a,1") + `}, "node_modules/a": {` + v1 + `}}`
	for _, s := range []string{file, `"lockfileVersion": 3, ` + file, file + `, "lockfileVersion": 3`, `"lockfileVersion": 2, ` + file, `"lockfileVersion": "x", ` + file, `"name": "x", "": null, "version": [{}, false], ` + file + `, "node_modules/b": {"packages": 1}`} {
		checkCode(t, "{"+s+"}", impl.RdOk)
		checkNode(t, "{"+s+"}", graphOf("*a"))
		checkNode(t, " \n{\n"+strings.ReplaceAll(s, ":", "\n : ")+" }\n\n", graphOf("*a"))
	}
}

// permutations returns the list in every order.
func permutations(list []string) [][]string {
	if len(list) == 0 {
		return [][]string{{}}
	}
	all := [][]string{}
	for i, s := range list {
		for _, rest := range permutations(slices.Concat(list[:i], list[i+1:])) {
			all = append(all, append([]string{s}, rest...))
		}
	}
	return all
}

func TestGetNodeKeyOrder(t *testing.T) {
	want := graphOf("*a b c", "b", "c")
	want.Packs[0].Source, want.Packs[0].Dev = "x", true
	want.Packs[0].Sums = []impl.Sum{{Alg: "sha1", Bytes: "12345678901234567890"}}
	for _, parts := range permutations([]string{v1, `"resolved": "x"`, `"integrity": "` + goodSum + `"`, `"dev": true`, deps("b,*,c,*")}) {
		checkNode(t, nodeFile("="+deps("a,*"), "a="+strings.Join(parts, ", "), "b="+v1, "c="+v1), want)
	}
	for _, maps := range permutations([]string{"a=" + v1 + ", " + deps("c,*,b,*"), "c=" + v1, "b=" + v1, "b c=" + v1}) {
		g := graphOf("*a b c", "b", "c")
		checkNode(t, nodeFile(append([]string{"=" + deps("a,*")}, maps...)...), g)
	}
}

func TestGetNodeText(t *testing.T) {
	good := nodeFile("="+deps("a,*"), "a="+v1)
	checkCode(t, good, impl.RdOk)
	for size := range len(good) {
		checkCode(t, good[:size], impl.RdText)
	}
	for _, s := range []string{
		" ", "x", good + "x", good + good, "{packages}", "{\"packages\": }", "{'packages': {}}", "{\"packages\": {\"\": {},}}", "\t" + good, "{\"packages\": {\"\": {\"dependencies\": {\"a\": -1}}}}", "{\"packages\": {\"\": tru}}",
		// keys that stand twice, too many levels, too many nodes, too many bytes
		nodeFile("=", "="), nodeFile("=", "a="+v1, "a="+v1), nodeFile("=", "a="+v1+", "+v1), nodeFile("="+deps("a,*,a,*"), "a="+v1), "{\"packages\": {\"\": {}}, \"packages\": {\"\": {}}}", "{\"packages\": {\"\": {}}, \"x\": " + strings.Repeat("[", 8) + strings.Repeat("]", 8) + ", \"y\": [[[[[[[[[]]]]]]]]]}",
		"{\"packages\": {\"\": {}}, \"x\": [" + strings.Repeat("1, ", 600) + "1]}", good + strings.Repeat(" ", maxFile), strings.Repeat("\n", maxFile+1-len(good)) + good,
	} {
		checkCode(t, s, impl.RdText)
	}
	checkCode(t, strings.Repeat("\n", maxFile-len(good))+good, impl.RdOk)
}

// badForms returns files that are RdForm for one reason each.
func badForms() []string {
	list := []string{
		"null", "true", "3", "\"packages\"", "[]", "[{\"packages\": {\"\": {}}}]", "{}", "{\"lockfileVersion\": 3}", "{\"Packages\": {\"\": {}}}", "{\"\": {\"packages\": {\"\": {}}}}", "{\"x\": {}, \"node_modules/a\": {}}",
		"{\"packages\": null}", "{\"packages\": \"\"}", "{\"packages\": []}", "{\"packages\": [{}]}", "{\"packages\": [\"\"]}", "{\"packages\": {}}",
		nodeFile("a="), nodeFile("a=" + v1), nodeFile("a="+v1, "="), nodeFile("a="+v1, "=", "b="+v1), "{\"packages\": {\" \": {}}}", "{\"packages\": {\"node_modules/\": {}}}",
	}
	other := func(key string) string { return "{\"packages\": {\"\": {}, \"" + key + "\": {" + v1 + "}}}" }
	for _, key := range []string{"a", " ", "node_modules", "node_modules/", "node_modules/a/", "node_modules/A", "node_modules/a b", "node_modules/a/node_modules", "/node_modules/a", "node_modules/node_modules/a", "a/node_modules/a", "packages/a"} {
		list = append(list, other(key))
	}
	for _, name := range badNames() {
		if !strings.ContainsAny(name, "\x00\n\\\xff\u00e9") { // a text quotes these bytes
			list = append(list, other("node_modules/"+name))
		}
	}
	// values that are no maps
	for _, x := range []string{"null", "true", "1", "\"1.0.0\"", "[]", "[" + "\"version\", \"1.0.0\"" + "]"} {
		list = append(list, "{\"packages\": {\"\": "+x+"}}", "{\"packages\": {\"\": {}, \"node_modules/a\": "+x+"}}", "{\"packages\": {\"\": {}, \"node_modules/b\": {"+v1+"}, \"node_modules/a\": "+x+"}}")
	}
	// versions: missing, or none
	list = append(list, nodeFile("=", "a="), nodeFile("=", "a="+deps("")), nodeFile("=", `a="resolved": "x", "integrity": "", "dev": true`), nodeFile("=", "a="+v1, "a b="), nodeFile("=", "a=", "b="+v1))
	for _, s := range noVersions() {
		if !strings.ContainsAny(s, "\n\xff") {
			list = append(list, nodeFile("=", `a="version": "`+s+`"`), nodeFile("=", "b="+v1, `a="version": "`+s+`"`, "c="+v1))
		}
	}
	// keys of another kind than stated
	for _, x := range []string{"null", "false", "true", "0", "1", "\"\"", "\"1.0.0\"", "\"true\"", "[]", "[\"1.0.0\"]", "{}", "{\"a\": \"*\"}"} {
		if !strings.HasPrefix(x, "\"") {
			list = append(list, nodeFile("=", `a="version": `+x), nodeFile("=", "a="+v1+`, "resolved": `+x), nodeFile("=", "a="+v1+`, "integrity": `+x))
		}
		if x != "true" {
			list = append(list, nodeFile("=", "a="+v1+`, "dev": `+x), nodeFile("=", `a="dev": `+x+", "+v1))
		}
		if !strings.HasPrefix(x, "{") {
			list = append(list, nodeFile(`="dependencies": `+x), nodeFile(`="dependencies": `+x, "a="+v1), nodeFile("=", "a="+v1+`, "dependencies": `+x))
		}
		if !strings.HasPrefix(x, "\"") {
			for _, needs := range []string{`{"a": ` + x + `}`, `{"a": "*", "b": ` + x + `}`, `{"b": ` + x + `, "a": "*"}`} {
				list = append(list, nodeFile(`="dependencies": `+needs, "a="+v1, "b="+v1), nodeFile("=", "a="+v1+`, "dependencies": `+needs, "b="+v1))
			}
		}
	}
	// unknown keys, also such as only the other maps have
	for _, key := range []string{"", " ", "x", "name", "Version", "version ", "dev ", "devDependencies", "Dependencies", "requires", "optional", "packages", "lockfileVersion", "node_modules/a", "a"} {
		for _, x := range []string{"null", "true", "3", "\"1.0.0\"", "{}"} {
			part := "\"" + key + "\": " + x
			list = append(list, nodeFile("="+part), nodeFile("="+deps("")+", "+part), nodeFile("="+part+", "+deps("a,*"), "a="+v1), nodeFile("=", "a="+v1+", "+part), nodeFile("=", "a="+part+", "+v1), nodeFile("="+deps("a,*"), "a="+v1, "b="+v1+", "+part))
		}
	}
	for _, part := range []string{v1, `"resolved": "x"`, `"integrity": ""`, `"dev": true`} {
		list = append(list, nodeFile("="+part), nodeFile("="+deps("")+", "+part), nodeFile("="+part+", "+deps("a,*"), "a="+v1))
	}
	return list
}

// badNeedFiles returns files that are RdNeed for one reason each.
func badNeedFiles() []string {
	list := []string{
		// nowhere
		nodeFile("=" + deps("a,*")), nodeFile("="+deps("b,*"), "a="+v1), nodeFile("="+deps("a,*,b,*"), "a="+v1), nodeFile("="+deps("b,*,a,*"), "a="+v1), nodeFile("=", "a="+v1+", "+deps("b,*")), nodeFile("=", "a="+v1+", "+deps("b,*,c,*"), "b="+v1), nodeFile("="+deps(",*"), "a="+v1), nodeFile("="+deps("A,*"), "a="+v1), nodeFile("="+deps("a@1.0.0,*"), "a="+v1), nodeFile("="+deps("@a,*"), "a="+v1), nodeFile("="+deps("node_modules/a,*"), "a="+v1), nodeFile("="+deps("a/b,*"), "a="+v1, "a b="+v1),
		// only in folders that are not above: of the first map, which is in none, and of packs
		nodeFile("="+deps("b,*"), "a="+v1, "a b="+v1), nodeFile("=", "a="+v1, "a b="+v1, "c="+v1+", "+deps("b,*")), nodeFile("=", "a b="+v1, "a c d="+v1+", "+deps("e,*"), "a b e="+v1, "a c f e="+v1),
		// in another version, also where a folder above has a right one
		nodeFile("="+deps("a,2.0.0"), "a="+v1), nodeFile("="+deps("a,^1.0.0"), "a="+v2), nodeFile("="+deps("a,*,b,1"), "a="+v1, "b="+v2), nodeFile("="+deps("a,1"), "b a="+v1, "a="+v2), nodeFile("=", "a="+v1+", "+deps("b,1.0.0"), "a b="+v2, "b="+v1), nodeFile("=", "a="+v1+", "+deps("b,2.0.0"), "b="+v1, "c b="+v2), nodeFile("=", "a="+v1+", "+deps("a,2.0.0")), nodeFile("=", "a="+v1+", "+deps("a,1.0.0"), "a a="+v2), nodeFile("="+deps("a,<1.0.0 || >=1.0.1"), "a="+v1), nodeFile("="+deps("a,*"), `a="version": "1.0.0-a"`), nodeFile("="+deps("a,^1.0.0-a"), `a="version": "1.0.1-b"`),
	}
	// ranges that are none
	for _, s := range noRanges() {
		if !strings.ContainsAny(s, "\n\xff\"") {
			list = append(list, nodeFile(`="dependencies": {"a": "`+s+`"}`, "a="+v1), nodeFile("=", "a="+v1, "b="+v1+`, "dependencies": {"a": "`+s+`"}`))
		}
	}
	return list
}

// differentPacks returns files with two spots of one key that describe packs which differ in one part.
func differentPacks() []string {
	list := []string{}
	parts := []string{`"resolved": "x"`, `"resolved": "y"`, `"resolved": ""`, `"integrity": "` + goodSum + `"`, `"integrity": "` + goodSum256 + `"`, `"integrity": "` + goodSum + " " + goodSum256 + `"`, `"dev": true`, deps("c,*"), deps("d,*"), deps("c,*,d,*")}
	for i, x := range parts {
		for k, y := range parts {
			if i != k {
				list = append(list, nodeFile("=", "a="+v1+", "+x, "c="+v1, "d="+v1, "b a="+v1+", "+y))
			}
		}
		if i != 2 {
			list = append(list, nodeFile("=", "a="+v1+", "+x, "c="+v1, "d="+v1, "b a="+v1), nodeFile("=", "b a="+v1, "a="+v1+", "+x, "c="+v1, "d="+v1, "b="+v1))
			list = append(list, nodeFile("=", "a="+v1, "b a="+v1+", "+x, "c a="+v1, "c="+v1, "d="+v1), nodeFile("=", "a="+v1, "b a="+v1, "c a="+v1+", "+x, "c="+v1, "d="+v1))
		}
	}
	// the same need, met by other packs
	return append(list, nodeFile("=", "a="+v1+", "+deps("c,*"), "c="+v1, "b a="+v1+", "+deps("c,*"), "b c="+v2), nodeFile("=", "a="+v1+", "+deps("c,*"), "c="+v1, "b a="+v1+", "+deps("c,*"), "b a c="+v2))
}

// manyMaps returns the first map and that many maps of different packs.
func manyMaps(size int) []string {
	maps := []string{"="}
	for i := range size {
		maps = append(maps, "p"+strconv.Itoa(100+i)+"="+v1)
	}
	return maps
}

// badGraphFiles returns files that are RdGraph for one reason each.
func badGraphFiles() []string {
	list := append(differentPacks(), nodeFile(manyMaps(maxPacks+1)...), nodeFile(append(manyMaps(maxPacks), "x y z="+v1)...))
	for _, s := range noIntegrities() {
		if !strings.ContainsAny(s, "\n\"") {
			list = append(list, nodeFile("=", "a="+v1+`, "integrity": "`+s+`"`), nodeFile("="+deps("a,*"), "b="+v1, "a="+v1+`, "integrity": "`+s+`"`), nodeFile("=", "a="+v1+`, "integrity": "`+s+`"`, "b a="+v1+`, "integrity": "`+s+`"`))
		}
	}
	for _, s := range []string{" ", "a b", "a,b", "a'", `\"`, `\\`, `\n`, `\x00`, `\xff`, strings.Repeat("x", 101)} {
		list = append(list, nodeFile("=", "a="+v1+`, "resolved": "`+s+`"`), nodeFile("="+deps("b,*"), "b="+v1, "a="+v1+`, "resolved": "`+s+`"`))
	}
	// versions that Exact does not accept
	for _, s := range []string{"1.0.999999999", "1.0.0-a.b.c.d.e", "0.0.999999999"} {
		list = append(list, nodeFile("=", `a="version": "`+s+`"`))
	}
	return append(list, nodeFile("="+deps("a,*"), `a="version": "1.0.999999999"`), nodeFile("="+deps("a,>=1.0.0-a"), `a="version": "1.0.0-a.b.c.d.e"`))
}

func TestGetNodeCodes(t *testing.T) {
	for _, s := range badForms() {
		checkCode(t, s, impl.RdForm)
	}
	for _, s := range badNeedFiles() {
		checkCode(t, s, impl.RdNeed)
	}
	for _, s := range badGraphFiles() {
		checkCode(t, s, impl.RdGraph)
	}
}

// The first code that applies decides, wherever in the file the reasons stand.
func TestGetNodeFirstCode(t *testing.T) {
	reasons := map[string]int{
		"x=" + v1 + `, "y": 1`:                      impl.RdForm,
		`x="version": "1"`:                          impl.RdForm,
		"x=" + v1 + ", " + deps("y,*"):              impl.RdNeed,
		"x=" + v1 + ", " + deps("x,2.0.0"):          impl.RdNeed,
		"x=" + v1 + `, "integrity": "x"`:            impl.RdGraph,
		"x=" + v1 + `, "resolved": "a b"`:           impl.RdGraph,
		`x="version": "1.0.999999999"`:              impl.RdGraph,
		"x=" + v1:                                   impl.RdOk,
		"x=" + v2 + `, "dev": true, ` + deps("x,2"): impl.RdOk,
	}
	rank := []int{impl.RdOk, impl.RdGraph, impl.RdNeed, impl.RdForm, impl.RdText}
	for a, codeA := range reasons {
		for b, codeB := range reasons {
			for c, codeC := range reasons {
				first := max(slices.Index(rank, codeA), slices.Index(rank, codeB), slices.Index(rank, codeC))
				maps := []string{"=" + deps("p,*"), "p " + a, "q " + b, "p=" + v1, "r " + c}
				file := nodeFile(maps...)
				// the x of one spot may describe another pack than that of another one
				if code, want := checkGetNode(t, file), rank[first]; code != want && !(want == impl.RdOk && code == impl.RdGraph && (a != b || b != c)) {
					t.Errorf("%s: %d, want %d", file, code, want)
				}
				checkCode(t, file+"}", impl.RdText)
				maps[0] = "=" + deps("z,*")
				checkCode(t, nodeFile(maps...), rank[max(first, slices.Index(rank, impl.RdNeed))])
				maps[0] = "=" + v1
				checkCode(t, nodeFile(maps...), impl.RdForm)
			}
		}
	}
}

func TestGetNodeLimits(t *testing.T) {
	checkCode(t, nodeFile(manyMaps(maxPacks-1)...), impl.RdOk)
	checkCode(t, nodeFile(manyMaps(maxPacks)...), impl.RdOk)
	// more spots than a layout has, of no more than MaxPacks packs
	for _, size := range []int{maxSpots - 1, maxSpots, maxSpots + 1, 200} {
		maps := []string{"=" + deps("a,*"), "a=" + v1}
		for i := range size - 1 {
			maps = append(maps, "p"+strconv.Itoa(100+i)+" a="+v1)
		}
		checkNode(t, nodeFile(maps...), graphOf("*a"))
	}
	// a text has MaxNodes nodes or more: the outer map, the packages, the first map and two for each other one
	for size, want := range map[int]int{297: impl.RdOk, 298: impl.RdOk, 299: impl.RdText} {
		maps := []string{"="}
		for i := range size {
			maps = append(maps, "p"+strconv.Itoa(100+i)+" a="+v1)
		}
		text := nodeFile(maps...)
		checkCode(t, text, want)
		checkCode(t, "{\"x\": 1, "+text[1:], want)
		if size == 298 {
			checkCode(t, "{\"x\": [1], "+text[1:], impl.RdText)
		}
	}
}

// someTexts are versions, ranges and other texts that the values of a file may become.
var someTexts = []string{"*", "^1.0.0", "1.0.0", "1", "2.0.0-rc.1", ">=1.0.0 <2.0.0", "^2.0.0-rc.1", "1.9.0", "~1.9.0 || 1.10.0", "x", "src", "a b", "", goodSum}

// changedTree returns the map x with a change in one of its maps: a pair is left out, added, moved or replaced.
func changedTree(r *rand.Rand, x impl.Tree, parts []impl.Tree, keys []string) impl.Tree {
	key, part := keys[r.Intn(len(keys))], parts[r.Intn(len(parts))]
	size := len(x.Kids)
	if size == 0 {
		return impl.With(x, key, part)
	}
	x.Keys, x.Kids = slices.Clone(x.Keys), slices.Clone(x.Kids)
	at, other := r.Intn(size), r.Intn(size)
	kid := x.Kids[at]
	switch n := r.Intn(40); {
	case kid.Kind == impl.TMap && n > 1:
		x.Kids[at] = changedTree(r, kid, parts, keys)
	case kid.Kind == impl.TText && n > 5:
		x.Kids[at].S = someTexts[r.Intn(len(someTexts))]
	case n%5 == 0:
		x.Keys, x.Kids = append(x.Keys, key), append(x.Kids, part)
	case n%5 == 1:
		x.Keys, x.Kids = slices.Delete(x.Keys, at, at+1), slices.Delete(x.Kids, at, at+1)
	case n%5 == 2:
		x.Keys[at], x.Keys[other] = x.Keys[other], x.Keys[at]
		x.Kids[at], x.Kids[other] = x.Kids[other], x.Kids[at]
	case n%5 == 3:
		x.Keys[at] = key
	default:
		x.Kids[at] = part
	}
	return x
}

// partsOfTree returns all nodes of a tree and all its keys.
func partsOfTree(x impl.Tree) ([]impl.Tree, []string) {
	parts, keys := []impl.Tree{x}, slices.Clone(x.Keys)
	for _, kid := range x.Kids {
		more, names := partsOfTree(kid)
		parts, keys = append(parts, more...), append(keys, names...)
	}
	return parts, keys
}

// Files of graphs with a few changes are read as the document says.
func TestPromise9ChangedFiles(t *testing.T) {
	r := rand.New(rand.NewSource(909))
	codes := [5]int{}
	for range 12000 {
		text, ok := impl.PutNode(randomNodeGraph(r))
		x, _ := impl.GetTree(text)
		if !ok || nodesOf(text) < 15 {
			continue
		}
		parts, keys := partsOfTree(x)
		parts = append(parts, impl.Tree{}, impl.Tree{Kind: impl.TTrue}, impl.Tree{Kind: impl.TFalse}, intTree(1))
		keys = append(keys, "", "dev", "resolved", "integrity", "node_modules/aa", "node_modules/aa/node_modules/bb", "x")
		for range 3 {
			x = changedTree(r, x, parts, keys)
			if text := impl.PutTree(x); text != "" {
				codes[checkGetNode(t, text)]++
			}
		}
	}
	if min(codes[impl.RdOk], codes[impl.RdForm], codes[impl.RdNeed], codes[impl.RdGraph]) < 500 {
		t.Errorf("the numbers of texts by their codes are %d", codes)
	}
}

func TestPromise9NearTexts(t *testing.T) {
	codes := [5]int{}
	for _, s := range []string{nodeFile("="+deps("a,1"), "a="+v1+`, "dev": true, `+deps("@b,*"), "@b="+v1), nodeFile("=", "a="+v1, "b a="+v1+`, "resolved": "x"`), nodeFile("="+deps("a,*"), "a="+v1+`, "integrity": "`+goodSum+`"`)} {
		for _, near := range nearTexts(s) {
			codes[checkGetNode(t, near)]++
		}
	}
	if slices.Min(codes[:]) < 100 {
		t.Errorf("the numbers of texts by their codes are %d", codes)
	}
}

// callNode calls every function of the chapter.
func callNode(g impl.Graph, spots []impl.Spot, path []string, text string) {
	impl.PathText(path)
	impl.ReadPath(text)
	impl.Lookup(spots, path, text)
	impl.Layout(g)
	impl.PutNode(g)
	impl.GetNode(text)
}

func TestPromise16NodeReturns(t *testing.T) {
	good := graphOf("*a b", "b")
	for _, s := range append(byteTexts(), allTexts("{}\":a/@", 3)...) {
		p := impl.Pack{Name: s, Version: s, Source: s, Sums: []impl.Sum{{Alg: s, Bytes: s}}, Needs: []string{s}}
		spot := impl.Spot{Path: []string{s, s}, Key: s}
		callNode(impl.Graph{Top: []string{s}, Packs: []impl.Pack{p, p}}, []impl.Spot{spot, {}, spot}, []string{s, s, s}, s)
		callNode(good, []impl.Spot{{Path: []string{s}, Key: s}}, nil, "node_modules/"+s)
		quoted := impl.Quote(s)
		for _, file := range []string{"{" + quoted + ": {\"\": {}}}", "{\"packages\": {" + quoted + ": {}}}", "{\"packages\": {\"\": {" + quoted + ": {}}}}", nodeFile(`="dependencies": {` + quoted + `: "*"}`), nodeFile(`="dependencies": {"a": `+quoted+`}`, "a="+v1), "{\"packages\": {\"\": {}, " + quoted + ": {" + v1 + "}}}", nodeFile("=", `a="version": `+quoted), nodeFile("=", "a="+v1+`, "resolved": `+quoted), nodeFile("=", "a="+v1+`, "integrity": `+quoted), "{\"packages\": {\"\": {}, \"node_modules/" + quoted[1:] + ": {" + v1 + "}}}"} {
			if len(file) < 2*maxFile {
				checkGetNode(t, file)
			}
		}
	}
	for _, s := range []string{"node_modules/", "/node_modules", "node_modules/a/", "a", "/", "@", "{", "[", "{\"packages\": ", "\"\": {", "\""} {
		for _, size := range []int{8, 9, 100, maxFile / len(s), 100000} {
			callNode(good, nil, nil, strings.Repeat(s, size))
		}
	}
	long := slices.Repeat(names("a"), 100000)
	wide := slices.Repeat(spotsOf("a a a=1", "b=2", "a b=3"), 100000)
	wide = append(wide, impl.Spot{Path: long, Key: "long"})
	callNode(good, wide, long, "a")
	if got := impl.Lookup(wide, long, "a"); got != "long" {
		t.Errorf("Lookup of a long path = %q", got)
	}
	callNode(good, wide, long[:99998], "b")
	callNode(good, make([]impl.Spot, 100000), nil, "")
	for _, g := range slices.Concat(noNodeGraphs(), []impl.Graph{{}, numberedGraph(20000), {Top: long}, {Packs: slices.Repeat(good.Packs, 50000)}}) {
		callNode(g, nil, nil, "")
	}
}

// spareSpots returns the spots in memory of their own, with spare capacity behind every slice.
func spareSpots(spots []impl.Spot) []impl.Spot {
	list := []impl.Spot{}
	for _, s := range spots {
		path, _ := spareList(ownTexts(s.Path)...)
		list = append(list, impl.Spot{Path: path, Key: strings.Clone(s.Key)})
	}
	return append(list, spotOf("spare=spare@1.0.0"), spotOf("spare spare=spare@2.0.0"))[:len(list)]
}

// wholeSpots returns a copy of the spots with all its slices extended to their capacity.
func wholeSpots(spots []impl.Spot) []impl.Spot {
	list := []impl.Spot{}
	for _, s := range spots[:cap(spots)] {
		list = append(list, impl.Spot{Path: slices.Clone(s.Path[:cap(s.Path)]), Key: s.Key})
	}
	return list
}

// nodeMemoryGraphs returns graphs of all kinds with names that are long enough to have memory of their own.
func nodeMemoryGraphs() []impl.Graph {
	full := graphOf("*aa bb cc@2.0.0", "bb", "*cc", "cc@2.0.0 bb dd@2.0.0", "*dd", "dd@2.0.0 bb@1.0.0 dd@2.0.0")
	for i := range full.Packs {
		full.Packs[i].Source = "https://x.example/" + full.Packs[i].Name
		full.Packs[i].Sums = allSums()[1:]
		full.Packs[i].Dev = i%2 == 0
	}
	return slices.Concat([]impl.Graph{full, numberedGraph(40), graphOf("*aa bb", "bb"), graphOf("*aa", "*aa@2.0.0"), graphOf("*aa", "bb"), spreadGraph(29), spreadGraph(30)}, deepGraphs(6), deepGraphs(7), memoryGraphs())
}

func TestPromise16NodeArguments(t *testing.T) {
	for _, x := range nodeMemoryGraphs() {
		g := spareGraph(x)
		want := cloneGraph(withSpare(g))
		laid, _ := impl.Layout(x)
		spots := spareSpots(laid)
		wantSpots := wholeSpots(spots)
		text, _ := impl.PutNode(x)
		text = strings.Clone(text)
		before := strings.Clone(text)
		for _, s := range spotsOf("=", "aa cc=", "aa cc dd=", "x x x=") {
			path, memory := spareList(s.Path...)
			wantPath := slices.Clone(memory)
			callNode(g, spots, path, text)
			callNode(g, spots, path, "dd")
			callNode(g, spots[:len(spots)/2], path, "node_modules/aa/node_modules/bb")
			if !slices.Equal(memory, wantPath) {
				t.Errorf("the path was modified: %q", memory)
			}
		}
		for _, s := range spots {
			callNode(g, spots, s.Path, s.Key)
			callNode(g, spots, s.Path, "bb")
		}
		if !reflect.DeepEqual(withSpare(g), want) || !reflect.DeepEqual(wholeSpots(spots), wantSpots) || text != before {
			t.Errorf("the graph %s, its spots or its text was modified", brief(x))
		}
	}
}

func spotSpans(spots []impl.Spot) []span {
	spans := []span{listSpan(spots)}
	for _, s := range spots {
		spans = append(spans, textSpan(s.Key))
		spans = append(spans, keySpans(s.Path)...)
	}
	return spans
}

func TestPromise16NodeMemory(t *testing.T) {
	for _, x := range nodeMemoryGraphs() {
		g := spareGraph(x)
		if slices.ContainsFunc(g.Packs, func(p impl.Pack) bool { return len(p.Name) == 1 }) {
			continue // Go keeps all strings of one byte in one place
		}
		arguments := graphSpans(g)
		first, _ := impl.Layout(g)
		second, _ := impl.Layout(g)
		checkSpans(t, "Layout", append(spotSpans(first), spotSpans(second)...), arguments)
		want := wholeSpots(second)
		for _, s := range first {
			clear(s.Path[:cap(s.Path)])
		}
		clear(first[:cap(first)])
		if third, _ := impl.Layout(g); !reflect.DeepEqual(wholeSpots(second), want) || !equalSpots(third, second) {
			t.Errorf("two results of Layout(%s) share memory", brief(g))
		}
		spots := spareSpots(second)
		for _, s := range spots {
			name := strings.Clone(s.Path[len(s.Path)-1])
			checkSpans(t, "Lookup", []span{textSpan(impl.Lookup(spots, s.Path, name)), textSpan(impl.Lookup(spots, s.Path, name))}, append(spotSpans(spots), textSpan(name)))
			text := impl.PathText(s.Path)
			checkSpans(t, "PathText", []span{textSpan(text), textSpan(impl.PathText(s.Path))}, keySpans(s.Path))
			checkSpans(t, "ReadPath", append(keySpans(impl.ReadPath(text)), keySpans(impl.ReadPath(text))...), []span{textSpan(text)})
		}
		text, ok := impl.PutNode(g)
		again, _ := impl.PutNode(g)
		checkSpans(t, "PutNode", []span{textSpan(text), textSpan(again)}, arguments)
		if ok {
			checkNodeMemory(t, text)
		}
	}
	checkNodeMemory(t, nodeFile("="+deps("aa,*,bb,*"), "aa="+v1+", "+deps("bb,*"), "bb="+v1, "cc aa="+v1+", "+deps("bb,1"), "aa bb="+v1))
}

// checkNodeMemory checks that two graphs read from the text share memory neither with it nor with each other.
func checkNodeMemory(t *testing.T, text string) {
	t.Helper()
	first, code := impl.GetNode(text)
	second, _ := impl.GetNode(text)
	if code != impl.RdOk {
		t.Errorf("GetNode(%.500q): %d", text, code)
	}
	checkSpans(t, "GetNode", append(graphSpans(first), graphSpans(second)...), []span{textSpan(text)})
	want := cloneGraph(withSpare(second))
	for _, p := range first.Packs {
		clear(p.Sums[:cap(p.Sums)])
		clear(p.Needs[:cap(p.Needs)])
	}
	clear(first.Packs[:cap(first.Packs)])
	clear(first.Top[:cap(first.Top)])
	if third, _ := impl.GetNode(text); !reflect.DeepEqual(cloneGraph(withSpare(second)), want) || !equalGraphs(third, second) {
		t.Errorf("two results of GetNode(%.500q) share memory", text)
	}
}
