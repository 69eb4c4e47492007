package tests

import (
	"math/rand"
	"reflect"
	"slices"
	"strconv"
	"strings"
	"testing"
	"unsafe"

	"loop.example/g00445/impl"
)

// fullKey adds the version 1.0.0 to a name that has none.
func fullKey(s string) string {
	if strings.LastIndexByte(s, '@') < 1 {
		return s + "@1.0.0"
	}
	return s
}

// keyList returns the keys of a text, separated by spaces.
func keyList(text string) []string {
	list := []string{}
	for _, s := range strings.Fields(text) {
		list = append(list, fullKey(s))
	}
	return list
}

// packOf returns the pack of a line: its key and the keys that it needs.
func packOf(line string) impl.Pack {
	keys := keyList(line)
	at := strings.LastIndexByte(keys[0], '@')
	return impl.Pack{Name: keys[0][:at], Version: keys[0][at+1:], Needs: keys[1:]}
}

// graphOf returns the graph with a pack for every line; a star before its key is for Top.
func graphOf(lines ...string) impl.Graph {
	g := impl.Graph{}
	for _, line := range lines {
		text, top := strings.CutPrefix(line, "*")
		p := packOf(text)
		if top {
			g.Top = append(g.Top, p.Name+"@"+p.Version)
		}
		g.Packs = append(g.Packs, p)
	}
	return g
}

// numberedGraph returns a graph of that many packs, all of them in Top, each with the next one as its need.
func numberedGraph(size int) impl.Graph {
	g := impl.Graph{}
	for i := range size {
		p := impl.Pack{Name: "p" + strconv.Itoa(1000+i), Version: "1.0.0"}
		if i+1 < size {
			p.Needs = []string{"p" + strconv.Itoa(1001+i) + "@1.0.0"}
		}
		g.Packs = append(g.Packs, p)
		g.Top = append(g.Top, p.Name+"@1.0.0")
	}
	return g
}

func keysOf(g impl.Graph) []string {
	keys := []string{}
	for _, p := range g.Packs {
		keys = append(keys, p.Name+"@"+p.Version)
	}
	return keys
}

// cloneGraph copies all slices of g, without their spare capacity.
func cloneGraph(g impl.Graph) impl.Graph {
	copied := impl.Graph{Top: slices.Clip(slices.Clone(g.Top)), Packs: slices.Clip(slices.Clone(g.Packs))}
	for i, p := range copied.Packs {
		copied.Packs[i].Sums = slices.Clip(slices.Clone(p.Sums))
		copied.Packs[i].Needs = slices.Clip(slices.Clone(p.Needs))
	}
	return copied
}

// equalGraphs compares without the program; nil and empty slices are equal.
func equalGraphs(a impl.Graph, b impl.Graph) bool {
	return slices.Equal(a.Top, b.Top) && slices.EqualFunc(a.Packs, b.Packs, func(p impl.Pack, q impl.Pack) bool {
		same := p.Name == q.Name && p.Version == q.Version && p.Source == q.Source && p.Dev == q.Dev
		return same && slices.Equal(p.Sums, q.Sums) && slices.Equal(p.Needs, q.Needs)
	})
}

func sumOf(alg string, size int) impl.Sum {
	return impl.Sum{Alg: alg, Bytes: strings.Repeat("\xfe\x01\x00\x9a\x7f", 20)[:size]}
}

// allSums returns a valid sum of every Alg, in ascending order.
func allSums() []impl.Sum {
	return []impl.Sum{sumOf("h1", 32), sumOf("sha1", 20), sumOf("sha256", 32), sumOf("sha512", 64)}
}

// richGraph returns a graph that has something in every field.
func richGraph() impl.Graph {
	g := graphOf("*@org/ui@1.0.0-rc.1 a c", "*a b c", "a@2.0.0 a@2.0.0", "b c", "c b", "d")
	g.Packs[0].Source = "https://registry.example/@org/ui?x=1#y"
	g.Packs[0].Sums = allSums()
	g.Packs[1].Dev = true
	g.Packs[2].Source = "src"
	g.Packs[2].Sums = allSums()[2:3]
	g.Packs[2].Dev = true
	g.Packs[3].Sums = allSums()[1:]
	return g
}

// badSums returns lists of sums that break one condition each.
func badSums() [][]impl.Sum {
	list := [][]impl.Sum{}
	for _, s := range allSums() {
		size := len(s.Bytes)
		for _, n := range []int{0, 1, size - 1, size + 1, 100} {
			list = append(list, []impl.Sum{sumOf(s.Alg, n)})
		}
		list = append(list, []impl.Sum{s, s}, []impl.Sum{s, sumOf("sha999", size)}, []impl.Sum{{Alg: "", Bytes: s.Bytes}, s})
		for _, alg := range []string{"", "md5", "h2", "h", "sha", "sha2", "sha384", "sha3", "SHA1", "Sha256", " sha1", "sha1 ", "sha512\x00"} {
			list = append(list, []impl.Sum{{Alg: alg, Bytes: s.Bytes}}, []impl.Sum{{Alg: alg}})
		}
	}
	for i, a := range allSums() {
		for _, b := range allSums()[:i] {
			list = append(list, []impl.Sum{a, b}, []impl.Sum{b, a, b}, []impl.Sum{b, a, a})
		}
	}
	return list
}

// badPacks returns packs that break one condition each.
func badPacks() []impl.Pack {
	list := []impl.Pack{{}, {Name: "a"}, {Version: "1.0.0"}}
	for _, name := range []string{"", "A", "a@b", "a//b", "/a", "@", "a b", "node_modules", "a/node_modules", "a\n", strings.Repeat("a", 61)} {
		list = append(list, impl.Pack{Name: name, Version: "1.0.0"})
	}
	// from 1.0.999999999 on: versions that Exact does not accept
	for _, version := range []string{"", "1", "1.0", "01.0.0", "v1.0.0", "1.0.0 ", "1.0.0-", "^1.0.0", "*", "1000000000.0.0", "1.0.999999999", "0.0.999999999", "1.0.0-a.b.c.d.e", "1.0.999999999-1.2.3.4.5"} {
		list = append(list, impl.Pack{Name: "a", Version: version})
	}
	for _, source := range []string{" ", "a b", "a,b", "a\"", "a'", "a\\", "a\n", "\x00", "\x7f", "\xff", strings.Repeat("a", 101)} {
		list = append(list, impl.Pack{Name: "a", Version: "1.0.0", Source: source})
	}
	for _, sums := range badSums() {
		list = append(list, impl.Pack{Name: "a", Version: "1.0.0", Sums: sums})
	}
	return list
}

// badKeyLists returns lists that are no ascending list of keys of the packs a, b and c.
func badKeyLists() [][]string {
	return [][]string{
		keyList("b a"), keyList("c b a"), keyList("a c b"), keyList("a a"), keyList("c c"), keyList("a b b c"), keyList("a b a"),
		keyList("d"), keyList("a d"), keyList("0 a"), keyList("a aa b"), keyList("a@1.0.1"), keyList("a b@2.0.0"),
		{""}, {"a"}, {"@"}, {"a@"}, {"@1.0.0"}, {"", "a@1.0.0"}, {"a@1.0.0", "a@1.0.0 "}, {"A@1.0.0"}, {"a@1.0.0", ""},
	}
}

// badGraphs returns graphs that break one condition each.
func badGraphs() []impl.Graph {
	many := numberedGraph(41)
	many.Top = nil
	list := []impl.Graph{
		numberedGraph(41), many, numberedGraph(200), {Packs: make([]impl.Pack, 41)},
		graphOf("b", "a"), graphOf("*a", "b", "c", "b@2.0.0"), graphOf("a", "a"), graphOf("a", "b", "b"), graphOf("a@2.0.0", "a"),
		graphOf("a", "a-b"), graphOf("a", "a.b"), graphOf("a", "a/b"), graphOf("a", "a0"), graphOf("a@1.9.0", "a@1.10.0"), graphOf("a", "@a"),
		{Top: []string{"a@1.0.0"}}, {Top: []string{""}},
	}
	for _, p := range badPacks() {
		list = append(list, impl.Graph{Packs: []impl.Pack{p}}, impl.Graph{Packs: []impl.Pack{packOf("@0"), p}})
		z := packOf("z")
		list = append(list, impl.Graph{Packs: []impl.Pack{p, z}, Top: []string{"z@1.0.0"}})
	}
	for _, keys := range badKeyLists() {
		g := graphOf("a", "b", "c")
		g.Top = keys
		list = append(list, g)
		for i := range 3 {
			g := graphOf("*a", "*b c", "*c b")
			g.Packs[i].Needs = keys
			list = append(list, g)
		}
	}
	return list
}

func TestPackOk(t *testing.T) {
	good := []impl.Pack{
		packOf("a"), packOf("@org/ui@1.0.0-rc.1"), packOf("golang.org/x/text@0.0.0"), packOf("a@1.0.0-a.b.c.d"), packOf("a@1.0.999999998"), packOf("a@1.0.999999999-a"), packOf("a@999999999.999999999.0"), packOf("@node_modules"), packOf(strings.Repeat("a", 60)),
		{Name: "a", Version: "1.0.0", Source: "git+https://x.example/a.git#0123", Dev: true},
		{Name: "a", Version: "1.0.0", Source: strings.Repeat("~", 100)},
		{Name: "a", Version: "1.0.0", Source: "NOASSERTION", Sums: []impl.Sum{}, Needs: []string{}},
	}
	for _, keys := range badKeyLists() {
		good = append(good, impl.Pack{Name: "a", Version: "1.0.0", Needs: keys})
	}
	good = append(good, richGraph().Packs...)
	for _, p := range good {
		if !impl.PackOk(p) {
			t.Errorf("PackOk(%+v) is false", p)
		}
	}
	for _, p := range badPacks() {
		if impl.PackOk(p) {
			t.Errorf("PackOk(%+v) is true", p)
		}
	}
}

func TestPackOkSums(t *testing.T) {
	sizes := map[string]int{"sha1": 20, "sha256": 32, "sha512": 64, "h1": 32}
	for alg, want := range sizes {
		for size := range 101 {
			p := impl.Pack{Name: "a", Version: "1.0.0", Sums: []impl.Sum{sumOf(alg, size)}}
			if got := impl.PackOk(p); got != (size == want) {
				t.Errorf("PackOk with %s of %d bytes is %v", alg, size, got)
			}
		}
	}
	sums := allSums()
	// every sequence of up to four of the sums, as digits to base 5, of which 4 stands for none
	for code := range 5 * 5 * 5 * 5 {
		list, places := []impl.Sum{}, []int{}
		for n := range 4 {
			if at := code / []int{1, 5, 25, 125}[n] % 5; at < 4 {
				list, places = append(list, sums[at]), append(places, at)
			}
		}
		want := slices.IsSorted(places) && len(slices.Compact(slices.Clone(places))) == len(places)
		if got := impl.PackOk(impl.Pack{Name: "a", Version: "1.0.0", Sums: list}); got != want {
			t.Errorf("PackOk with the sums %v is %v", places, got)
		}
	}
}

func TestGraphOk(t *testing.T) {
	good := []impl.Graph{
		{}, {Top: []string{}, Packs: []impl.Pack{}}, richGraph(), graphOf("a"), graphOf("*a a"), graphOf("*a b", "*b a"),
		numberedGraph(1), numberedGraph(39), numberedGraph(40),
		// keys whose order differs from that of the names and versions
		graphOf("*a-b", "a"), graphOf("*a-b a0 a", "a.b", "a/b a.b a_b", "a0", "*a a-b a.b aa", "*a_b", "aa"), graphOf("@a", "a"),
		graphOf("*a@1.10.0 a@1.9.0", "a@1.9.0"), graphOf("a@1.0.0", "a@1.0.0-rc"), graphOf("a@10.0.0", "a@9.0.0"),
	}
	for _, g := range good {
		if !impl.GraphOk(g) {
			t.Errorf("GraphOk(%+v) is false", g)
		}
	}
	for _, g := range badGraphs() {
		if impl.GraphOk(g) {
			t.Errorf("GraphOk(%+v) is true", g)
		}
	}
}

func TestKeyOf(t *testing.T) {
	cases := map[string]impl.Pack{
		"a@1.0.0":            packOf("a b c"),
		"@org/ui@1.0.0-rc.1": {Name: "@org/ui", Version: "1.0.0-rc.1", Source: "x", Dev: true},
		"@":                  {},
		"a@":                 {Name: "a"},
		"@1":                 {Version: "1"},
		"a@b@c@d":            {Name: "a@b", Version: "c@d"},
		"\x00 @\xff":         {Name: "\x00 ", Version: "\xff"},
	}
	for want, p := range cases {
		if got := impl.KeyOf(p); got != want {
			t.Errorf("KeyOf(%+v) = %+v, want %+v", p, got, want)
		}
	}
}

func TestSplitKey(t *testing.T) {
	cases := map[string][2]string{
		"a@1.0.0": {"a", "1.0.0"}, "@org/ui@1.0.0-rc.1": {"@org/ui", "1.0.0-rc.1"}, "@org/ui": {"", "org/ui"},
		"": {"", ""}, "a": {"", ""}, "1.0.0": {"", ""}, "a/b": {"", ""}, "\x00\xff": {"", ""},
		"@": {"", ""}, "@@": {"@", ""}, "@@@": {"@@", ""}, "a@": {"a", ""}, "@a": {"", "a"}, "a@b@": {"a@b", ""}, "a@b@c@d": {"a@b@c", "d"}, "\x00@\xff": {"\x00", "\xff"},
	}
	for key, want := range cases {
		if name, version := impl.SplitKey(key); name != want[0] || version != want[1] {
			t.Errorf("SplitKey(%q) = %q, %q; want %q", key, name, version, want)
		}
	}
	for _, p := range append(richGraph().Packs, impl.Pack{}, impl.Pack{Name: "@@", Version: "x y"}) {
		if name, version := impl.SplitKey(impl.KeyOf(p)); name != p.Name || version != p.Version {
			t.Errorf("the key of %q, %q is split into %q, %q", p.Name, p.Version, name, version)
		}
	}
}

func TestFind(t *testing.T) {
	for _, g := range []impl.Graph{{}, richGraph(), numberedGraph(40), numberedGraph(100), graphOf("a-b", "a", "aa")} {
		for i, key := range keysOf(g) {
			if got := impl.Find(g, key); got != i {
				t.Errorf("Find(%q) = %d, want %d", key, got, i)
			}
		}
		for _, key := range []string{"", "@", "a", "z@1.0.0", "a@1.0.1", "a@1.0.0 ", "A@1.0.0", "p1100@1.0.0"} {
			if got := impl.Find(g, key); got != -1 {
				t.Errorf("Find(%q) = %d, want -1", key, got)
			}
		}
	}
	odd := impl.Graph{Packs: []impl.Pack{packOf("b"), packOf("a"), packOf("b"), {Name: "x", Version: "y@z"}, {Name: "x@y", Version: "z"}, {}, packOf("a")}}
	for key, want := range map[string]int{"b@1.0.0": 0, "a@1.0.0": 1, "x@y@z": 3, "@": 5, "c@1.0.0": -1} {
		if got := impl.Find(odd, key); got != want {
			t.Errorf("Find(%q) in an invalid graph = %d, want %d", key, got, want)
		}
	}
}

// variants returns g and graphs that differ from it, and from each other, in one field; g has two packs, and sums and needs in the first.
func variants(g impl.Graph) []impl.Graph {
	list := []impl.Graph{g}
	vary := func(change func(*impl.Graph, *impl.Pack)) {
		for i := range g.Packs {
			x := cloneGraph(g)
			change(&x, &x.Packs[i])
			list = append(list, x)
		}
	}
	vary(func(x *impl.Graph, p *impl.Pack) { p.Name += "x" })
	vary(func(x *impl.Graph, p *impl.Pack) { p.Version += "x" })
	vary(func(x *impl.Graph, p *impl.Pack) { p.Source += "x" })
	vary(func(x *impl.Graph, p *impl.Pack) { p.Dev = !p.Dev })
	vary(func(x *impl.Graph, p *impl.Pack) { p.Sums = append(p.Sums, sumOf("z", 1)) })
	vary(func(x *impl.Graph, p *impl.Pack) { p.Needs = append(p.Needs, "z@1.0.0") })
	vary(func(x *impl.Graph, p *impl.Pack) { x.Top = append(x.Top, p.Name) })
	vary(func(x *impl.Graph, p *impl.Pack) { x.Packs = append(x.Packs, *p) })
	first := []func(*impl.Graph, *impl.Pack){
		func(x *impl.Graph, p *impl.Pack) { x.Top = nil },
		func(x *impl.Graph, p *impl.Pack) { x.Top[0] += "x" },
		func(x *impl.Graph, p *impl.Pack) { slices.Reverse(x.Top) },
		func(x *impl.Graph, p *impl.Pack) { x.Packs = nil },
		func(x *impl.Graph, p *impl.Pack) { x.Packs = x.Packs[:1] },
		func(x *impl.Graph, p *impl.Pack) { slices.Reverse(x.Packs) },
		func(x *impl.Graph, p *impl.Pack) { p.Sums = nil },
		func(x *impl.Graph, p *impl.Pack) { p.Sums[0].Alg += "x" },
		func(x *impl.Graph, p *impl.Pack) { p.Sums[1].Bytes += "x" },
		func(x *impl.Graph, p *impl.Pack) { slices.Reverse(p.Sums) },
		func(x *impl.Graph, p *impl.Pack) { p.Needs = nil },
		func(x *impl.Graph, p *impl.Pack) { p.Needs[1] += "x" },
		func(x *impl.Graph, p *impl.Pack) { slices.Reverse(p.Needs) },
	}
	for _, change := range first {
		x := cloneGraph(g)
		change(&x, &x.Packs[0])
		list = append(list, x)
	}
	return list
}

func TestSameGraph(t *testing.T) {
	g := graphOf("*a a b", "*b")
	g.Packs[0].Sums = allSums()[:2]
	g.Packs[0].Source = "src"
	list := append(variants(g), impl.Graph{})
	for i, a := range list {
		for k, b := range list {
			if got := impl.SameGraph(a, cloneGraph(b)); got != (i == k) {
				t.Errorf("SameGraph(%+v, %+v) is %v", a, b, got)
			}
		}
	}
	for _, g := range append(badGraphs(), richGraph(), numberedGraph(40)) {
		if !impl.SameGraph(g, cloneGraph(g)) {
			t.Errorf("SameGraph of %+v and itself is false", g)
		}
	}
	empty := impl.Graph{Top: []string{}, Packs: []impl.Pack{}}
	a := impl.Graph{Packs: []impl.Pack{{Name: "a", Sums: []impl.Sum{}, Needs: []string{}}}}
	b := impl.Graph{Packs: []impl.Pack{{Name: "a"}}}
	if !impl.SameGraph(empty, impl.Graph{}) || !impl.SameGraph(impl.Graph{}, empty) || !impl.SameGraph(a, b) || !impl.SameGraph(b, a) {
		t.Error("nil and empty slices differ")
	}
}

func TestGraphText(t *testing.T) {
	sums := graphOf("a", "b")
	sums.Packs[0].Sums = allSums()
	sums.Packs[1].Sums = allSums()[1:2]
	source := graphOf("*a b", "b")
	source.Packs[0].Source, source.Packs[1].Source = "->", "dev"
	dev := graphOf("*a b", "*b")
	dev.Packs[0].Dev, dev.Packs[1].Dev = true, true
	cases := []struct {
		g    impl.Graph
		want string
	}{
		{impl.Graph{}, "top\n"},
		{graphOf("a"), "top\na@1.0.0\n"},
		{graphOf("*a"), "top a@1.0.0\na@1.0.0\n"},
		{graphOf("*a a"), "top a@1.0.0\na@1.0.0 -> a@1.0.0\n"},
		{graphOf("*a-b a", "*a"), "top a-b@1.0.0 a@1.0.0\na-b@1.0.0 -> a@1.0.0\na@1.0.0\n"},
		{sums, "top\na@1.0.0 h1:fe01009a sha1:fe01009a sha256:fe01009a sha512:fe01009a\nb@1.0.0 sha1:fe01009a\n"},
		{source, "top a@1.0.0\na@1.0.0 -> -> b@1.0.0\nb@1.0.0 dev\n"},
		{dev, "top a@1.0.0 b@1.0.0\na@1.0.0 dev -> b@1.0.0\nb@1.0.0 dev\n"},
		{richGraph(), "top @org/ui@1.0.0-rc.1 a@1.0.0\n" +
			"@org/ui@1.0.0-rc.1 h1:fe01009a sha1:fe01009a sha256:fe01009a sha512:fe01009a https://registry.example/@org/ui?x=1#y -> a@1.0.0 c@1.0.0\n" +
			"a@1.0.0 dev -> b@1.0.0 c@1.0.0\na@2.0.0 dev sha256:fe01009a src -> a@2.0.0\nb@1.0.0 sha1:fe01009a sha256:fe01009a sha512:fe01009a -> c@1.0.0\nc@1.0.0 -> b@1.0.0\nd@1.0.0\n"},
	}
	for _, c := range cases {
		if got := impl.GraphText(c.g); got != c.want {
			t.Errorf("GraphText(%+v) = %+v, want %+v", c.g, got, c.want)
		}
	}
	if got := impl.GraphText(numberedGraph(40)); strings.Count(got, "\n") != 41 || !strings.HasSuffix(got, "\np1039@1.0.0\n") {
		t.Errorf("GraphText of 40 packs is %q", got)
	}
}

func checkKeys(t *testing.T, what string, g impl.Graph, got []string, want string) {
	t.Helper()
	if !slices.Equal(got, keyList(want)) {
		t.Errorf("%s of %q is %q, want %q", what, keysOf(g), got, want)
	}
}

func TestReach(t *testing.T) {
	g := graphOf("*a b c", "b d", "*b@2.0.0", "c d", "d", "e a", "f f", "g h", "h i", "i g j", "j")
	cases := [][2]string{
		{"", ""}, {"zz", ""}, {"a@2.0.0 @ b@1.0.1", ""}, {"zz c", "c d"}, {"c zz", "c d"},
		{"a", "a b c d"}, {"d", "d"}, {"e", "a b c d e"}, {"b@2.0.0", "b@2.0.0"}, {"f", "f"}, {"g", "g h i j"}, {"h", "g h i j"}, {"i", "g h i j"}, {"j", "j"},
		{"j d b@2.0.0", "b@2.0.0 d j"}, {"d d d", "d"}, {"i a i a", "a b c d g h i j"},
		{"a b b@2.0.0 c d e f g h i j", "a b b@2.0.0 c d e f g h i j"}, {"j i h g f e d c b@2.0.0 b a", "a b b@2.0.0 c d e f g h i j"},
	}
	for _, c := range cases {
		checkKeys(t, "Reach from "+c[0], g, impl.Reach(g, keyList(c[0])), c[1])
	}
	if got := impl.Reach(g, nil); len(got) != 0 {
		t.Errorf("Reach from nothing is %q", got)
	}
	for _, key := range []string{"", "@", "a", "a@", "@1.0.0", "a@1.0.0 ", "\xff"} {
		if got := impl.Reach(g, []string{key}); len(got) != 0 {
			t.Errorf("Reach from %q is %q", key, got)
		}
	}
	h := graphOf("a-b a", "a aa", "aa a-b", "ab a")
	checkKeys(t, "Reach", h, impl.Reach(h, keyList("ab")), "a-b a aa ab")
	long := numberedGraph(40)
	for i, key := range keysOf(long) {
		if got := impl.Reach(long, []string{key}); !slices.Equal(got, keysOf(long)[i:]) {
			t.Errorf("Reach from %q is %q", key, got)
		}
	}
	if got := impl.Reach(impl.Graph{}, keyList("a")); len(got) != 0 {
		t.Errorf("Reach of no packs is %q", got)
	}
}

func TestPrune(t *testing.T) {
	cases := []struct{ g, want impl.Graph }{
		{impl.Graph{}, impl.Graph{}},
		{graphOf("a", "b a"), impl.Graph{}},
		{graphOf("*a b", "b", "c a"), graphOf("*a b", "b")},
		{graphOf("a", "*b a"), graphOf("a", "*b a")},
		{graphOf("a c", "b a", "*c d", "d c", "e e"), graphOf("*c d", "d c")},
		{graphOf("*a-b a", "a", "aa a-b"), graphOf("*a-b a", "a")},
		{numberedGraph(40), numberedGraph(40)},
	}
	rich := richGraph()
	rich.Packs = append(rich.Packs[:2:2], rich.Packs[3:5]...)
	cases = append(cases, struct{ g, want impl.Graph }{richGraph(), rich})
	for _, c := range cases {
		got := impl.Prune(c.g)
		if !equalGraphs(got, c.want) || !impl.GraphOk(got) {
			t.Errorf("Prune(%+v) = %+v, want %+v", c.g, got, c.want)
		}
		if again := impl.Prune(got); !equalGraphs(again, got) {
			t.Errorf("Prune of a pruned graph is %+v, want %+v", again, got)
		}
	}
}

func TestOrder(t *testing.T) {
	cases := []struct {
		g    impl.Graph
		want string
		ok   bool
	}{
		{impl.Graph{}, "", true},
		{graphOf("c", "d", "e"), "c d e", true},
		{graphOf("a-b", "a", "aa"), "a-b a aa", true},
		{graphOf("a@1.10.0", "a@1.9.0"), "a@1.10.0 a@1.9.0", true},
		// a smaller key that becomes possible only after a greater one
		{graphOf("a b", "b"), "b a", true},
		{graphOf("a d", "b", "c", "d", "e"), "b c d a e", true},
		{graphOf("a c", "b d", "c", "d", "e"), "c a d b e", true},
		{graphOf("a f", "b e", "c a", "d", "e", "f"), "d e b f a c", true},
		{graphOf("a b c", "b d", "b@2.0.0", "c d", "d", "e a"), "b@2.0.0 d b c a e", true},
		{graphOf("a b", "b c", "c d", "d e", "e"), "e d c b a", true},
		{graphOf("a b c d e", "b", "c", "d", "e"), "b c d e a", true},
		// cycles
		{graphOf("a a"), "", false},
		{graphOf("a a", "b"), "b", false},
		{graphOf("a b", "b a"), "", false},
		{graphOf("a b", "b a", "c"), "c", false},
		{graphOf("a b", "b c", "c a"), "", false},
		{graphOf("a", "b c", "c d", "d b"), "a", false},
		// a cycle behind packs that can be ordered
		{graphOf("a", "b a", "c b d", "d c"), "a b", false},
		{graphOf("a e", "b a b", "c a", "d b", "e"), "e a c", false},
		// packs that need a cycle
		{graphOf("a b", "b c", "c b", "d"), "d", false},
		{graphOf("a", "b c", "c c", "d a b", "e a"), "a e", false},
	}
	for _, c := range cases {
		got, ok := impl.Order(c.g)
		checkKeys(t, "Order", c.g, got, c.want)
		if ok != c.ok {
			t.Errorf("Order of %q returns %v", keysOf(c.g), ok)
		}
	}
	long := numberedGraph(40)
	want := keysOf(long)
	slices.Reverse(want)
	if got, ok := impl.Order(long); !ok || !slices.Equal(got, want) {
		t.Errorf("Order of 40 packs is %q, %v", got, ok)
	}
	flat := numberedGraph(40)
	for i := range flat.Packs {
		flat.Packs[i].Needs = nil
	}
	if got, ok := impl.Order(flat); !ok || !slices.Equal(got, keysOf(flat)) {
		t.Errorf("Order of 40 packs without needs is %q, %v", got, ok)
	}
}

func TestUsers(t *testing.T) {
	g := graphOf("*a b c", "b d", "*b@2.0.0", "c d", "d", "e a e", "f g", "g f")
	cases := map[string]string{"a": "e", "b": "a", "b@2.0.0": "", "c": "a", "d": "b c", "e": "e", "f": "g", "g": "f", "zz": "", "@": "", "a@1.0.1": ""}
	for key, want := range cases {
		checkKeys(t, "Users of "+key, g, impl.Users(g, fullKey(key)), want)
	}
	h := graphOf("a-b d", "a d", "aa d", "d d")
	checkKeys(t, "Users", h, impl.Users(h, "d@1.0.0"), "a-b a aa d")
	for _, key := range []string{"", "@", "d", "d@", "d@1.0.0 "} {
		if got := impl.Users(g, key); len(got) != 0 {
			t.Errorf("Users of %q are %q", key, got)
		}
	}
	if got := impl.Users(impl.Graph{}, "a@1.0.0"); len(got) != 0 {
		t.Errorf("Users in no packs are %q", got)
	}
}

func TestWhy(t *testing.T) {
	cases := []struct {
		g         impl.Graph
		key, want string
	}{
		{impl.Graph{}, "a", ""},
		{graphOf("a"), "a", ""},
		{graphOf("a b", "b"), "b", ""},
		{graphOf("*a"), "a", "a"},
		{graphOf("*a"), "b", ""},
		// keys of Top themselves
		{graphOf("*a b", "*b a"), "b", "b"},
		{graphOf("*a a"), "a", "a"},
		{graphOf("*a b", "b a"), "a", "a"},
		{graphOf("*a b", "b c", "*c"), "c", "c"},
		// the shortest path
		{graphOf("*a b", "b c", "c d", "d"), "d", "a b c d"},
		{graphOf("*a b d", "b c", "c d", "d"), "d", "a d"},
		{graphOf("*a b", "b c", "c z", "*y z", "z"), "z", "y z"},
		{graphOf("*a b c", "b d", "c z", "d z", "z"), "z", "a c z"},
		{graphOf("*a b", "b a c", "c c d", "d b"), "d", "a b c d"},
		// of two shortest ones the smaller
		{graphOf("*a b c", "b d", "c d", "d"), "d", "a b d"},
		{graphOf("*a z", "*b z", "z"), "z", "a z"},
		{graphOf("*a y", "*b c", "c z", "y z", "z"), "z", "a y z"},
		{graphOf("*a x", "*b c", "c d", "d z", "x y", "y z", "z"), "z", "a x y z"},
		{graphOf("*a c d", "c f", "d e", "e z", "f z", "z"), "z", "a c f z"},
		{graphOf("*a-b z", "*a z", "z"), "z", "a-b z"},
		{graphOf("*a@1.10.0 z", "*a@1.9.0 z", "z"), "z", "a@1.10.0 z"},
		{graphOf("*a b b-c", "b-c z", "b z", "z"), "z", ""}, // Needs do not ascend
		{graphOf("*a b-c b", "b-c z", "b z", "z"), "z", "a b-c z"},
		// not reachable from Top
		{graphOf("*a", "b a", "c b"), "c", ""},
		{graphOf("*a", "b c", "c b"), "b", ""},
		{graphOf("*a b", "b"), "b@2.0.0", ""},
	}
	for _, c := range cases {
		checkKeys(t, "Why "+c.key, c.g, impl.Why(c.g, fullKey(c.key)), c.want)
	}
	long := numberedGraph(40)
	long.Top = long.Top[:1]
	if got := impl.Why(long, "p1039@1.0.0"); !slices.Equal(got, keysOf(long)) {
		t.Errorf("Why of 40 packs is %q", got)
	}
	for _, key := range []string{"", "@", "p1000", "p1000@", "p1000@1.0.0 "} {
		if got := impl.Why(long, key); len(got) != 0 {
			t.Errorf("Why %q is %q", key, got)
		}
	}
}

func TestTogether(t *testing.T) {
	cases := []struct{ a, b, want impl.Graph }{
		{impl.Graph{}, impl.Graph{}, impl.Graph{}},
		{impl.Graph{}, richGraph(), richGraph()},
		{richGraph(), impl.Graph{}, richGraph()},
		{richGraph(), richGraph(), richGraph()},
		{graphOf("*a"), graphOf("*b"), graphOf("*a", "*b")},
		{graphOf("*b"), graphOf("*a"), graphOf("*a", "*b")},
		{graphOf("*a"), graphOf("a"), graphOf("*a")},
		{graphOf("a"), graphOf("*a"), graphOf("*a")},
		{graphOf("*a b", "b"), graphOf("a c", "*c"), graphOf("*a b c", "b", "*c")},
		{graphOf("a b d", "b", "d"), graphOf("a b c", "b a", "c"), graphOf("a b c d", "b a", "c", "d")},
		{graphOf("a", "*aa a"), graphOf("*a-b a", "a a-b"), graphOf("*a-b a", "a a-b", "*aa a")},
		{graphOf("a@1.9.0"), graphOf("a@1.10.0"), graphOf("a@1.10.0", "a@1.9.0")},
		{graphOf("a b", "b"), graphOf("a", "b a"), graphOf("a b", "b a")}, // a cycle of both together
	}
	for _, c := range cases {
		got := impl.Together(c.a, c.b)
		if !equalGraphs(got, c.want) || !impl.GraphOk(got) {
			t.Errorf("Together(%+v, %+v) = %+v, want %+v", c.a, c.b, got, c.want)
		}
	}
}

func TestTogetherPacksOfBoth(t *testing.T) {
	for code := range 16 {
		a, b := graphOf("a b", "b", "c"), graphOf("a c", "b", "c")
		p, q := &a.Packs[0], &b.Packs[0]
		p.Dev, q.Dev = code&1 > 0, code&2 > 0
		q.Source, q.Sums = "other", allSums()[:3]
		if code&4 > 0 {
			p.Source = "src"
		}
		if code&8 > 0 {
			p.Sums = allSums()[2:]
		}
		want := graphOf("a b c", "b", "c")
		want.Packs[0].Source, want.Packs[0].Sums, want.Packs[0].Dev = p.Source, p.Sums, p.Dev && q.Dev
		if got := impl.Together(a, b); !equalGraphs(got, want) {
			t.Errorf("Together(%+v, %+v) = %+v, want %+v", a, b, got, want)
		}
	}
	// packs of one graph keep everything, Dev among it
	a, b := graphOf("a"), graphOf("b")
	a.Packs[0].Dev, b.Packs[0].Dev, b.Packs[0].Source, b.Packs[0].Sums = true, true, "src", allSums()
	want := impl.Graph{Packs: []impl.Pack{a.Packs[0], b.Packs[0]}}
	if got := impl.Together(a, b); !equalGraphs(got, want) {
		t.Errorf("Together(%+v, %+v) = %+v", a, b, got)
	}
}

func TestTogetherLimit(t *testing.T) {
	all := numberedGraph(60)
	part := func(from int, to int) impl.Graph {
		g := cloneGraph(impl.Graph{Top: all.Top[from:to], Packs: all.Packs[from:to]})
		g.Packs[to-from-1].Needs = nil
		return g
	}
	exact := numberedGraph(40)
	exact.Packs[19].Needs = nil
	if got := impl.Together(part(0, 20), part(20, 40)); !equalGraphs(got, exact) {
		t.Errorf("Together of 20 and 20 packs is %+v", got)
	}
	if got := impl.Together(part(0, 30), part(10, 40)); !equalGraphs(got, numberedGraph(40)) {
		t.Errorf("Together of 40 packs, 20 of them in both, is %+v", got)
	}
	pairs := [][2]impl.Graph{{part(0, 20), part(20, 41)}, {part(20, 41), part(0, 20)}, {part(0, 40), part(40, 41)}, {part(40, 41), part(0, 40)}, {part(0, 40), part(20, 60)}, {part(0, 30), part(11, 41)}}
	for _, pair := range pairs {
		if got := impl.Together(pair[0], pair[1]); !equalGraphs(got, pair[0]) {
			t.Errorf("Together(%q, %q) = %q, want the first", keysOf(pair[0]), keysOf(pair[1]), keysOf(got))
		}
	}
}

func TestVersionsOfGraph(t *testing.T) {
	g := graphOf("a-b@3.0.0", "a@1.0.0", "a@1.10.0", "a@1.9.0", "a@2.0.0", "a@2.0.0-rc.1", "b@1.0.0")
	odd := impl.Graph{Top: []string{"x"}, Packs: []impl.Pack{packOf("a@2.0.0"), packOf("b"), packOf("a@1.0.0"), packOf("a@x"), packOf("a@2.0.0"), packOf("a@1.0.999999999"), {Name: "a"}, {Version: "3.0.0"}, {Name: "A", Version: "4.0.0"}}}
	cases := []struct {
		g    impl.Graph
		name string
		want []string
	}{
		{g, "a", []string{"1.0.0", "1.9.0", "1.10.0", "2.0.0-rc.1", "2.0.0"}},
		{g, "a-b", []string{"3.0.0"}}, {g, "b", []string{"1.0.0"}},
		{g, "", nil}, {g, "c", nil}, {g, "a@1.0.0", nil}, {g, "A", nil}, {impl.Graph{}, "a", nil}, {impl.Graph{}, "", nil},
		// the graph need not be valid
		{odd, "a", []string{"1.0.0", "1.0.999999999", "2.0.0"}}, {odd, "", []string{"3.0.0"}}, {odd, "A", []string{"4.0.0"}}, {numberedGraph(41), "p1040", []string{"1.0.0"}},
	}
	for _, c := range cases {
		if got := impl.Versions(c.g, c.name); !slices.Equal(got, c.want) {
			t.Errorf("Versions(%q, %q) = %q, want %q", keysOf(c.g), c.name, got, c.want)
		}
	}
}

func TestInvalidGraphs(t *testing.T) {
	good := graphOf("*a b", "b", "*z")
	for _, g := range badGraphs() {
		if got := impl.GraphText(g); got != "" {
			t.Errorf("GraphText(%+v) = %+v", g, got)
		}
		if got := impl.Prune(g); !equalGraphs(got, g) {
			t.Errorf("Prune(%+v) = %+v", g, got)
		}
		if got, ok := impl.Order(g); len(got) != 0 || ok {
			t.Errorf("Order(%+v) = %+v, %v", g, got, ok)
		}
		if got := impl.Reach(g, keysOf(g)); len(got) != 0 {
			t.Errorf("Reach(%+v) = %+v", g, got)
		}
		for _, key := range append(keysOf(g), "a@1.0.0", "b@1.0.0", "c@1.0.0", "") {
			if users, path := impl.Users(g, key), impl.Why(g, key); len(users) != 0 || len(path) != 0 {
				t.Errorf("Users and Why of %+v in %+v are %+v and %+v", key, g, users, path)
			}
		}
		if got := impl.Together(g, good); !equalGraphs(got, g) {
			t.Errorf("Together(%+v, a valid graph) = %+v", g, got)
		}
		if got := impl.Together(good, g); !equalGraphs(got, good) {
			t.Errorf("Together(a valid graph, %+v) = %+v", g, got)
		}
		if got := impl.Together(g, g); !equalGraphs(got, g) {
			t.Errorf("Together(%+v, itself) = %+v", g, got)
		}
	}
}

// randomGraph returns a valid graph of at most size packs, with names whose order differs from that of the keys.
func randomGraph(r *rand.Rand, size int) impl.Graph {
	names := []string{"a", "a-b", "a.b", "a0", "a_", "@a/a", "aa", "b", "b/c", "b-c", "c", "d"}
	versions := []string{"1.0.0", "1.9.0", "1.10.0", "1.0.0-rc", "0.0.1"}
	keys := []string{}
	for range r.Intn(size + 1) {
		keys = append(keys, names[r.Intn(len(names))]+"@"+versions[r.Intn(len(versions))])
	}
	slices.Sort(keys)
	keys = slices.Compact(keys)
	acyclic := r.Intn(2) == 0
	ranks := r.Perm(len(keys))
	odds := 1 + r.Intn(len(keys)+1)
	g := impl.Graph{}
	for i, key := range keys {
		p := packOf(key)
		p.Dev = r.Intn(2) == 0
		p.Source = []string{"", "src", "https://x.example"}[r.Intn(3)]
		p.Sums = allSums()[r.Intn(4):]
		for k, need := range keys {
			if r.Intn(odds) == 0 && (!acyclic || ranks[k] < ranks[i]) {
				p.Needs = append(p.Needs, need)
			}
		}
		g.Packs = append(g.Packs, p)
		if r.Intn(4) == 0 {
			g.Top = append(g.Top, key)
		}
	}
	return g
}

// smallGraphs returns every graph of the packs a-b, a and b, and some random ones with more packs.
func smallGraphs() []impl.Graph {
	list := []impl.Graph{}
	for code := range 1 << 12 {
		g := graphOf("a-b", "a", "b")
		keys := keysOf(g)
		for i, key := range keys {
			if code>>(9+i)&1 == 1 {
				g.Top = append(g.Top, key)
			}
			for k, need := range keys {
				if code>>(3*i+k)&1 == 1 {
					g.Packs[i].Needs = append(g.Packs[i].Needs, need)
				}
			}
		}
		list = append(list, g)
	}
	r := rand.New(rand.NewSource(4))
	for range 2000 {
		list = append(list, randomGraph(r, 7))
	}
	return list
}

func largeGraphs() []impl.Graph {
	list := []impl.Graph{richGraph(), numberedGraph(40)}
	r := rand.New(rand.NewSource(44))
	for range 500 {
		list = append(list, randomGraph(r, 40))
	}
	return list
}

// closure tells for every two packs whether there is a path of at least one step from the first to the second.
func closure(g impl.Graph) [][]bool {
	keys := keysOf(g)
	paths := make([][]bool, len(keys))
	for i, p := range g.Packs {
		paths[i] = make([]bool, len(keys))
		for _, need := range p.Needs {
			paths[i][slices.Index(keys, need)] = true
		}
	}
	for k := range keys {
		for i := range keys {
			for j := range keys {
				paths[i][j] = paths[i][j] || paths[i][k] && paths[k][j]
			}
		}
	}
	return paths
}

func TestPromise4Reach(t *testing.T) {
	for _, g := range append(smallGraphs(), largeGraphs()...) {
		keys, paths := keysOf(g), closure(g)
		if !impl.GraphOk(g) {
			t.Fatalf("GraphOk(%+v) is false", g)
		}
		reached := map[string][]string{}
		for i, key := range keys {
			want := []string{}
			for j, other := range keys {
				if i == j || paths[i][j] {
					want = append(want, other)
				}
			}
			reached[key] = impl.Reach(g, []string{key})
			if !slices.Equal(reached[key], want) {
				t.Fatalf("Reach(%+v, %+v) = %+v, want %+v", g, key, reached[key], want)
			}
		}
		for _, key := range keys {
			if again := impl.Reach(g, reached[key]); !slices.Equal(again, reached[key]) {
				t.Fatalf("Reach of %q goes on to %q", reached[key], again)
			}
		}
		want := []string{}
		for _, key := range g.Top {
			want = append(want, reached[key]...)
		}
		slices.Sort(want)
		want = slices.Compact(want)
		if got := impl.Reach(g, g.Top); !slices.Equal(got, want) {
			t.Fatalf("Reach(%+v, Top) = %+v, want %+v", g, got, want)
		}
		if got := impl.Prune(g); !slices.Equal(keysOf(got), want) || !slices.Equal(got.Top, g.Top) || !impl.GraphOk(got) {
			t.Fatalf("Prune(%+v) = %+v", g, got)
		}
	}
}

// orderOf takes again and again the smallest key that is possible next.
func orderOf(g impl.Graph) []string {
	order := []string{}
	for {
		at := slices.IndexFunc(g.Packs, func(p impl.Pack) bool {
			waits := slices.ContainsFunc(p.Needs, func(need string) bool { return !slices.Contains(order, need) })
			return !waits && !slices.Contains(order, p.Name+"@"+p.Version)
		})
		if at < 0 {
			return order
		}
		order = append(order, keysOf(g)[at])
	}
}

func TestPromise4Order(t *testing.T) {
	cycles, orders := 0, 0
	for _, g := range append(smallGraphs(), largeGraphs()...) {
		order, ok := impl.Order(g)
		if want := orderOf(g); !slices.Equal(order, want) {
			t.Fatalf("Order(%+v) = %+v, want %+v", g, order, want)
		}
		for i, key := range order {
			for _, need := range g.Packs[slices.Index(keysOf(g), key)].Needs {
				if !slices.Contains(order[:i], need) {
					t.Fatalf("Order(%+v) = %+v: %+v is not after %+v", g, order, key, need)
				}
			}
		}
		cycle := false
		for i, row := range closure(g) {
			cycle = cycle || row[i]
		}
		if ok != (len(order) == len(g.Packs)) || ok == cycle {
			t.Fatalf("Order(%+v) = %+v, %v; a cycle: %v", g, order, ok, cycle)
		}
		if ok {
			orders++
		} else {
			cycles++
		}
	}
	if cycles < 500 || orders < 500 {
		t.Errorf("only %d cycles and %d orders", cycles, orders)
	}
}

// bestPath returns the shortest and then smallest path to key that begins with path, of all that visit no pack twice.
func bestPath(g impl.Graph, path []string, key string) []string {
	last := path[len(path)-1]
	if last == key {
		return slices.Clone(path)
	}
	var best []string
	for _, need := range g.Packs[slices.Index(keysOf(g), last)].Needs {
		if slices.Contains(path, need) {
			continue
		}
		best = betterPath(best, bestPath(g, append(slices.Clone(path), need), key))
	}
	return best
}

// betterPath returns the better of two paths, of which an empty one is none.
func betterPath(a []string, b []string) []string {
	if len(a) == 0 || len(b) > 0 && (len(b) < len(a) || len(b) == len(a) && slices.Compare(b, a) < 0) {
		return b
	}
	return a
}

func TestPromise4Why(t *testing.T) {
	for _, g := range smallGraphs() {
		for _, key := range append(keysOf(g), "zz@1.0.0") {
			var want []string
			for _, top := range g.Top {
				want = betterPath(want, bestPath(g, []string{top}, key))
			}
			if got := impl.Why(g, key); !slices.Equal(got, want) {
				t.Fatalf("Why(%+v, %+v) = %+v, want %+v", g, key, got, want)
			}
		}
	}
	for _, g := range append(smallGraphs(), largeGraphs()...) {
		reached := impl.Reach(g, g.Top)
		for _, key := range keysOf(g) {
			path := impl.Why(g, key)
			if (len(path) > 0) != slices.Contains(reached, key) {
				t.Fatalf("Why(%+v, %+v) = %+v, but %+v are reachable", g, key, path, reached)
			}
			if len(path) > 0 && (!slices.Contains(g.Top, path[0]) || path[len(path)-1] != key) {
				t.Fatalf("Why(%+v, %+v) = %+v", g, key, path)
			}
			for i := 1; i < len(path); i++ {
				if !slices.Contains(impl.Users(g, path[i]), path[i-1]) {
					t.Fatalf("Why(%+v, %+v) = %+v: %+v does not need %+v", g, key, path, path[i-1], path[i])
				}
			}
		}
	}
}

func sortedUnion(a []string, b []string) []string {
	list := slices.Concat(a, b)
	slices.Sort(list)
	return slices.Compact(list)
}

func TestTogetherByDefinition(t *testing.T) {
	r := rand.New(rand.NewSource(14))
	tooMany, both := 0, 0
	for range 1500 {
		size := 5 + 35*r.Intn(2)
		a, b := randomGraph(r, size), randomGraph(r, size)
		want := impl.Graph{Top: sortedUnion(a.Top, b.Top)}
		for _, key := range sortedUnion(keysOf(a), keysOf(b)) {
			i, k := slices.Index(keysOf(a), key), slices.Index(keysOf(b), key)
			switch {
			case k < 0:
				want.Packs = append(want.Packs, a.Packs[i])
			case i < 0:
				want.Packs = append(want.Packs, b.Packs[k])
			default:
				p := a.Packs[i]
				p.Needs, p.Dev = sortedUnion(p.Needs, b.Packs[k].Needs), p.Dev && b.Packs[k].Dev
				want.Packs = append(want.Packs, p)
				both++
			}
		}
		if len(want.Packs) > impl.MaxPacks {
			want = a
			tooMany++
		}
		if got := impl.Together(a, b); !equalGraphs(got, want) {
			t.Fatalf("Together(%+v, %+v) = %+v, want %+v", a, b, got, want)
		}
	}
	if tooMany < 20 || both < 500 {
		t.Errorf("only %d unions were too large and %d packs in both", tooMany, both)
	}
}

// callGraph calls every function of the chapter.
func callGraph(a impl.Graph, b impl.Graph, from []string, key string) {
	for _, p := range a.Packs[:min(len(a.Packs), 50)] {
		impl.PackOk(p)
		impl.KeyOf(p)
	}
	impl.GraphOk(a)
	impl.SplitKey(key)
	impl.Find(a, key)
	impl.SameGraph(a, b)
	impl.GraphText(a)
	impl.Reach(a, from)
	impl.Prune(a)
	impl.Order(a)
	impl.Users(a, key)
	impl.Why(a, key)
	impl.Together(a, b)
	impl.Versions(a, key)
}

func TestPromise16GraphReturns(t *testing.T) {
	texts := byteTexts()
	good := richGraph()
	for _, s := range texts {
		p := impl.Pack{Name: s, Version: s, Source: s, Sums: []impl.Sum{{Alg: s, Bytes: s}, {Alg: "sha1", Bytes: s}}, Needs: []string{s}}
		g := impl.Graph{Top: []string{s}, Packs: []impl.Pack{p, p}}
		callGraph(g, good, []string{s}, s)
		callGraph(good, g, []string{s, s}, s)
	}
	callGraph(impl.Graph{Top: texts}, impl.Graph{}, texts, "")
	callGraph(good, impl.Graph{Top: texts}, texts, "a@1.0.0")
	long := graphOf("*a", "b")
	long.Top = slices.Repeat(keyList("a"), 100000)
	long.Packs[1].Needs = slices.Repeat(keyList("a"), 100000)
	huge := numberedGraph(20000)
	callGraph(long, huge, long.Top, "a@1.0.0")
	callGraph(huge, long, huge.Top, "p1001@1.0.0")
	callGraph(good, good, slices.Repeat(keysOf(good), 10000), "a@1.0.0")
	for _, g := range badGraphs() {
		callGraph(g, good, keysOf(g), "a@1.0.0")
	}
}

// spareGraph returns g in memory of its own, with spare capacity behind every slice.
func spareGraph(g impl.Graph) impl.Graph {
	packs := []impl.Pack{}
	for _, p := range g.Packs {
		needs, _ := spareList(ownTexts(p.Needs)...)
		sums := []impl.Sum{}
		for _, s := range p.Sums {
			sums = append(sums, impl.Sum{Alg: strings.Clone(s.Alg), Bytes: strings.Clone(s.Bytes)})
		}
		sums = append(sums, impl.Sum{Alg: "spare"}, impl.Sum{Alg: "spare"})[:len(sums)]
		packs = append(packs, impl.Pack{Name: strings.Clone(p.Name), Version: strings.Clone(p.Version), Source: strings.Clone(p.Source), Sums: sums, Dev: p.Dev, Needs: needs})
	}
	packs = append(packs, impl.Pack{Name: "spare"}, impl.Pack{Name: "spare"})[:len(packs)]
	top, _ := spareList(ownTexts(g.Top)...)
	return impl.Graph{Top: top, Packs: packs}
}

func ownTexts(list []string) []string {
	own := []string{}
	for _, s := range list {
		own = append(own, strings.Clone(s))
	}
	return own
}

// withSpare returns g with all its slices extended to their capacity.
func withSpare(g impl.Graph) impl.Graph {
	full := impl.Graph{Top: g.Top[:cap(g.Top)], Packs: slices.Clone(g.Packs[:cap(g.Packs)])}
	for i, p := range full.Packs {
		full.Packs[i].Sums = p.Sums[:cap(p.Sums)]
		full.Packs[i].Needs = p.Needs[:cap(p.Needs)]
	}
	return full
}

// memoryGraphs returns graphs of all kinds: valid and not, with and without cycles, small and large.
func memoryGraphs() []impl.Graph {
	list := []impl.Graph{{}, richGraph(), numberedGraph(40), numberedGraph(30), graphOf("*a b", "b a", "c c"), graphOf("*p1 z", "z"), numberedGraph(41), graphOf("*b", "a"), graphOf("*a c b", "b", "c")}
	bad := richGraph()
	bad.Top = append(bad.Top, "x")
	return append(list, bad)
}

func TestPromise16GraphArguments(t *testing.T) {
	for _, x := range memoryGraphs() {
		for _, y := range memoryGraphs() {
			a, b := spareGraph(x), spareGraph(y)
			from, memory := spareList("z@1.0.0", "a@1.0.0", "x", "a@1.0.0", "p1000@1.0.0")
			wantA, wantB, wantFrom := cloneGraph(withSpare(a)), cloneGraph(withSpare(b)), slices.Clone(memory)
			callGraph(a, b, from, "a@1.0.0")
			callGraph(a, b, a.Top, "p1003@1.0.0")
			if !reflect.DeepEqual(withSpare(a), wantA) || !reflect.DeepEqual(withSpare(b), wantB) {
				t.Errorf("the graph %+v or %+v was modified", x, y)
			}
			if !slices.Equal(memory, wantFrom) {
				t.Errorf("the list was modified: %q", memory)
			}
		}
	}
}

// span is a piece of memory. It holds a pointer rather than an address, so that the memory is not freed and given to a later result.
type span struct {
	start unsafe.Pointer
	size  uintptr
}

func textSpan(s string) span {
	return span{unsafe.Pointer(unsafe.StringData(s)), uintptr(len(s))}
}

func listSpan[T any](list []T) span {
	var element T
	return span{unsafe.Pointer(unsafe.SliceData(list)), uintptr(cap(list)) * unsafe.Sizeof(element)}
}

// meets reports whether two spans, neither of them empty, overlap.
func (a span) meets(b span) bool {
	x, y := uintptr(a.start), uintptr(b.start)
	return a.size > 0 && b.size > 0 && x < y+b.size && y < x+a.size
}

func keySpans(list []string) []span {
	spans := []span{listSpan(list)}
	for _, s := range list {
		spans = append(spans, textSpan(s))
	}
	return spans
}

func graphSpans(g impl.Graph) []span {
	spans := append(keySpans(g.Top), listSpan(g.Packs))
	for _, p := range g.Packs {
		spans = append(spans, textSpan(p.Name), textSpan(p.Version), textSpan(p.Source), listSpan(p.Sums))
		for _, s := range p.Sums {
			spans = append(spans, textSpan(s.Alg), textSpan(s.Bytes))
		}
		spans = append(spans, keySpans(p.Needs)...)
	}
	return spans
}

func checkSpans(t *testing.T, what string, results []span, arguments []span) {
	t.Helper()
	for i, a := range results {
		for k, b := range slices.Concat(results[:i], arguments) {
			if a.meets(b) {
				with := "an argument"
				if k < i {
					with = "another part of it"
				}
				t.Errorf("the result of %s shares memory with %s", what, with)
				return
			}
		}
	}
}

func TestPromise16GraphMemory(t *testing.T) {
	for _, x := range memoryGraphs() {
		a := spareGraph(x)
		arguments := graphSpans(a)
		from := ownTexts(keysOf(a))
		all := append(keySpans(from), arguments...)
		checkSpans(t, "Reach", keySpans(impl.Reach(a, from)), all)
		checkSpans(t, "Reach", keySpans(impl.Reach(a, a.Top)), arguments)
		checkSpans(t, "Prune", graphSpans(impl.Prune(a)), arguments)
		order, _ := impl.Order(a)
		checkSpans(t, "Order", keySpans(order), arguments)
		checkSpans(t, "GraphText", []span{textSpan(impl.GraphText(a))}, arguments)
		for _, key := range from {
			name, version := impl.SplitKey(key)
			checkSpans(t, "SplitKey", []span{textSpan(name), textSpan(version)}, all)
			checkSpans(t, "Users", keySpans(impl.Users(a, key)), all)
			checkSpans(t, "Why", keySpans(impl.Why(a, key)), all)
			checkSpans(t, "Versions", keySpans(impl.Versions(a, name)), append(all, textSpan(name)))
		}
		for _, p := range a.Packs {
			checkSpans(t, "KeyOf", []span{textSpan(impl.KeyOf(p))}, arguments)
		}
		for _, y := range memoryGraphs() {
			b := spareGraph(y)
			checkSpans(t, "Together", graphSpans(impl.Together(a, b)), append(graphSpans(b), arguments...))
		}
		checkSpans(t, "Together", graphSpans(impl.Together(a, a)), arguments)
	}
}
