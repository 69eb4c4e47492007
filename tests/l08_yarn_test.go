package tests

import (
	"math/rand"
	"reflect"
	"regexp"
	"slices"
	"strconv"
	"strings"
	"testing"

	"loop.example/g00445/impl"
)

const (
	maxPacks = 40
	maxHeads = 8
)

const (
	goodSource = "https://x.example/a.tgz"
	goodSum    = "sha1-MTIzNDU2Nzg5MDEyMzQ1Njc4OTA="
	goodSum256 = "sha256-MTIzNDU2Nzg5MDEyMzQ1Njc4OTAxMjM0NTY3ODkwMTI="
	goodSum512 = "sha512-MTIzNDU2Nzg5MDEyMzQ1Njc4OTAxMjM0NTY3ODkwMTIzNDU2Nzg5MDEyMzQ1Njc4OTAxMjM0NTY3ODkwMTIzNA=="
)

// eightRanges are in ascending order, and each contains 1.0.0.
const eightRanges = "*,1,1.0,1.0.0,<2.0.0,>=1.0.0,^1.0.0,~1.0.0"

// The lines of a file with one entry.
const (
	yarnTitle  = "# yarn lockfile v1\n"
	headsA     = "\"a@*\":\n"
	version1   = "  version \"1.0.0\"\n"
	resolvedX  = "  resolved \"x\"\n"
	integrity1 = "  integrity " + goodSum + "\n"
	needsTitle = "  dependencies:\n"
	needB      = "    \"b\" \"*\"\n"
	entryA     = "\n" + headsA + version1
)

// needOf divides the text at its last @.
func needOf(s string) impl.Need {
	at := strings.LastIndexByte(s, '@')
	return impl.Need{Name: s[:at], Range: s[at+1:]}
}

func needsOf(texts ...string) []impl.Need {
	list := []impl.Need{}
	for _, s := range texts {
		list = append(list, needOf(s))
	}
	return list
}

// headsOf returns a head of that Name for each of the ranges, which stand in one text with commas between them.
func headsOf(name string, ranges string) []impl.Need {
	list := []impl.Need{}
	for text := range strings.SplitSeq(ranges, ",") {
		list = append(list, impl.Need{Name: name, Range: text})
	}
	return list
}

// entryOf takes the ranges of the heads as headsOf does, and the needs as needsOf.
func entryOf(name string, ranges string, version string, needs ...string) impl.Entry {
	return impl.Entry{Heads: headsOf(name, ranges), Version: version, Needs: needsOf(needs...)}
}

func withSource(e impl.Entry, resolved string, integrity string) impl.Entry {
	e.Resolved, e.Integrity = resolved, integrity
	return e
}

func entriesOf(list ...impl.Entry) []impl.Entry { return list }

// fullEntry has all the parts that an entry may have.
func fullEntry(name string) impl.Entry {
	e := entryOf(name, "*,^1.0.0,~1.2.0", "1.2.0", "b@*", "c@>=1.0.0 <2.0.0", "d@^2.0.0-rc.1")
	return withSource(e, goodSource, goodSum+" "+goodSum256)
}

// manyEntries returns that many entries, with one head each.
func manyEntries(size int) []impl.Entry {
	list := []impl.Entry{}
	for i := range size {
		list = append(list, entryOf("p"+strconv.Itoa(1000+i), "*", "1.0.0"))
	}
	return list
}

// manyNeeds returns that many needs, in ascending order of Name.
func manyNeeds(size int) []impl.Need {
	list := []impl.Need{}
	for i := range size {
		list = append(list, impl.Need{Name: "n" + strconv.Itoa(1000000+i), Range: "*"})
	}
	return list
}

// goodEntries returns valid lists of entries with what stands behind the title in their files.
func goodEntries() map[string][]impl.Entry {
	a, needy := entryOf("a", "*", "1.0.0"), entryOf("a", "*", "1.0.0", "b@*")
	sums := goodSum + " " + goodSum256 + " " + goodSum512
	return map[string][]impl.Entry{
		"":                 {},
		entryA:             {a},
		entryA + resolvedX: {withSource(a, "x", "")},
		entryA + "  resolved \"https://x.example/a?b=c#:@[]{}\"\n": {withSource(a, "https://x.example/a?b=c#:@[]{}", "")},
		entryA + integrity1:                                     {withSource(a, "", goodSum)},
		entryA + "  integrity " + sums + "\n":                   {withSource(a, "", sums)},
		entryA + needsTitle + needB:                             {needy},
		entryA + resolvedX + integrity1:                         {withSource(a, "x", goodSum)},
		entryA + resolvedX + needsTitle + needB:                 {withSource(needy, "x", "")},
		entryA + integrity1 + needsTitle + needB:                {withSource(needy, "", goodSum)},
		entryA + resolvedX + integrity1 + needsTitle + needB:    {withSource(needy, "x", goodSum)},
		"\n\"@org/ui@1.0.0\", \"@org/ui@^1.0.0\":\n" + version1: {entryOf("@org/ui", "1.0.0,^1.0.0", "1.0.0")},
		// a range stays as it is written; two that contain the same versions are two
		"\n\"a@>=1.0.0 <2.0.0-0\":\n" + version1 + "\n\"a@^1.0.0\":\n" + version1:  {entryOf("a", ">=1.0.0 <2.0.0-0", "1.0.0"), entryOf("a", "^1.0.0", "1.0.0")},
		"\n\"a@1 || 2.0.0-a\", \"a@>=2.0.0-a <2.0.0-b\":\n  version \"2.0.0-a\"\n": {entryOf("a", "1 || 2.0.0-a,>=2.0.0-a <2.0.0-b", "2.0.0-a")},
		// needs ascend by Name alone, entries by Name, @ and Range
		entryA + needsTitle + "    \"0\" \"1.2\"\n    \"@b/c\" \">=1.0.0 <2.0.0\"\n    \"a\" \"*\"\n    \"a-b\" \"~1.0.0\"\n    \"a.b\" \"1\"\n    \"a0\" \"^0.0.1-a\"\n": {
			entryOf("a", "*", "1.0.0", "0@1.2", "@b/c@>=1.0.0 <2.0.0", "a@*", "a-b@~1.0.0", "a.b@1", "a0@^0.0.1-a"),
		},
		"\n\"a-b@*\":\n" + version1 + "\n\"a/b@*\":\n" + version1 + entryA + "\n\"ab@*\":\n" + version1: {entryOf("a-b", "*", "1.0.0"), entryOf("a/b", "*", "1.0.0"), a, entryOf("ab", "*", "1.0.0")},
		"\n\"@a/a@*\":\n" + version1 + "\n\"@a@*\":\n" + version1 + entryA:                              {entryOf("@a/a", "*", "1.0.0"), entryOf("@a", "*", "1.0.0"), a},
		// entries of one Name stand in the order of their first heads, whatever the other ones
		"\n\"a@*\", \"a@~1.0.0\":\n" + version1 + "\n\"a@1\":\n" + version1 + "\n\"a@1.0\", \"a@1.0.0\":\n" + version1 + "\n\"b@*\", \"b@~1.0.0\":\n" + version1: {
			entryOf("a", "*,~1.0.0", "1.0.0"), entryOf("a", "1", "1.0.0"), entryOf("a", "1.0,1.0.0", "1.0.0"), entryOf("b", "*,~1.0.0", "1.0.0"),
		},
		// a need may be a head of its own entry, of another one and of none, and several entries may have it
		"\n\"a@*\":\n" + version1 + needsTitle + "    \"a\" \"*\"\n    \"b\" \"*\"\n" + "\n\"b@*\":\n" + version1 + needsTitle + "    \"a\" \"*\"\n    \"b\" \"1\"\n": {
			entryOf("a", "*", "1.0.0", "a@*", "b@*"), entryOf("b", "*", "1.0.0", "a@*", "b@1"),
		},
	}
}

// edgeEntries returns valid lists of entries that meet a limit or nearly do.
func edgeEntries() [][]impl.Entry {
	long := "https://" + strings.Repeat("x", 92)
	wide := ">=" + versionOfSize(98) + " <" + versionOfSize(98)
	list := [][]impl.Entry{
		manyEntries(maxPacks - 1), manyEntries(maxPacks),
		{withSource(entryOf("a", "*", "1.0.0"), long, goodSum512)}, {withSource(entryOf("a", "*", "1.0.0"), long[1:], "")},
		{entryOf("a", "*", "1.0.0", "b@"+wide)}, {{Heads: headsOf("a", "*"), Version: "1.0.0", Needs: manyNeeds(1000)}},
		{entryOf("a", ">=1.0.0-0 || 1 || 1 || 1 || 1 || 1 || 1 || 1", "1.0.0-0")},
	}
	for size := 1; size <= maxHeads; size++ {
		e := entryOf("a", eightRanges, "1.0.0")
		e.Heads = e.Heads[:size]
		list = append(list, entriesOf(e))
	}
	for _, name := range purlNames() {
		list = append(list, entriesOf(entryOf(name, "*,1.0.0", "1.0.0", name+"@*")))
	}
	for s := range rangeForms() {
		if len(s) <= 200 {
			list = append(list, entriesOf(entryOf("a", "*", "1.0.0", "b@"+s)))
		}
	}
	return list
}

// noRanges are texts that ReadRange does not accept.
func noRanges() []string {
	return []string{"", " ", "x", "**", "1.x", "1.2.3.4", "01", ">1.0.0", "<=1.0.0", "1 ||2", "1 || ", " *", "* ", "^1", "1.0.0-", "999999999", "1.0.0-a.b.c.d.e", "latest", "1@2", "a@1", "*\n", "\"*\"", "\xff", ">=" + versionOfSize(99) + " <" + versionOfSize(98), strings.Repeat("* || ", 8) + "*"}
}

// badNeeds returns needs that are invalid each.
func badNeeds() []impl.Need {
	list := []impl.Need{{}}
	for _, name := range badNames() {
		list = append(list, impl.Need{Name: name, Range: "*"})
	}
	for _, text := range noRanges() {
		list = append(list, impl.Need{Name: "b", Range: text})
	}
	return list
}

// noIntegrities are texts that GetIntegrity does not accept.
func noIntegrities() []string {
	return []string{"x", " ", "sha1", "sha1-", "sha1-YQ==", "h1-MTIzNDU2Nzg5MDEyMzQ1Njc4OTAxMjM0NTY3ODkwMTI=", goodSum + " ", " " + goodSum, goodSum + "  " + goodSum256, goodSum256 + " " + goodSum, goodSum + " " + goodSum, goodSum + "\n", goodSum[:32], "\"" + goodSum + "\"", "sha1-MTIzNDU2Nzg5MDEyMzQ1Njc4OTB=", "md5-YQ=="}
}

// badHeads returns lists that are not the Heads of an entry of any version.
func badHeads() [][]impl.Need {
	nine := headsOf("a", "*,1,1.0,1.0.0,<2.0.0,<3.0.0,>=1.0.0,^1.0.0,~1.0.0")
	list := [][]impl.Need{
		nil, {}, nine, append(slices.Clip(nine), needOf("a@~1.0.1")), slices.Repeat(headsOf("a", "*"), 1000),
		needsOf("a@*", "b@*"), needsOf("a@*", "b@^1.0.0"), needsOf("b@*", "a@^1.0.0"), needsOf("a@*", "a@1", "b@1.0"), needsOf("a@*", "b@1", "a@1.0"), needsOf("a@*", "@a@1"), needsOf("a@*", "ab@1"), needsOf("a@1", "b@*"),
		headsOf("a", "1,*"), headsOf("a", "*,1.0,1"), headsOf("a", "^1.0.0,*"), headsOf("a", "~1.0.0,^1.0.0"), headsOf("a", "1,*,~1.0.0"),
		headsOf("a", "*,*"), headsOf("a", "1,1"), headsOf("a", "*,1,1"), headsOf("a", "*,*,1"), headsOf("a", "*,1,*"),
		append(headsOf("a", eightRanges), needOf("b@*")),
	}
	for _, n := range badNeeds() {
		list = append(list, []impl.Need{n}, append(headsOf(n.Name, "*"), n), append([]impl.Need{n}, headsOf(n.Name, "~1.0.0")...))
	}
	return list
}

// badEntryParts returns entries, each with the Name b and the only head *, of which one part is invalid.
func badEntryParts() []impl.Entry {
	good := entryOf("b", "*", "1.0.0")
	list := []impl.Entry{}
	for _, version := range append(noVersions(), "1.0.0-a", "1.0.0-0", "999999999.999999999.999999999") {
		e := good
		e.Version = version // none of these is in all the ranges below
		list = append(list, e)
	}
	list[len(list)-1].Heads = headsOf("b", "*,<2.0.0")
	for _, c := range []struct{ ranges, version string }{
		{"^1.0.0", "2.0.0"}, {"1.0.0", "1.0.1"}, {"*,^1.0.0", "2.0.0"}, {"*,1,^1.1.0", "1.0.0"}, {"1,^1.1.0,~1.0.0", "1.0.0"}, {"1.1.0,^1.0.0", "1.0.0"}, {"1.0.0-a,1.0.0-b", "1.0.0-a"}, {"*,1.0.0-a", "1.0.0-a"}, {">=2.0.0 <1.0.0", "1.5.0"},
	} {
		list = append(list, entryOf("b", c.ranges, c.version))
	}
	resolved := []string{"a b", "a,b", "a\"b", "a'b", "a\\b", "\n", "\x00", "\x7f", "\u00e9", "\xff", " ", "x ", strings.Repeat("x", 101)}
	for _, text := range resolved {
		list = append(list, withSource(good, text, ""), withSource(good, text, goodSum))
	}
	for _, text := range noIntegrities() {
		list = append(list, withSource(good, "", text), withSource(good, "x", text))
	}
	for _, needs := range [][]impl.Need{
		needsOf("b@*", "a@*"), needsOf("a@*", "c@*", "b@*"), needsOf("a-b@*", "a@*"), needsOf("a@1", "@a@2"), needsOf("b@1", "a@2"), needsOf("c@*", "a@*", "b@*"),
		needsOf("a@*", "a@*"), needsOf("a@1", "a@2"), needsOf("a@2", "a@1"), needsOf("a@*", "b@*", "b@^1.0.0"), needsOf("a@*", "b@*", "a@*"),
	} {
		list = append(list, impl.Entry{Heads: good.Heads, Version: "1.0.0", Needs: needs})
	}
	for _, n := range badNeeds() {
		list = append(list, impl.Entry{Heads: good.Heads, Version: "1.0.0", Needs: []impl.Need{n}}, impl.Entry{Heads: good.Heads, Version: "1.0.0", Needs: []impl.Need{n, needOf("zzz@*")}})
	}
	return list
}

// doubleHeads returns lists of entries that are invalid for the one reason that a need is a head of two entries.
func doubleHeads() [][]impl.Entry {
	a := func(ranges string) impl.Entry { return entryOf("a", ranges, "1.0.0") }
	ends := []impl.Entry{}
	for i := range maxPacks {
		ends = append(ends, a(">=0.0."+strconv.Itoa(1000+i)))
	}
	for _, at := range []int{0, maxPacks - 1} {
		ends[at].Heads = append(ends[at].Heads, needOf("a@~1.0.0"))
	}
	return [][]impl.Entry{
		// next to each other: the second of one and the first of the next, two that are not first, the last ones
		{a("*,1"), a("1")}, {a("*,1"), a("1,1.0")}, {a("*,1.0"), a("1,1.0")}, {a("*,^1.0.0"), a("1,^1.0.0")}, {a("*,1.0,~1.0.0"), a("1,>=1.0.0,~1.0.0")}, {a("*,>=1.0.0"), a("1,1.0,1.0.0,<2.0.0,>=1.0.0")},
		{a(eightRanges), a("1")}, {a(eightRanges), a("~1.0.0")}, {a(eightRanges), a("1.0.0,<3.0.0")}, {a("*,~1.0.0"), a("1,1.0,1.0.0,<2.0.0,>=1.0.0,>=1.0.0 <2.0.0,^1.0.0,~1.0.0")},
		// further apart
		{a("*,1.0"), a("1"), a("1.0")}, {a("*,^1.0.0"), a("1"), a("1.0,^1.0.0")}, {a("*,~1.0.0"), a("1"), a("1.0"), a("1.0.0"), a("^1.0.0,~1.0.0")}, {a("*"), a("1,^1.0.0"), a("1.0"), a("1.0.0,^1.0.0"), entryOf("b", "*", "1.0.0")},
		{a("*,1,1.0"), a("1.0.0"), a("^1.0.0"), a("~1.0.0"), entryOf("b", "*,~1.0.0", "1.0.0"), entryOf("b", "1,~1.0.0", "1.0.0")},
		// other versions, and three times
		{entryOf("a", "*,^1.0.0", "1.0.0"), entryOf("a", "1,^1.0.0", "1.5.0")}, {a("*,~1.0.0"), a("1,~1.0.0"), a("1.0,~1.0.0")},
		ends,
	}
}

// badEntries returns invalid lists of entries.
func badEntries() [][]impl.Entry {
	a, b, c := entryOf("a", "*", "1.0.0"), entryOf("b", "*", "1.0.0"), entryOf("c", "*", "1.0.0")
	list := [][]impl.Entry{
		{{}}, {{}, a}, {a, {}}, make([]impl.Entry, 10000), manyEntries(maxPacks + 1), manyEntries(2 * maxPacks), slices.Repeat(entriesOf(a), 2), slices.Repeat(entriesOf(a), maxPacks),
		// out of order, or equal
		{b, a}, {a, c, b}, {b, a, c}, {c, b, a}, {a, a}, {a, b, a}, {a, b, b}, {a, entryOf("@a", "*", "1.0.0")}, {a, entryOf("a-b", "*", "1.0.0")}, {entryOf("ab", "*", "1.0.0"), a}, {a, entryOf("a/b", "*", "1.0.0")}, {a, entryOf("a0", "*", "1.0.0")},
		{entryOf("a", "1", "1.0.0"), a}, {entryOf("a", "^1.0.0", "1.0.0"), entryOf("a", "1", "1.0.0")}, {entryOf("a", "1,1.0", "1.0.0"), entryOf("a", "*,~1.0.0", "1.0.0")}, {a, entryOf("a", "*", "2.0.0")}, {a, entryOf("a", "*,1", "1.0.0")},
	}
	list = append(list, doubleHeads()...)
	for _, heads := range badHeads() {
		e := impl.Entry{Heads: heads, Version: "1.0.0"}
		list = append(list, entriesOf(e), entriesOf(withSource(e, "x", goodSum)))
	}
	for _, e := range badEntryParts() {
		list = append(list, entriesOf(e), entriesOf(a, e), entriesOf(e, c), entriesOf(a, e, c))
	}
	return list
}

func TestEntriesOf(t *testing.T) {
	good := append(edgeEntries(), nil, entriesOf(impl.Entry{Heads: headsOf("a", "*"), Version: "1.0.0", Needs: []impl.Need{}}))
	for _, list := range goodEntries() {
		good = append(good, list)
	}
	for _, list := range good {
		if !impl.EntriesOf(list) || !isEntries(list) {
			t.Errorf("EntriesOf(%s) is %v", brief(list), impl.EntriesOf(list))
		}
	}
	for i, list := range badEntries() {
		if impl.EntriesOf(list) || isEntries(list) {
			t.Errorf("EntriesOf of the invalid list %d: %s is %v", i, brief(list), impl.EntriesOf(list))
		}
		if got := impl.PutYarn(list); got != "" {
			t.Errorf("PutYarn of the invalid list %d: %s = %.300q", i, brief(list), got)
		}
	}
	for i, list := range doubleHeads() {
		if !inOrder(list) || singleHeads(list) {
			t.Errorf("list %d is invalid for another reason: %s", i, brief(list))
		}
	}
}

func isNeed(n impl.Need) bool {
	_, ok := wantRange(n.Range)
	return ok && impl.NameOk(n.Name)
}

// ascends reports whether the list is in ascending order, without equal elements.
func ascends(list []string) bool {
	sorted := slices.Clone(list)
	slices.Sort(sorted)
	return slices.Equal(slices.Compact(sorted), list)
}

func isEntry(e impl.Entry) bool {
	ranges, names := []string{}, []string{}
	for _, head := range e.Heads {
		bounds, _ := wantRange(head.Range)
		if !isNeed(head) || head.Name != e.Heads[0].Name || !impl.In(e.Version, bounds) {
			return false
		}
		ranges = append(ranges, head.Range)
	}
	for _, n := range e.Needs {
		if !isNeed(n) {
			return false
		}
		names = append(names, n.Name)
	}
	_, ok := wantSums(e.Integrity)
	return ok && impl.PlainOk(e.Resolved) && len(ranges) >= 1 && len(ranges) <= maxHeads && ascends(ranges) && ascends(names)
}

// inOrder reports whether each entry is one and they ascend by their first heads.
func inOrder(list []impl.Entry) bool {
	firsts := []string{}
	for _, e := range list {
		if !isEntry(e) {
			return false
		}
		firsts = append(firsts, e.Heads[0].Name+"@"+e.Heads[0].Range)
	}
	return ascends(firsts)
}

// singleHeads reports whether no need is a head of two entries.
func singleHeads(list []impl.Entry) bool {
	for i, e := range list {
		for _, other := range list[:i] {
			if slices.ContainsFunc(e.Heads, func(n impl.Need) bool { return slices.Contains(other.Heads, n) }) {
				return false
			}
		}
	}
	return true
}

// isEntries tells by the document's text what EntriesOf returns.
func isEntries(list []impl.Entry) bool {
	return len(list) <= maxPacks && inOrder(list) && singleHeads(list)
}

func sameEntry(a impl.Entry, b impl.Entry) bool {
	return slices.Equal(a.Heads, b.Heads) && a.Version == b.Version && a.Resolved == b.Resolved && a.Integrity == b.Integrity && slices.Equal(a.Needs, b.Needs)
}

// sameEntries compares without the program; nil and empty slices are equal.
func sameEntries(a []impl.Entry, b []impl.Entry) bool { return slices.EqualFunc(a, b, sameEntry) }

func TestNeedText(t *testing.T) {
	cases := map[impl.Need]string{
		{Name: "a", Range: "*"}:                     `"a@*"`,
		{Name: "@org/ui", Range: "^1.0.0"}:          `"@org/ui@^1.0.0"`,
		{Name: "a", Range: ">=1.0.0 <2.0.0"}:        `"a@>=1.0.0 <2.0.0"`,
		{Name: "a", Range: "1 || >=2.0.0 <3.0.0-0"}: `"a@1 || >=2.0.0 <3.0.0-0"`,
		{}:                           `"@"`,
		{Name: "a"}:                  `"a@"`,
		{Range: "1"}:                 `"@1"`,
		{Name: "A b", Range: "x@y"}:  `"A b@x@y"`,
		{Name: "\"", Range: "\\"}:    `"\"@\\"`,
		{Name: "\n", Range: "\x00"}:  `"\n@\x00"`,
		{Name: "\xff", Range: "\t'"}: `"\xff@\x09'"`,
	}
	for n, want := range cases {
		if got := impl.NeedText(n); got != want {
			t.Errorf("NeedText(%+q) = %s, want %s", n, got, want)
		}
	}
	for _, s := range byteTexts() {
		if got, want := impl.NeedText(impl.Need{Name: s, Range: s}), impl.Quote(s+"@"+s); got != want {
			t.Errorf("NeedText of %.100q twice = %.100s", s, got)
		}
	}
}

// checkReadNeed checks what ReadNeed returns for s by the document's grammar: a Range contains no @, so the last one divides.
func checkReadNeed(t *testing.T, s string) bool {
	t.Helper()
	want, wantOk := impl.Need{}, false
	if strings.Contains(s, "@") && isNeed(needOf(s)) {
		want, wantOk = needOf(s), true
	}
	if got, ok := impl.ReadNeed(s); ok != wantOk || got != want {
		t.Errorf("ReadNeed(%.300q) = %+q, %v; want %+q, %v", s, got, ok, want, wantOk)
	}
	return wantOk
}

func TestReadNeed(t *testing.T) {
	good := map[string]impl.Need{
		"a@*":                    {Name: "a", Range: "*"},
		"@a@1":                   {Name: "@a", Range: "1"},
		"@org/ui@^1.0.0":         {Name: "@org/ui", Range: "^1.0.0"},
		"a/b@>=1.0.0 <2.0.0":     {Name: "a/b", Range: ">=1.0.0 <2.0.0"},
		"left-pad@1 || ~2.0.0-a": {Name: "left-pad", Range: "1 || ~2.0.0-a"},
	}
	for s, want := range good {
		if got, ok := impl.ReadNeed(s); !ok || got != want {
			t.Errorf("ReadNeed(%q) = %+q, %v", s, got, ok)
		}
	}
	bad := []string{
		"", "a", "*", "1.0.0", "@", "@@", "@@@", "a@", "@a", "@a@", "@*", "@1.0.0", "a@x", "@@*", "a@*@", "a@*@*", "a@b@*", "a@1@2", "a@@*", "@a@b@*", "@a@@*", "@@a@*", "a@@", "a@ *", "a@* ", " a@*", "a @*", "A@*",
		"a//b@*", "/@*", "@/@*", "node_modules@*", "a@1.x", "a@^1", "a@1.0.0,2.0.0", "a#*", "a@*\n", "\"a@*\"", strings.Repeat("a", 61) + "@*", "a@" + strings.Repeat("* || ", 8) + "*", "a@>=" + versionOfSize(99) + " <" + versionOfSize(98),
	}
	for _, s := range bad {
		if checkReadNeed(t, s) {
			t.Errorf("the test's own reading accepts %q", s)
		}
	}
	for _, n := range badNeeds() {
		if checkReadNeed(t, n.Name+"@"+n.Range) {
			t.Errorf("the test's own reading accepts %+q", n)
		}
	}
	for _, name := range purlNames() {
		for text := range rangeForms() {
			s := name + "@" + text
			if got, ok := impl.ReadNeed(s); !ok || got != (impl.Need{Name: name, Range: text}) {
				t.Errorf("ReadNeed(%q) = %+q, %v", s, got, ok)
			}
		}
	}
}

func TestReadNeedOtherTexts(t *testing.T) {
	texts := append(byteTexts(), allTexts("@a/1*. ", 6)...)
	for _, s := range []string{"a@*", "@org/ui@^1.0.0", "a/b@>=1.0.0 <2.0.0 || 3"} {
		texts = append(texts, nearTexts(s)...)
	}
	taken := 0
	for _, s := range texts {
		if checkReadNeed(t, s) {
			taken++
			n, _ := impl.ReadNeed(s)
			if got := impl.NeedText(n); got != impl.Quote(s) {
				t.Errorf("NeedText of ReadNeed(%q) = %s", s, got)
			}
		}
	}
	if taken < 1000 || len(texts)-taken < 50000 {
		t.Errorf("%d of %d texts are needs", taken, len(texts))
	}
}

// wantPutYarn writes the document's file of the entries, valid or not.
func wantPutYarn(list []impl.Entry) string {
	text := yarnTitle
	for _, e := range list {
		heads := []string{}
		for _, head := range e.Heads {
			heads = append(heads, impl.Quote(head.Name+"@"+head.Range))
		}
		text += "\n" + strings.Join(heads, ", ") + ":\n  version " + impl.Quote(e.Version) + "\n"
		if e.Resolved != "" {
			text += "  resolved " + impl.Quote(e.Resolved) + "\n"
		}
		if e.Integrity != "" {
			text += "  integrity " + e.Integrity + "\n"
		}
		for i, n := range e.Needs {
			if i == 0 {
				text += "  dependencies:\n"
			}
			text += "    " + impl.Quote(n.Name) + " " + impl.Quote(n.Range) + "\n"
		}
	}
	return text
}

// yarnForms are the lines of a file, and yarnFollowers tells which ones may come after each.
var yarnForms = map[string]*regexp.Regexp{
	"gap":       regexp.MustCompile(`^$`),
	"heads":     regexp.MustCompile(`^(` + quoteForm + `(?:, ` + quoteForm + `)*):$`),
	"version":   regexp.MustCompile(`^  version (` + quoteForm + `)$`),
	"resolved":  regexp.MustCompile(`^  resolved (` + quoteForm + `)$`),
	"integrity": regexp.MustCompile(`^  integrity (.+)$`),
	"needs":     regexp.MustCompile(`^  dependencies:$`),
	"need":      regexp.MustCompile(`^    (` + quoteForm + `) (` + quoteForm + `)$`),
}

var yarnFollowers = map[string][]string{
	"title":     {"gap"},
	"gap":       {"heads"},
	"heads":     {"version"},
	"version":   {"resolved", "integrity", "needs", "gap"},
	"resolved":  {"integrity", "needs", "gap"},
	"integrity": {"needs", "gap"},
	"needs":     {"need"},
	"need":      {"need", "gap"},
}

var quoteParts = regexp.MustCompile(quoteForm)

// putYarnLine adds to the entries what the line of that form, with these parts, says, and reports whether it fits: heads that are no needs do not.
func putYarnLine(list []impl.Entry, form string, parts []string) ([]impl.Entry, bool) {
	if form == "gap" {
		return append(list, impl.Entry{}), true
	}
	e := &list[len(list)-1]
	switch form {
	case "heads":
		for _, quoted := range quoteParts.FindAllString(parts[1], -1) {
			s := unquoted(quoted)
			if !strings.Contains(s, "@") || !isNeed(needOf(s)) {
				return list, false
			}
			e.Heads = append(e.Heads, needOf(s))
		}
	case "version":
		e.Version = unquoted(parts[1])
	case "resolved":
		e.Resolved = unquoted(parts[1])
	case "integrity":
		e.Integrity = parts[1]
	case "need":
		e.Needs = append(e.Needs, impl.Need{Name: unquoted(parts[1]), Range: unquoted(parts[2])})
	}
	return list, true
}

// wantYarn tells by the forms of the lines what GetYarn returns.
func wantYarn(s string) ([]impl.Entry, int) {
	lines := strings.Split(s, "\n")
	if len(s) > maxFile || lines[0]+"\n" != yarnTitle {
		return nil, 1
	}
	if lines[len(lines)-1] != "" {
		return nil, len(lines)
	}
	lines = lines[:len(lines)-1]
	list, last := []impl.Entry{}, "title"
	for i, line := range lines[1:] {
		at := slices.IndexFunc(yarnFollowers[last], func(form string) bool { return yarnForms[form].MatchString(line) })
		if at < 0 {
			return nil, i + 2
		}
		last = yarnFollowers[last][at]
		more, fits := putYarnLine(list, last, yarnForms[last].FindStringSubmatch(line))
		if !fits {
			return nil, i + 2
		}
		list = more
	}
	switch {
	case !slices.Contains(yarnFollowers[last], "gap"):
		return nil, len(lines)
	case !isEntries(list) || wantPutYarn(list) != s:
		return nil, 1
	}
	return list, 0
}

// checkYarn checks what GetYarn returns for s, and that PutYarn writes s again if it takes it.
func checkYarn(t *testing.T, s string) int {
	t.Helper()
	want, wantLine := wantYarn(s)
	got, line := impl.GetYarn(s)
	if line != wantLine || !sameEntries(got, want) {
		t.Errorf("GetYarn(%.500q) = %s, %d; want %s, %d", s, brief(got), line, brief(want), wantLine)
	}
	if line == 0 && (impl.PutYarn(got) != s || !impl.EntriesOf(got)) {
		t.Errorf("GetYarn(%.500q) is written as %.500q", s, impl.PutYarn(got))
	}
	return wantLine
}

func checkNoEntries(t *testing.T, s string, want int) {
	t.Helper()
	if got, line := impl.GetYarn(s); line != want || len(got) != 0 {
		t.Errorf("GetYarn(%.500q) = %s, %d; want %d", s, brief(got), line, want)
	}
	if got := checkYarn(t, s); got != want {
		t.Errorf("%.500q: the test's own reading returns %d, want %d", s, got, want)
	}
}

// checkEntriesBack checks that the valid list is recovered from its file, and returns the file.
func checkEntriesBack(t *testing.T, list []impl.Entry) string {
	t.Helper()
	text := impl.PutYarn(list)
	if want := wantPutYarn(list); text != want {
		t.Errorf("PutYarn(%s) = %.500q, want %.500q", brief(list), text, want)
	}
	got, line := impl.GetYarn(text)
	if short := len(text) <= maxFile; short != (line == 0) || short != sameEntries(got, list) {
		t.Errorf("%s is written as %.500q and read as %s, %d", brief(list), text, brief(got), line)
	}
	return text
}

func TestPromise8Texts(t *testing.T) {
	for rest, list := range goodEntries() {
		if got := checkEntriesBack(t, list); got != yarnTitle+rest {
			t.Errorf("PutYarn(%v) = %q, want %q", list, got, yarnTitle+rest)
		}
		checkYarn(t, yarnTitle+rest)
	}
	for _, list := range edgeEntries() {
		checkEntriesBack(t, list)
	}
	full := entriesOf(fullEntry("@org/a"), fullEntry("a"))
	want := yarnTitle
	for _, name := range []string{"@org/a", "a"} {
		want += "\n\"" + name + "@*\", \"" + name + "@^1.0.0\", \"" + name + "@~1.2.0\":\n  version \"1.2.0\"\n  resolved \"https://x.example/a.tgz\"\n" +
			"  integrity sha1-MTIzNDU2Nzg5MDEyMzQ1Njc4OTA= sha256-MTIzNDU2Nzg5MDEyMzQ1Njc4OTAxMjM0NTY3ODkwMTI=\n" +
			"  dependencies:\n    \"b\" \"*\"\n    \"c\" \">=1.0.0 <2.0.0\"\n    \"d\" \"^2.0.0-rc.1\"\n"
	}
	if got := checkEntriesBack(t, full); got != want {
		t.Errorf("PutYarn = %q, want %q", got, want)
	}
	// nil and empty lists are written alike
	checkEntriesBack(t, nil)
	checkEntriesBack(t, entriesOf(impl.Entry{Heads: headsOf("a", "*"), Version: "1.0.0", Needs: []impl.Need{}}))
}

// rangesOf returns ranges that contain the version.
func rangesOf(version string) []string {
	core, pre, _ := strings.Cut(version, "-")
	numbers := strings.Split(core, ".")
	list := []string{version, "^" + version, "~" + version, ">=" + version, ">=" + version + " <999999999.0.0", "9 || " + version, version + " || 9"}
	if pre == "" {
		list = append(list, "*", numbers[0], numbers[0]+"."+numbers[1], "<999999999.0.0", "<"+version+" || *")
	}
	return list
}

// randomEntries returns a valid list of entries.
func randomEntries(r *rand.Rand) []impl.Entry {
	names := []string{"a", "a-b", "a/b", "a0", "ab", "@a", "@a/b", "0"}
	versions := []string{"1.0.0", "1.0.1", "1.2.0", "2.0.0", "2.0.0-rc.1", "0.0.1", "0.1.0-0"}
	used := map[impl.Need]bool{}
	list := []impl.Entry{}
	for range r.Intn(10) {
		name, version := names[r.Intn(len(names))], versions[r.Intn(len(versions))]
		e := impl.Entry{Version: version}
		ranges := rangesOf(version)
		for _, at := range r.Perm(len(ranges))[:1+r.Intn(7)] {
			n := impl.Need{Name: name, Range: ranges[at]}
			if !used[n] {
				used[n] = true
				e.Heads = append(e.Heads, n)
			}
		}
		slices.SortFunc(e.Heads, compareRanges)
		for _, at := range r.Perm(len(names))[:r.Intn(4)] {
			needed := rangesOf(versions[r.Intn(len(versions))])
			e.Needs = append(e.Needs, impl.Need{Name: names[at], Range: needed[r.Intn(len(needed))]})
		}
		slices.SortFunc(e.Needs, func(x impl.Need, y impl.Need) int { return strings.Compare(x.Name, y.Name) })
		sums := subsetsOf(randomSums(r))
		e.Integrity = wantPutIntegrity(sums[r.Intn(len(sums))])
		e.Resolved = goodSource[:r.Intn(len(goodSource)+1)]
		if len(e.Heads) > 0 {
			list = append(list, e)
		}
	}
	slices.SortFunc(list, func(x impl.Entry, y impl.Entry) int {
		return strings.Compare(x.Heads[0].Name+"@"+x.Heads[0].Range, y.Heads[0].Name+"@"+y.Heads[0].Range)
	})
	return list
}

func TestPromise8RandomEntries(t *testing.T) {
	r := rand.New(rand.NewSource(8))
	texts := map[string][]impl.Entry{}
	for range 3000 {
		list := randomEntries(r)
		if !impl.EntriesOf(list) || !isEntries(list) {
			t.Fatalf("%+q is not accepted", list)
		}
		text := checkEntriesBack(t, list)
		if other, found := texts[text]; found && !sameEntries(list, other) {
			t.Errorf("%+q and %+q are both written as %q", list, other, text)
		}
		texts[text] = list
	}
	if len(texts) < 2000 {
		t.Errorf("there are only %d files", len(texts))
	}
}

func compareRanges(x impl.Need, y impl.Need) int { return strings.Compare(x.Range, y.Range) }

// addHeadOf adds to e, in order, the last head of the last other entry with the same Name, if there is one.
func addHeadOf(e *impl.Entry, list []impl.Entry) {
	for _, other := range slices.Backward(list) {
		if len(other.Heads) > 0 && other.Heads[0].Name == e.Heads[0].Name && !slices.Equal(other.Heads, e.Heads) {
			e.Heads = append(e.Heads, other.Heads[len(other.Heads)-1])
			slices.SortFunc(e.Heads, compareRanges)
			return
		}
	}
}

// changedEntries returns the list with one part changed, which may make it invalid.
func changedEntries(r *rand.Rand, list []impl.Entry) []impl.Entry {
	changed := []impl.Entry{}
	for _, e := range list {
		e.Heads, e.Needs = slices.Clone(e.Heads), slices.Clone(e.Needs)
		changed = append(changed, e)
	}
	i, k := r.Intn(len(list)), r.Intn(len(list))
	e, other := &changed[i], &changed[k]
	at := r.Intn(len(e.Heads))
	switch r.Intn(10) {
	case 0:
		*e, *other = *other, *e
	case 1:
		e.Heads[at] = other.Heads[r.Intn(len(other.Heads))]
	case 2:
		e.Heads = append(e.Heads, impl.Need{Name: e.Heads[0].Name, Range: other.Heads[r.Intn(len(other.Heads))].Range})
	case 3:
		e.Heads = slices.Delete(e.Heads, at, at+1)
	case 4:
		e.Version = other.Version
	case 5:
		e.Needs = append(e.Needs, other.Needs...)
	case 6:
		e.Heads[at].Name = other.Heads[0].Name
	case 7:
		changed = slices.Delete(changed, i, i+1)
	default:
		addHeadOf(e, changed)
	}
	return changed
}

func TestEntriesOfRandomChanges(t *testing.T) {
	r := rand.New(rand.NewSource(88))
	good, bad, double := 0, 0, 0
	for range 6000 {
		list := randomEntries(r)
		if len(list) == 0 {
			continue
		}
		list = changedEntries(r, list)
		want := isEntries(list)
		if got := impl.EntriesOf(list); got != want {
			t.Errorf("EntriesOf(%+q) is %v", list, got)
		}
		if got := impl.PutYarn(list); (got != "") != want {
			t.Errorf("PutYarn(%+q) = %q", list, got)
		}
		if want {
			good++
		} else {
			bad++
			checkNoEntries(t, wantPutYarn(list), wantLineOf(list))
		}
		if inOrder(list) && !singleHeads(list) {
			double++
		}
	}
	if good < 1000 || bad < 1000 || double < 50 {
		t.Errorf("%d lists are good and %d bad, %d of them by a need that is a head of two entries", good, bad, double)
	}
}

// wantLineOf returns what GetYarn returns for the file of an invalid list whose heads are needs: the line of heads that are missing, or 1.
func wantLineOf(list []impl.Entry) int {
	for i, e := range list {
		if len(e.Heads) == 0 {
			return strings.Count(wantPutYarn(list[:i]), "\n") + 2
		}
	}
	return 1
}

// entriesOfSize returns valid entries with a file of that many bytes, at least 1000.
func entriesOfSize(size int) []impl.Entry {
	list := manyEntries(3)
	list[1].Resolved = "x"
	list[1].Needs = manyNeeds(1)
	left := size - len(wantPutYarn(list))
	list[1].Needs = manyNeeds(1 + left/len("    \"n1000000\" \"*\"\n"))
	left = size - len(wantPutYarn(list))
	list[1].Resolved = strings.Repeat("x", 1+left)
	return list
}

// PutYarn knows no limit for its text; GetYarn does.
func TestYarnFileLimit(t *testing.T) {
	for _, size := range []int{1000, 1018, 1019, maxFile - 1, maxFile, maxFile + 1, maxFile + 2, 3 * maxFile} {
		list := entriesOfSize(size)
		text := checkEntriesBack(t, list)
		if len(text) != size {
			t.Fatalf("the text has %d bytes, want %d", len(text), size)
		}
		lines := strings.Count(text, "\n")
		if size > maxFile {
			checkNoEntries(t, text, 1)
			checkNoEntries(t, text[:size-1]+"x", 1)
			checkNoEntries(t, yarnTitle+"x\n"+text, 1)
		} else {
			checkYarn(t, text)
			checkNoEntries(t, text[:size-1], lines)
			checkNoEntries(t, text[:size-1]+"x", lines)
			checkNoEntries(t, "x"+text[1:], 1)
			checkNoEntries(t, "x"+text[1:size-1], 1)
		}
	}
	for _, size := range []int{maxFile - 1, maxFile, maxFile + 1} {
		short := size <= maxFile
		gaps := yarnTitle + strings.Repeat("\n", size-len(yarnTitle))
		loose := gaps[:size-1] + "x"
		long := yarnTitle + strings.Repeat("x", size-len(yarnTitle)-1) + "\n"
		cases := map[string]int{gaps: 3, loose: size - len(yarnTitle) + 1, long: 2, strings.Repeat("x", size): 1}
		for s, want := range cases {
			if !short {
				want = 1
			}
			checkNoEntries(t, s, want)
		}
	}
}

// checkNoRest checks texts by what stands in them behind the given beginning.
func checkNoRest(t *testing.T, start string, cases map[string]int) {
	t.Helper()
	for rest, want := range cases {
		checkNoEntries(t, start+rest, want)
	}
}

func TestPromise8Titles(t *testing.T) {
	checkNoRest(t, "", map[string]int{
		"": 1, "\n": 1, "x": 1, "x\n": 1, " ": 1, "\n\n\n": 1, "# yarn lockfile v1": 1, "# yarn lockfile": 1, "# yarn lockfile v2\n": 1, "# yarn lockfile v1 \n": 1, " # yarn lockfile v1\n": 1, "# yarn lockfile v1\r\n": 1, "# yarn lockfile v11\n": 1, "# Yarn lockfile v1\n": 1, "#yarn lockfile v1\n": 1, "\ufeff# yarn lockfile v1\n": 1,
		// the first line comes before all else
		"x\ny\nz": 1, "\n# yarn lockfile v1\n": 1, "# THIS IS AN AUTOGENERATED FILE. DO NOT EDIT THIS FILE DIRECTLY.\n# yarn lockfile v1\n": 1, "x\n" + entryA: 1, "x" + entryA + "x\n": 1, entryA: 1, headsA + version1: 1,
		// then the newline at the end
		"# yarn lockfile v1\nx": 2, "# yarn lockfile v1\n ": 2, "# yarn lockfile v1\n\n\"a@*\":": 3, "# yarn lockfile v1\n?\n?\n?": 4, "# yarn lockfile v1\n\n\n\n\n]": 6, "# yarn lockfile v1\n# yarn lockfile v1": 2,
	})
	if got, line := impl.GetYarn(yarnTitle); line != 0 || len(got) != 0 {
		t.Errorf("GetYarn of the title = %v, %d", got, line)
	}
}

func TestPromise8LineNumbers(t *testing.T) {
	// behind the title there is an empty line
	checkNoRest(t, yarnTitle, map[string]int{"x\n": 2, " \n": 2, "\t\n": 2, "\r\n": 2, "# comment\n": 2, yarnTitle: 2, headsA: 2, headsA + version1: 2, version1: 2, needB: 2, needsTitle: 2, "\n": 2, "x\n" + entryA: 2})
	// the heads
	checkNoRest(t, yarnTitle+"\n", map[string]int{
		"\n": 3, "\n" + headsA: 3, "x\n": 3, " \n": 3, ":\n": 3, "\"\":\n": 3, "\"a@*\"\n": 3, "\"a@*\": \n": 3, " \"a@*\":\n": 3, "a@*:\n": 3, "'a@*':\n": 3, "\"a@*:\n": 3, "a@*\":\n": 3, "\"a@*\"::\n": 3, "\"a@*\" :\n": 3, "\"a@*\":x\n": 3, "\"a@*\":\r\n": 3,
		"\"a@*\",\"a@1\":\n": 3, "\"a@*\",  \"a@1\":\n": 3, "\"a@*\" \"a@1\":\n": 3, "\"a@*\", \"a@1\"\n": 3, "\"a@*\", :\n": 3, ", \"a@*\":\n": 3, "\"a@*\", \n": 3, "\"a@*\",:\n": 3, "\"a@*\", , \"a@1\":\n": 3, "\"a@*\"; \"a@1\":\n": 3, "\"a@*, a@1\":\n": 3, "\"a@*\": \"a@1\":\n": 3, "\"a@*\", a@1:\n": 3, "\"a@*\"\"a@1\":\n": 3, "\"a@*\",\n\"a@1\":\n": 3,
		"\"a@\\x2a\":\n": 3, "\"\\x61@*\":\n": 3, "\"a@*\\n\":\n": 3, "\"a@*\t\":\n": 3, "\"a\\@*\":\n": 3, version1: 3, resolvedX: 3, integrity1: 3, needsTitle: 3, needB: 3, "x\n" + version1: 3,
		// texts that are no needs
		"\"a\":\n": 3, "\"@\":\n": 3, "\"a@\":\n": 3, "\"@*\":\n": 3, "\"a@x\":\n": 3, "\"A@*\":\n": 3, "\"a@b@*\":\n": 3, "\"a@*@*\":\n": 3, "\"a@ *\":\n": 3, "\"a @*\":\n": 3, "\"a@1.x\":\n": 3, "\"node_modules@*\":\n": 3, "\"a@*\", \"a\":\n": 3, "\"a\", \"a@*\":\n": 3, "\"a@*\", \"a@x\":\n" + version1: 3, "\"a@x\":\n" + version1: 3, "\"a@*, \":\n": 3,
		headsA: 3,
	})
	// the version
	checkNoRest(t, yarnTitle+"\n"+headsA, map[string]int{
		"\n": 4, "x\n": 4, " \n": 4, headsA: 4, resolvedX: 4, integrity1: 4, needsTitle: 4, needB: 4, entryA: 4, "version \"1.0.0\"\n": 4, " version \"1.0.0\"\n": 4, "   version \"1.0.0\"\n": 4, "\tversion \"1.0.0\"\n": 4, "  version  \"1.0.0\"\n": 4, "  version \"1.0.0\" \n": 4, "  version \"1.0.0\n": 4, "  version 1.0.0\n": 4, "  version '1.0.0'\n": 4, "  version: \"1.0.0\"\n": 4, "  version\n": 4, "  version \n": 4, "  version\"1.0.0\"\n": 4,
		"  Version \"1.0.0\"\n": 4, "  \"version\" \"1.0.0\"\n": 4, "  version \"1.0.0\" \"1.0.0\"\n": 4, "  version \"1.0.0\"\"\n": 4, "  version \"\\x31.0.0\"\n": 4, "  version \"1.0.0\\\"\n": 4, "  version \"1.0.0\"\r\n": 4, "x\n" + version1: 4,
	})
	// behind a version
	checkNoRest(t, yarnTitle+entryA, map[string]int{
		"x\n": 5, " \n": 5, "  \n": 5, headsA: 5, version1: 5, needB: 5, "  x\n": 5, "  x \"y\"\n": 5, yarnTitle: 5, "\n": 5, "\nx\n": 6, "\n\n": 6, "\n" + version1: 6, "\n\n" + headsA: 6, "\n\"b@*\":\n": 6, "\n\"b@*\":\nx\n": 7, "\n\"b@*\":\n" + version1 + "x\n": 8,
		"  resolved x\n": 5, "  resolved 'x'\n": 5, "  resolved \"x\n": 5, "  resolved x\"\n": 5, "  resolved \"x\" \n": 5, "  resolved  \"x\"\n": 5, " resolved \"x\"\n": 5, "   resolved \"x\"\n": 5, "resolved \"x\"\n": 5, "  resolved\n": 5, "  resolved \n": 5, "  resolved: \"x\"\n": 5, "  resolved \"x\" \"y\"\n": 5, "  resolved \"\\x41\"\n": 5, "  resolved \"\t\"\n": 5, "  resolved \"x\"\r\n": 5, "  resolved\"x\"\n": 5, "  resolved \"\"\"\n": 5,
		"  integrity\n": 5, "  integrity \n": 5, " integrity " + goodSum + "\n": 5, "   integrity " + goodSum + "\n": 5, "integrity " + goodSum + "\n": 5, "  integrity:" + goodSum + "\n": 5, "  Integrity " + goodSum + "\n": 5, "  integrity" + goodSum + "\n": 5, "  integrity \n" + needsTitle + needB: 5,
		"  dependencies\n": 5, "  dependencies: \n": 5, " dependencies:\n": 5, "   dependencies:\n": 5, "dependencies:\n": 5, "  dependencies::\n": 5, "  dependencies: {}\n": 5, "  optionalDependencies:\n": 5, "  dependencies:\r\n": 5, needB + needsTitle: 5,
	})
	// behind the other lines
	checkNoRest(t, yarnTitle+entryA, map[string]int{
		resolvedX + "x\n": 6, resolvedX + resolvedX: 6, resolvedX + version1: 6, resolvedX + needB: 6, resolvedX + headsA: 6, resolvedX + "\n": 6, resolvedX + "\nx\n": 7, resolvedX + "  integrity \n": 6,
		integrity1 + "x\n": 6, integrity1 + integrity1: 6, integrity1 + resolvedX: 6, integrity1 + version1: 6, integrity1 + needB: 6, integrity1 + "\n": 6, resolvedX + integrity1 + resolvedX: 7, resolvedX + integrity1 + integrity1: 7,
		needsTitle + "\n": 6, needsTitle + "x\n": 6, needsTitle + needsTitle: 6, needsTitle + version1: 6, needsTitle + resolvedX: 6, needsTitle + integrity1: 6, needsTitle + headsA: 6, needsTitle + entryA: 6,
		needsTitle + "    \"b\"\n": 6, needsTitle + "    \"b\" \n": 6, needsTitle + "    \"b\" *\n": 6, needsTitle + "    b \"*\"\n": 6, needsTitle + "    \"b\"\"*\"\n": 6, needsTitle + "    \"b\"  \"*\"\n": 6, needsTitle + "    \"b\" \"*\" \n": 6, needsTitle + "   \"b\" \"*\"\n": 6, needsTitle + "     \"b\" \"*\"\n": 6, needsTitle + "  \"b\" \"*\"\n": 6, needsTitle + "\"b\" \"*\"\n": 6, needsTitle + "    \"b@*\"\n": 6, needsTitle + "    \"b\": \"*\"\n": 6, needsTitle + "    \"b\" \"*\",\n": 6,
		needsTitle + "    \"\\x62\" \"*\"\n": 6, needsTitle + "    \"b\" \"\\x2a\"\n": 6, needsTitle + "    \"b\" \"*\n": 6, needsTitle + "    \"b \"*\"\n": 6, needsTitle + "    \"b\" \"*\" \"c\"\n": 6, needsTitle + "    \n": 6, needsTitle + "    \"b\" \"*\"\r\n": 6,
		needsTitle + needB + "x\n": 7, needsTitle + needB + version1: 7, needsTitle + needB + resolvedX: 7, needsTitle + needB + integrity1: 7, needsTitle + needB + needsTitle: 7, needsTitle + needB + headsA: 7, needsTitle + needB + "\n": 7, needsTitle + needB + "\n\n": 8, needsTitle + needB + "\n" + needB: 8, needsTitle + needB + "    x\n": 7, needsTitle + needB + needB + "x\n": 8,
		resolvedX + integrity1 + needsTitle + "x\n": 8, resolvedX + integrity1 + needsTitle + needB + "x\n": 9,
	})
}

// A text that ends behind a line is a file, or the line after it is missing.
func TestPromise8MissingLines(t *testing.T) {
	lines := strings.SplitAfter(wantPutYarn(entriesOf(fullEntry("@org/a"), fullEntry("a"))), "\n")
	ends := []int{1, 0, 2, 3, 0, 0, 0, 7, 0, 0, 0, 11, 12, 0, 0, 0, 16, 0, 0, 0}
	for size, want := range ends {
		s := strings.Join(lines[:size], "")
		if got := checkYarn(t, s); got != want {
			t.Errorf("behind %d lines: %d, want %d", size, got, want)
		}
		if size > 0 {
			if !strings.HasSuffix(s, "\n\n") {
				checkNoEntries(t, s[:len(s)-1], size)
			}
			checkNoEntries(t, s+"x", size+1)
			checkNoEntries(t, s+"x\n", size+1)
		}
	}
}

// All lines of these have the form, but the file is not that of their contents.
func TestPromise8Contents(t *testing.T) {
	nine := "\"a@" + strings.ReplaceAll(eightRanges, ",", "\", \"a@") + "\", \"a@~1.0.1\":\n"
	checkNoRest(t, yarnTitle, map[string]int{
		"\n\"a@*\", \"b@*\":\n" + version1: 1, "\n\"a@*\", \"@a@1\":\n" + version1: 1, "\n\"a@1\", \"a@*\":\n" + version1: 1, "\n\"a@*\", \"a@*\":\n" + version1: 1, "\n\"a@1\", \"a@*\", \"a@1\":\n" + version1: 1, "\n" + nine + "  version \"1.0.1\"\n": 1, "\n" + nine + version1: 1,
		"\n" + headsA + "  version \"\"\n": 1, "\n" + headsA + "  version \"x\"\n": 1, "\n" + headsA + "  version \"1.0\"\n": 1, "\n" + headsA + "  version \"01.0.0\"\n": 1, "\n" + headsA + "  version \"1.0.0-a\"\n": 1, "\n" + headsA + "  version \"1.0.0 \"\n": 1, "\n" + headsA + "  version \"\\n\"\n": 1, "\n\"a@1.0.0\":\n  version \"2.0.0\"\n": 1, "\n\"a@*\", \"a@^1.0.0\":\n  version \"2.0.0\"\n": 1, "\n\"a@1\", \"a@^1.1.0\":\n" + version1: 1,
		// out of order, or equal
		entryA + entryA: 1, "\n\"b@*\":\n" + version1 + entryA: 1, entryA + "\n\"@a@*\":\n" + version1: 1, entryA + "\n\"a-b@*\":\n" + version1: 1, "\n\"a@1\":\n" + version1 + entryA: 1,
		// a need that is a head of two entries
		"\n\"a@*\", \"a@1\":\n" + version1 + "\n\"a@1\":\n" + version1: 1, "\n\"a@*\", \"a@^1.0.0\":\n" + version1 + "\n\"a@1\", \"a@^1.0.0\":\n" + version1: 1, "\n\"a@*\", \"a@^1.0.0\":\n" + version1 + "\n\"a@1\":\n" + version1 + "\n\"a@1.0\", \"a@^1.0.0\":\n" + version1: 1,
	})
	checkNoRest(t, yarnTitle+entryA, map[string]int{
		// an empty text, which PutYarn leaves out; a line that does not fit or is missing comes first
		"  resolved \"\"\n": 1, "  resolved \"\"\n" + integrity1: 1, "  resolved \"\"\n" + needsTitle + needB: 1, "  resolved \"\"\n\n\"b@*\":\n" + version1: 1, "  resolved \"\"\nx\n": 6, "  resolved \"\"\n" + resolvedX: 6, "  resolved \"\"\n\n": 6, "  resolved \"\"\n" + needsTitle: 6, "  resolved \"\"\n" + integrity1 + needsTitle: 7, "  resolved \"\"": 5,
		"  resolved \"a b\"\n": 1, "  resolved \"a,b\"\n": 1, "  resolved \"a'b\"\n": 1, "  resolved \"\\\"\"\n": 1, "  resolved \"\\\\\"\n": 1, "  resolved \"\\n\"\n": 1, "  resolved \"\\x00\"\n": 1, "  resolved \"\\xff\"\n": 1, "  resolved \"" + strings.Repeat("x", 101) + "\"\n": 1,
		"  integrity x\n": 1, "  integrity  \n": 1, "  integrity  " + goodSum + "\n": 1, integrity1[:len(integrity1)-1] + " \n": 1, integrity1[:len(integrity1)-1] + "\r\n": 1, "  integrity \"" + goodSum + "\"\n": 1, "  integrity sha1-YQ==\n": 1, "  integrity " + goodSum256 + " " + goodSum + "\n": 1, "  integrity " + goodSum + " " + goodSum + "\n": 1, "  integrity h1-MTIzNDU2Nzg5MDEyMzQ1Njc4OTAxMjM0NTY3ODkwMTI=\n": 1,
		needsTitle + needB + needB: 1, needsTitle + needB + "    \"b\" \"^1.0.0\"\n": 1, needsTitle + needB + "    \"a\" \"*\"\n": 1, needsTitle + "    \"a-b\" \"*\"\n    \"a\" \"*\"\n": 1, needsTitle + needB + "    \"c\" \"*\"\n" + needB: 1,
		needsTitle + "    \"\" \"*\"\n": 1, needsTitle + "    \"b\" \"\"\n": 1, needsTitle + "    \"B\" \"*\"\n": 1, needsTitle + "    \"b\" \"x\"\n": 1, needsTitle + "    \"b\" \" *\"\n": 1, needsTitle + "    \"b\\n\" \"*\"\n": 1, needsTitle + "    \"b\" \"\\\"*\"\n": 1, needsTitle + "    \"b c\" \"d e\"\n": 1, needsTitle + "    \"b\\\" \\\"c\" \"*\"\n": 1,
		// a line that does not fit or is missing, or the last one without a newline, comes before the contents
		entryA + "x\n": 8, entryA + "\n": 8, entryA + "x": 8, "  integrity x\nx\n": 6, "\n\"b@1.0.0\":\n  version \"x\"\n" + needsTitle: 8,
	})
}

func TestGetYarnLimits(t *testing.T) {
	for _, size := range []int{0, 1, 2, maxPacks - 1, maxPacks, maxPacks + 1, maxPacks + 2, 200} {
		text := wantPutYarn(manyEntries(size))
		want := 0
		if size > maxPacks {
			want = 1
		}
		if got := checkYarn(t, text); got != want {
			t.Errorf("%d entries: %d, want %d", size, got, want)
		}
		checkNoEntries(t, text+"\n", 2+3*size)
		checkNoEntries(t, text+"x\n", 2+3*size)
		checkNoEntries(t, text+"\nx", 3+3*size)
	}
	heads := strings.Split("\"a@"+strings.ReplaceAll(eightRanges+",~1.0.1", ",", "\"\n\"a@")+"\"", "\n")
	for size := 1; size <= len(heads); size++ {
		want := 0
		if size > maxHeads {
			want = 1
		}
		if got := checkYarn(t, yarnTitle+"\n"+strings.Join(heads[:size], ", ")+":\n"+version1); got != want {
			t.Errorf("%d heads: %d, want %d", size, got, want)
		}
	}
}

// countYarn checks what GetYarn returns for each of the texts behind the start, and returns how many it takes and how many it leaves.
func countYarn(t *testing.T, start string, texts []string) (int, int) {
	t.Helper()
	taken := 0
	for _, s := range texts {
		if checkYarn(t, start+s) == 0 {
			taken++
		}
	}
	return taken, len(texts) - taken
}

// Every sequence of up to five lines is read as the forms of the lines say.
func TestPromise8OtherLines(t *testing.T) {
	lines := []string{"\n", headsA, "\"b@*\", \"b@^1.0.0\":\n", version1, resolvedX, integrity1, needsTitle, needB, "    \"c\" \"1\"\n", "x\n"}
	texts := tokenTexts(lines, 5)
	taken, left := 0, 0
	for _, start := range []string{yarnTitle, yarnTitle + "\n" + headsA, yarnTitle + entryA, yarnTitle + entryA + needsTitle + needB} {
		more, less := countYarn(t, start, texts)
		taken, left = taken+more, left+less
	}
	if taken < 20 || left < 400000 {
		t.Errorf("%d texts are files and %d are none", taken, left)
	}
}

func TestPromise8NearLines(t *testing.T) {
	taken, left := 0, 0
	count := func(start string, texts []string) {
		more, less := countYarn(t, start, texts)
		taken, left = taken+more, left+less
	}
	wrap := func(before string, texts []string, after string) []string {
		list := []string{}
		for _, s := range texts {
			list = append(list, before+s+after)
		}
		return list
	}
	count(yarnTitle+"\n", wrap("", allTexts("\"a@*1, :", 5), "\n"+version1))
	count(yarnTitle+"\n", wrap("\"a@*", allTexts("\"a@, :", 5), "1\":\n"+version1))
	count(yarnTitle+entryA, wrap("  resolved ", allTexts("\"\\nx0, ", 4), "\n"))
	count(yarnTitle+entryA, wrap("  integrity ", allTexts("sha1-= \"", 4), "\n"))
	count(yarnTitle+entryA+needsTitle, wrap("    ", allTexts("\"\\b* ", 6), "\n"))
	for _, s := range []string{yarnTitle + entryA, wantPutYarn(entriesOf(entryOf("@a", "*,1", "1.0.0", "b@^1.0.0"), withSource(entryOf("a", "1", "1.0.0"), "x", goodSum)))} {
		count("", nearTexts(s))
	}
	if taken < 500 || left < 100000 {
		t.Errorf("%d texts are files and %d are none", taken, left)
	}
}

// Lines that are left out, stand twice or change places.
func TestPromise8MovedLines(t *testing.T) {
	texts := []string{}
	for rest := range goodEntries() {
		lines := strings.SplitAfter(yarnTitle+rest, "\n")
		for i := range lines {
			for k := range lines {
				moved := slices.Clone(lines)
				moved[i], moved[k] = lines[k], lines[i]
				texts = append(texts, strings.Join(moved, ""), strings.Join(slices.Insert(slices.Clone(lines), i, lines[k]), ""))
			}
			texts = append(texts, strings.Join(slices.Delete(slices.Clone(lines), i, i+1), ""))
		}
	}
	if taken, left := countYarn(t, "", texts); taken < 100 || left < 1000 {
		t.Errorf("%d texts are files and %d are none", taken, left)
	}
}

func checkResolve(t *testing.T, list []impl.Entry, n impl.Need, want int) {
	t.Helper()
	if got := impl.Resolve(list, n); got != want {
		t.Errorf("Resolve(%s, %+q) = %d, want %d", brief(list), n, got, want)
	}
}

// mixedEntries returns lists of entries of all kinds, valid and not.
func mixedEntries() [][]impl.Entry {
	list := append(badEntries(), edgeEntries()...)
	for _, entries := range goodEntries() {
		list = append(list, entries)
	}
	return append(list, entriesOf(fullEntry("@org/a"), fullEntry("a"), fullEntry("b")))
}

func TestResolve(t *testing.T) {
	list := entriesOf(entryOf("@a", "*", "1.0.0", "x@1"), entryOf("a", "*,1.0.0,^1.0.0", "1.0.0"), entryOf("a", "1,~1.0.0", "1.0.0"), entryOf("b", "1.0.0", "1.0.0"))
	for s, want := range map[string]int{
		"@a@*": 0, "a@*": 1, "a@1.0.0": 1, "a@^1.0.0": 1, "a@1": 2, "a@~1.0.0": 2, "b@1.0.0": 3,
		// the same Name and another range, even one that contains the same versions, and another Name
		"b@*": -1, "a@1.0": -1, "a@>=1.0.0 <2.0.0-0": -1, "@a@1.0.0": -1, "a@* ": -1, "a@": -1, "c@*": -1, "ab@*": -1, "@*": -1, "A@*": -1, "a@2.0.0": -1, "x@1": -1, "@": -1, "@a@": -1, "@1.0.0": -1,
	} {
		checkResolve(t, list, needOf(s), want)
	}
	checkResolve(t, list, impl.Need{Name: "a@*"}, -1)
	checkResolve(t, list, impl.Need{Range: "a@*"}, -1)
	checkResolve(t, list, impl.Need{Name: "a@1", Range: ".0.0"}, -1)
	checkResolve(t, nil, needOf("a@*"), -1)
	checkResolve(t, []impl.Entry{}, impl.Need{}, -1)
	// an entry with heads that are none, and a head of several entries, of which the first one counts
	odd := entriesOf(impl.Entry{}, impl.Entry{Heads: needsOf("A@x", "@")}, impl.Entry{Heads: needsOf("b@y", "A@x")}, impl.Entry{Heads: needsOf("b@y")})
	for s, want := range map[string]int{"A@x": 1, "@": 1, "b@y": 2, "b@x": -1} {
		checkResolve(t, odd, needOf(s), want)
	}
	for _, entries := range mixedEntries() {
		for i, e := range entries[:min(len(entries), 50)] {
			for _, head := range e.Heads[:min(len(e.Heads), 10)] {
				first := slices.IndexFunc(entries, func(x impl.Entry) bool { return slices.Contains(x.Heads, head) })
				checkResolve(t, entries, head, first)
				if first > i {
					t.Errorf("the head %+q is not found in its entry", head)
				}
				checkResolve(t, entries, impl.Need{Name: head.Name, Range: head.Range + " || 7"}, -1)
			}
		}
	}
}

func checkUnmet(t *testing.T, list []impl.Entry, want ...string) {
	t.Helper()
	if got := impl.Unmet(list); !slices.Equal(got, needsOf(want...)) {
		t.Errorf("Unmet(%s) = %+q, want %q", brief(list), got, want)
	}
}

func TestUnmet(t *testing.T) {
	needs := func(name string, needs ...string) impl.Entry { return entryOf(name, "*,^1.0.0", "1.0.0", needs...) }
	checkUnmet(t, nil)
	checkUnmet(t, []impl.Entry{})
	checkUnmet(t, entriesOf(needs("a"), needs("b")))
	checkUnmet(t, entriesOf(needs("a", "b@*", "c@*")), "b@*", "c@*")
	// heads of the entry itself, of one before it and of one behind it, first and not
	checkUnmet(t, entriesOf(needs("a", "a@^1.0.0", "b@*", "c@^1.0.0"), needs("b", "a@*", "b@*", "c@*"), needs("c", "a@^1.0.0", "b@^1.0.0", "c@*")))
	// the same Name and another range, also one that contains the same versions
	checkUnmet(t, entriesOf(needs("a", "a@1", "b@>=1.0.0 <2.0.0-0"), needs("b", "a@1.0.0", "b@2")), "a@1", "b@>=1.0.0 <2.0.0-0", "a@1.0.0", "b@2")
	// each once, in the order in which they come first
	checkUnmet(t, entriesOf(needs("a", "x@*", "z@*"), needs("b", "x@*", "y@*", "z@*"), needs("c", "a@1", "x@1", "x@*")), "x@*", "z@*", "y@*", "a@1", "x@1")
	checkUnmet(t, entriesOf(needs("a", "z@*"), needs("b", "y@*", "z@*"), needs("c", "x@*", "y@*", "z@*")), "z@*", "y@*", "x@*")
	checkUnmet(t, entriesOf(needs("a", "z@1", "z@*", "z@1"), needs("b", "z@*")), "z@1", "z@*")
	checkUnmet(t, entriesOf(needs("@a", "a@1", "@a@*"), needs("a", "@a@1", "ab@*")), "a@1", "@a@1", "ab@*")
	// invalid entries and needs, and texts that are alike only when they are put together
	checkUnmet(t, entriesOf(impl.Entry{Needs: needsOf("b@x", "B@", "@", "b@x")}, impl.Entry{Heads: needsOf("B@"), Needs: needsOf("@", "a@*")}), "b@x", "@", "a@*")
	odd := entriesOf(impl.Entry{Heads: []impl.Need{{Name: "a@b", Range: "c"}}, Needs: []impl.Need{{Name: "a", Range: "b@c"}, {Name: "a@b", Range: "c"}, {Name: "a@b@c"}}})
	if got := impl.Unmet(odd); !slices.Equal(got, []impl.Need{{Name: "a", Range: "b@c"}, {Name: "a@b@c"}}) {
		t.Errorf("Unmet(%+q) = %+q", odd, got)
	}
	for _, list := range mixedEntries() {
		want := []impl.Need{}
		for _, e := range list {
			for _, n := range e.Needs[:min(len(e.Needs), 2000)] {
				if impl.Resolve(list, n) < 0 && !slices.Contains(want, n) {
					want = append(want, n)
				}
			}
		}
		if got := impl.Unmet(list); !slices.Equal(got, want) {
			t.Errorf("Unmet(%s) = %s, want %s", brief(list), brief(got), brief(want))
		}
	}
}

// callYarn calls every function of the chapter.
func callYarn(list []impl.Entry, text string, n impl.Need) {
	impl.EntriesOf(list)
	impl.NeedText(n)
	impl.ReadNeed(text)
	impl.PutYarn(list)
	impl.GetYarn(text)
	impl.Resolve(list, n)
	impl.Unmet(list)
}

func TestPromise16YarnReturns(t *testing.T) {
	texts := append(byteTexts(), allTexts("\"@:, \n\\", 3)...)
	for _, s := range []string{"@", "a@*", "\"", "\"a@*\", ", "\n", "  ", ":", needB, entryA, "\\", "* || ", "sha1-", "0."} {
		for _, size := range []int{1, 100, maxFile / len(s), 100000} {
			texts = append(texts, strings.Repeat(s, size), strings.Repeat(s, size)+"\n")
		}
	}
	starts := []string{"", yarnTitle, yarnTitle + "\n", yarnTitle + "\n\"", yarnTitle + "\n" + headsA, yarnTitle + entryA, yarnTitle + entryA + "  resolved \"", yarnTitle + entryA + "  integrity ", yarnTitle + entryA + needsTitle}
	for _, s := range texts {
		n := impl.Need{Name: s, Range: s}
		e := impl.Entry{Heads: []impl.Need{n}, Version: s, Resolved: s, Integrity: s, Needs: []impl.Need{n, n}}
		part := entryOf("a", "*", "1.0.0")
		part.Needs = []impl.Need{n}
		callYarn(entriesOf(e, e), "a@"+s, n)
		callYarn(entriesOf(part, withSource(part, s, ""), withSource(part, "", s)), s+"@*", n)
		callYarn(entriesOf(withSource(part, "", s)), s, n)
		for _, start := range starts {
			impl.GetYarn(start + s)
			impl.GetYarn(start + s + "\n")
		}
	}
	for _, list := range mixedEntries() {
		callYarn(list, "", needOf("a@*"))
	}
	wide := impl.Entry{Heads: manyNeeds(100000), Version: "1.0.0", Needs: manyNeeds(100000)}
	callYarn(entriesOf(wide, wide, wide), "", needOf("a@*"))
	callYarn(make([]impl.Entry, 100000), "", impl.Need{})
	callYarn(entriesOf(impl.Entry{Heads: headsOf("a", "*"), Version: "1.0.0", Needs: manyNeeds(100000)}), "", impl.Need{})
	callYarn(nil, "", impl.Need{})
}

// spareNeeds returns the needs in memory of their own, with spare capacity behind them.
func spareNeeds(list []impl.Need) []impl.Need {
	needs := []impl.Need{}
	for _, n := range list {
		needs = append(needs, impl.Need{Name: strings.Clone(n.Name), Range: strings.Clone(n.Range)})
	}
	return append(needs, needOf("spare@1"), needOf("spare@2"))[:len(list)]
}

// spareEntries returns the entries in memory of their own, with spare capacity behind every slice.
func spareEntries(list []impl.Entry) []impl.Entry {
	entries := []impl.Entry{}
	for _, e := range list {
		entries = append(entries, impl.Entry{Heads: spareNeeds(e.Heads), Version: strings.Clone(e.Version), Resolved: strings.Clone(e.Resolved), Integrity: strings.Clone(e.Integrity), Needs: spareNeeds(e.Needs)})
	}
	return append(entries, entryOf("spare", "*", "1.0.0"), entryOf("spare", "1", "1.0.0", "spare@1"))[:len(list)]
}

// wholeEntries returns a copy of the list with all its slices extended to their capacity.
func wholeEntries(list []impl.Entry) []impl.Entry {
	entries := []impl.Entry{}
	for _, e := range list[:cap(list)] {
		e.Heads, e.Needs = slices.Clone(e.Heads[:cap(e.Heads)]), slices.Clone(e.Needs[:cap(e.Needs)])
		entries = append(entries, e)
	}
	return entries
}

// memoryEntries returns lists of entries of all kinds, valid and not, with texts that are long enough to have memory of their own.
func memoryEntries() [][]impl.Entry {
	first := entryOf("@org/ui", "1.0.0,^1.0.0", "1.0.0", "left-pad@^1.0.0", "other@>=1.0.0 <2.0.0")
	second := withSource(entryOf("left-pad", "1.0.0,^1.0.0,~1.0.0", "1.0.0", "@org/ui@1.0.0", "left-pad@2.0.0", "other@>=1.0.0 <2.0.0"), goodSource, goodSum+" "+goodSum256)
	bad := first
	bad.Heads = headsOf("left-pad", "^1.0.0,1.0.0")
	return [][]impl.Entry{{}, {first}, {second}, {first, second}, {second, first}, {first, first}, {bad}, {bad, second, {}}, {{}, {}}, manyEntries(maxPacks), manyEntries(maxPacks + 1), {withSource(first, "not plain", "no sum")}, {entryOf("left-pad", "1.0.0", "no version", "Some Name@no range", "Some Name@no range")}}
}

func TestPromise16YarnArguments(t *testing.T) {
	for _, entries := range memoryEntries() {
		for _, n := range needsOf("left-pad@^1.0.0", "left-pad@3.0.0", "other@>=1.0.0 <2.0.0", "@") {
			list := spareEntries(entries)
			want := wholeEntries(list)
			text := string([]byte(wantPutYarn(list)))
			before := strings.Clone(text)
			callYarn(list, text, n)
			for _, e := range list {
				callYarn(list[:1], e.Version, impl.Need{})
				for _, own := range append(slices.Clone(e.Heads), e.Needs...) {
					callYarn(list, own.Name, own)
				}
			}
			if !reflect.DeepEqual(wholeEntries(list), want) || text != before {
				t.Errorf("%s was modified", brief(entries))
			}
		}
	}
}

func needSpans(list []impl.Need) []span {
	spans := []span{listSpan(list)}
	for _, n := range list {
		spans = append(spans, textSpan(n.Name), textSpan(n.Range))
	}
	return spans
}

func entrySpans(list []impl.Entry) []span {
	spans := []span{listSpan(list)}
	for _, e := range list {
		spans = append(spans, textSpan(e.Version), textSpan(e.Resolved), textSpan(e.Integrity))
		spans = append(spans, needSpans(e.Heads)...)
		spans = append(spans, needSpans(e.Needs)...)
	}
	return spans
}

func TestPromise16YarnMemory(t *testing.T) {
	for _, entries := range memoryEntries() {
		list := spareEntries(entries)
		arguments := entrySpans(list)
		checkSpans(t, "PutYarn", []span{textSpan(impl.PutYarn(list))}, arguments)
		checkSpans(t, "Unmet", append(needSpans(impl.Unmet(list)), needSpans(impl.Unmet(list))...), arguments)
		text := strings.Clone(wantPutYarn(list))
		if len(entries) <= 3 { // the range * of the longer ones has one byte, and Go keeps all strings of one byte in one place
			read, _ := impl.GetYarn(text)
			again, _ := impl.GetYarn(text)
			checkSpans(t, "GetYarn", append(entrySpans(read), entrySpans(again)...), append(arguments, textSpan(text)))
			want := wholeEntries(again)
			for _, e := range read {
				clear(e.Heads[:cap(e.Heads)])
				clear(e.Needs[:cap(e.Needs)])
			}
			clear(read[:cap(read)])
			if third, _ := impl.GetYarn(text); !reflect.DeepEqual(wholeEntries(again), want) || !sameEntries(third, again) {
				t.Errorf("two results of GetYarn(%q) share memory", text)
			}
		}
		for _, e := range list {
			for _, n := range append(slices.Clone(e.Heads), e.Needs...) {
				own := impl.Need{Name: strings.Clone(n.Name), Range: strings.Clone(n.Range)}
				checkSpans(t, "NeedText", []span{textSpan(impl.NeedText(own))}, needSpans([]impl.Need{own}))
				key := strings.Clone(own.Name + "@" + own.Range)
				first, _ := impl.ReadNeed(key)
				second, _ := impl.ReadNeed(key)
				checkSpans(t, "ReadNeed", []span{textSpan(first.Name), textSpan(first.Range), textSpan(second.Name), textSpan(second.Range)}, []span{textSpan(key)})
			}
		}
	}
}
