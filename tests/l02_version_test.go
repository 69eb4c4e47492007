package tests

import (
	"math"
	"math/rand"
	"regexp"
	"slices"
	"strconv"
	"strings"
	"testing"

	"loop.example/g00445/impl"
)

func version(major int, minor int, patch int, pre ...string) impl.Version {
	return impl.Version{Major: major, Minor: minor, Patch: patch, Pre: pre}
}

func sameVersion(a impl.Version, b impl.Version) bool {
	return a.Major == b.Major && a.Minor == b.Minor && a.Patch == b.Patch && slices.Equal(a.Pre, b.Pre)
}

func isZeroVersion(v impl.Version) bool { return sameVersion(v, impl.Version{}) }

// readVersion returns the version of a text that must be one.
func readVersion(t *testing.T, s string) impl.Version {
	t.Helper()
	v, ok := impl.ReadVersion(s)
	if !ok {
		t.Fatalf("ReadVersion(%q) fails", s)
	}
	return v
}

var (
	versionForm    = regexp.MustCompile(`^(0|[1-9][0-9]{0,8})(\.(0|[1-9][0-9]{0,8})){2}(-[0-9A-Za-z-]{1,20}(\.[0-9A-Za-z-]{1,20}){0,4})?$`)
	digitsForm     = regexp.MustCompile(`^[0-9]+$`)
	plainDigitForm = regexp.MustCompile(`^(0|[1-9][0-9]{0,8})$`)
)

// isVersionText tells by the document's grammar whether s is the text of a version.
func isVersionText(s string) bool {
	if !versionForm.MatchString(s) {
		return false
	}
	_, pre, found := strings.Cut(s, "-")
	for id := range strings.SplitSeq(pre, ".") {
		if found && digitsForm.MatchString(id) && !plainDigitForm.MatchString(id) {
			return false
		}
	}
	return true
}

const longId = "abcdefghijklmnopqrst" // 20 bytes

// goodVersions are valid versions beside their texts.
func goodVersions() map[string]impl.Version {
	return map[string]impl.Version{
		"0.0.0":                           version(0, 0, 0),
		"1.2.3":                           version(1, 2, 3),
		"10.200.3000":                     version(10, 200, 3000),
		"999999999.999999999.999999999":   version(999999999, 999999999, 999999999),
		"999999999.0.0":                   version(999999999, 0, 0),
		"0.999999999.0":                   version(0, 999999999, 0),
		"0.0.999999999":                   version(0, 0, 999999999),
		"1.2.3-rc.1":                      version(1, 2, 3, "rc", "1"),
		"1.2.3-0":                         version(1, 2, 3, "0"),
		"1.2.3-999999999":                 version(1, 2, 3, "999999999"),
		"1.2.3-a":                         version(1, 2, 3, "a"),
		"1.2.3-Z":                         version(1, 2, 3, "Z"),
		"1.2.3--":                         version(1, 2, 3, "-"),
		"1.2.3----":                       version(1, 2, 3, "---"),
		"1.2.3--1":                        version(1, 2, 3, "-1"),
		"1.2.3-a-b.c-d":                   version(1, 2, 3, "a-b", "c-d"),
		"1.2.3-01a":                       version(1, 2, 3, "01a"),
		"1.2.3-0-0":                       version(1, 2, 3, "0-0"),
		"1.2.3-00a.0":                     version(1, 2, 3, "00a", "0"),
		"1.2.3-1000000000a":               version(1, 2, 3, "1000000000a"),
		"1.2.3-a.b.c.d.e":                 version(1, 2, 3, "a", "b", "c", "d", "e"),
		"1.2.3-1.1.1.1.1":                 version(1, 2, 3, "1", "1", "1", "1", "1"),
		"1.2.3-" + longId:                 version(1, 2, 3, longId),
		"1.2.3-x." + longId:               version(1, 2, 3, "x", longId),
		"0.0.0-1234567890123456789a":      version(0, 0, 0, "1234567890123456789a"),
		"0.0.0--1234567890123456789.beta": version(0, 0, 0, "-1234567890123456789", "beta"),
	}
}

// badVersions returns versions that break one condition each.
func badVersions() []impl.Version {
	list := []impl.Version{}
	for _, n := range []int{-1, -999999999, 1000000000, 1000000001, math.MaxInt, math.MinInt} {
		list = append(list, version(n, 0, 0), version(0, n, 0), version(0, 0, n), version(n, n, n, "a"))
	}
	bad := []string{
		"", "00", "01", "007", "0000000000", "0123456789", "1000000000", "9999999999", "12345678901234567890", "00000000000000000001",
		longId + "u", strings.Repeat("1", 21), strings.Repeat("-", 21), strings.Repeat("a", 1000), " ", "a ", " a", "a.b", ".", "a_b", "a+b", "+1", "1 ", "\u00e9", "\u0661", "a\n", "\x00",
	}
	for c := range 256 {
		if c >= '0' && c <= '9' || c >= 'a' && c <= 'z' || c >= 'A' && c <= 'Z' || c == '-' {
			continue
		}
		one := string([]byte{byte(c)})
		bad = append(bad, one, "a"+one, one+"1", "1"+one+"1")
	}
	for _, id := range bad {
		list = append(list, version(1, 2, 3, id), version(1, 2, 3, "a", id), version(1, 2, 3, "a", "b", "c", "d", id))
	}
	return append(list, version(1, 2, 3, "a", "b", "c", "d", "e", "f"), version(1, 2, 3, "1", "2", "3", "4", "5", "6"), version(1, 2, 3, make([]string, 100)...))
}

func TestVersionOk(t *testing.T) {
	for s, v := range goodVersions() {
		if !impl.VersionOk(v) {
			t.Errorf("VersionOk of %q is false", s)
		}
	}
	for _, v := range badVersions() {
		if impl.VersionOk(v) {
			t.Errorf("VersionOk(%#v) is true", v)
		}
	}
	for c := range 256 {
		want := c >= '0' && c <= '9' || c >= 'a' && c <= 'z' || c >= 'A' && c <= 'Z' || c == '-'
		for _, id := range []string{string([]byte{byte(c)}), string([]byte{'a', byte(c)}), string([]byte{byte(c), 'a'})} {
			if impl.VersionOk(version(0, 0, 0, id)) != want {
				t.Errorf("VersionOk with the identifier %q is not %v", id, want)
			}
		}
	}
	for size := range 30 {
		if got, want := impl.VersionOk(version(0, 0, 0, strings.Repeat("x", size))), size >= 1 && size <= 20; got != want {
			t.Errorf("an identifier of %d bytes: %v", size, got)
		}
		if got, want := impl.VersionOk(version(0, 0, 0, strings.Repeat("9", size))), size >= 1 && size <= 9; got != want {
			t.Errorf("an identifier of %d digits: %v", size, got)
		}
		if got, want := impl.VersionOk(version(0, 0, 0, slices.Repeat([]string{"x"}, size)...)), size <= 5; got != want {
			t.Errorf("%d identifiers: %v", size, got)
		}
	}
	if !impl.VersionOk(impl.Version{}) || !impl.VersionOk(impl.Version{Pre: []string{}}) {
		t.Error("the zero Version is not valid")
	}
}

func TestPromise2VersionText(t *testing.T) {
	for s, v := range goodVersions() {
		if got := impl.VersionText(v); got != s {
			t.Errorf("VersionText = %q, want %q", got, s)
		}
		if got, ok := impl.ReadVersion(s); !ok || !sameVersion(got, v) {
			t.Errorf("ReadVersion(%q) = %#v, %v", s, got, ok)
		}
	}
	for _, v := range badVersions() {
		if got := impl.VersionText(v); got != "" {
			t.Errorf("VersionText(%#v) = %q", v, got)
		}
	}
	if got := impl.VersionText(impl.Version{Major: 1, Pre: []string{}}); got != "1.0.0" {
		t.Errorf("VersionText with empty Pre = %q", got)
	}
	r := rand.New(rand.NewSource(2))
	for range 5000 {
		v := randomVersion(r)
		if got, ok := impl.ReadVersion(impl.VersionText(v)); !ok || !sameVersion(got, v) {
			t.Errorf("ReadVersion of VersionText(%#v) = %#v, %v", v, got, ok)
		}
	}
}

func TestPromise2OtherTexts(t *testing.T) {
	bad := []string{
		"", "0", "1", "1.2", "1.2.", ".1.2", "1..2", "..", ".", "1.2.3.", ".1.2.3", "1.2.3.4", "1.2.3.4-a", "1.2-a", "1-a", "-a", "-", "--", "1.2-3", "1.-2.3", "-1.2.3", "1.2.-3",
		"01.2.3", "1.02.3", "1.2.03", "00.0.0", "0.00.0", "0.0.00", "1000000000.0.0", "0.1000000000.0", "0.0.1000000000", "9999999999.0.0", "18446744073709551617.0.0",
		"1.2.3-", "1.2.3-.", "1.2.3-.a", "1.2.3-a.", "1.2.3-a..b", "1.2.3-01", "1.2.3-00", "1.2.3-a.01", "1.2.3-1000000000", "1.2.3-a_b", "1.2.3-a b", "1.2.3-a+b",
		"1.2.3-a.b.c.d.e.f", "1.2.3-1.2.3.4.5.6", "1.2.3-" + longId + "u", "1.2.3-" + strings.Repeat("9", 20),
		"v1.2.3", "V1.2.3", "=1.2.3", "^1.2.3", "1.2.x", "1.2.*", "*", "1.2.3a", "1.2.3 ", " 1.2.3", "1.2.3\n", "1.2.3\x00", "1.2.3+a", "1.2.3-a+b", "1,2,3", "1.2.3~a", "1.2.3.a",
		"+1.2.3", "1e3.0.0", "0x1.0.0", "1_0.0.0", "\u0661.0.0", "\xff", strings.Repeat(".", 1000), strings.Repeat("1", 1000), "1.2.3-" + strings.Repeat("a.", 1000),
	}
	for _, s := range bad {
		if v, ok := impl.ReadVersion(s); ok || !isZeroVersion(v) {
			t.Errorf("ReadVersion(%q) = %#v, %v", s, v, ok)
		}
	}
	texts := allTexts("01.-", 7)
	for _, s := range allTexts("01a-.", 6) {
		texts = append(texts, "1.0.2-"+s, "0.0.0"+s)
	}
	for c := range 256 {
		one := string([]byte{byte(c)})
		texts = append(texts, one+".0.0", "0."+one+".0", "0.0."+one, "0.0.0"+one, "0.0.0-"+one, "0.0.0-a"+one, "0.0.0-1"+one+"1", one+"0.0.0")
	}
	for _, s := range texts {
		v, ok := impl.ReadVersion(s)
		want := isVersionText(s)
		if ok != want || want && impl.VersionText(v) != s || !want && !isZeroVersion(v) {
			t.Errorf("ReadVersion(%q) = %#v, %v; want %v", s, v, ok, want)
		}
		if want && !impl.VersionOk(v) {
			t.Errorf("ReadVersion(%q) returns the invalid version %#v", s, v)
		}
	}
}

// ascendingVersions are texts in the order that the document defines.
func ascendingVersions() []string {
	return []string{
		"0.0.0-0", "0.0.0", "0.0.1-a", "0.0.1", "0.0.2", "0.0.10", "0.0.999999999", "0.1.0", "0.2.0", "0.9.9", "0.10.0", "0.999999999.0",
		"1.0.0-0", "1.0.0-0.0", "1.0.0-0.0.0", "1.0.0-0.a", "1.0.0-1", "1.0.0-1.0", "1.0.0-1.9", "1.0.0-1.10", "1.0.0-1.-", "1.0.0-1.a", "1.0.0-2", "1.0.0-9", "1.0.0-10", "1.0.0-11",
		"1.0.0-99", "1.0.0-100", "1.0.0-999999999", "1.0.0--", "1.0.0--.0", "1.0.0--1", "1.0.0-0-", "1.0.0-01a", "1.0.0-10a", "1.0.0-1a", "1.0.0-2a", "1.0.0-A", "1.0.0-AA", "1.0.0-B", "1.0.0-Z",
		"1.0.0-a", "1.0.0-a.0", "1.0.0-a.0.0.0", "1.0.0-a.0.0.0.0", "1.0.0-a.0.0.0.1", "1.0.0-a.0.0.1", "1.0.0-a.2", "1.0.0-a.10", "1.0.0-a.a", "1.0.0-a.a.0", "1.0.0-a.b",
		"1.0.0-a-", "1.0.0-a-b", "1.0.0-a0", "1.0.0-a10", "1.0.0-a2", "1.0.0-aa", "1.0.0-ab", "1.0.0-b", "1.0.0-b.0", "1.0.0-rc.1", "1.0.0-rc.2", "1.0.0-rc.10", "1.0.0",
		"1.0.1-a", "1.0.1", "1.1.0-0", "1.1.0", "1.1.1", "2.0.0-0", "2.0.0", "9.0.0", "10.0.0", "10.0.1", "999999999.0.0", "999999999.999999999.999999999-z", "999999999.999999999.999999999",
	}
}

func TestPromise2Order(t *testing.T) {
	order := ascendingVersions()
	for i, a := range order {
		for k, b := range order {
			want := 0
			if i < k {
				want = -1
			}
			if i > k {
				want = 1
			}
			if got := impl.CompareVersion(readVersion(t, a), readVersion(t, b)); got != want {
				t.Errorf("CompareVersion of %s and %s = %d, want %d", a, b, got, want)
			}
		}
	}
}

func randomVersion(r *rand.Rand) impl.Version {
	numbers := []int{0, 1, 2, 9, 10, 999999999}
	ids := []string{"0", "1", "2", "9", "10", "999999999", "a", "b", "A", "-", "-1", "1a", "01a", "a1", "aa", longId}
	v := version(numbers[r.Intn(2)], numbers[r.Intn(3)], numbers[r.Intn(len(numbers))])
	for range r.Intn(6) {
		v.Pre = append(v.Pre, ids[r.Intn(len(ids))])
	}
	return v
}

func TestPromise2TotalOrder(t *testing.T) {
	r := rand.New(rand.NewSource(3))
	list := []impl.Version{}
	for range 120 {
		v := randomVersion(r)
		v.Major, v.Minor, v.Patch = 0, 0, v.Patch%3
		list = append(list, v, randomVersion(r))
	}
	for _, a := range list {
		for _, b := range list {
			ab := impl.CompareVersion(a, b)
			if ab != -impl.CompareVersion(b, a) || ab < -1 || ab > 1 || (ab == 0) != sameVersion(a, b) {
				t.Errorf("CompareVersion(%#v, %#v) = %d and back %d", a, b, ab, impl.CompareVersion(b, a))
			}
		}
	}
	for range 200000 {
		a, b, c := list[r.Intn(len(list))], list[r.Intn(len(list))], list[r.Intn(len(list))]
		if impl.CompareVersion(a, b) <= 0 && impl.CompareVersion(b, c) <= 0 && impl.CompareVersion(a, c) > 0 {
			t.Errorf("the order of %#v, %#v and %#v is a cycle", a, b, c)
		}
	}
}

func TestCompareNilAndEmptyPre(t *testing.T) {
	a, b := impl.Version{Major: 1}, impl.Version{Major: 1, Pre: []string{}}
	if impl.CompareVersion(a, b) != 0 || impl.CompareVersion(b, a) != 0 {
		t.Error("nil and empty Pre differ")
	}
	if impl.CompareVersion(b, version(1, 0, 0, "a")) != 1 || impl.CompareVersion(version(1, 0, 0, "a"), b) != -1 {
		t.Error("a version with Pre does not precede one with empty Pre")
	}
}

func TestSortVersions(t *testing.T) {
	cases := []struct{ list, want []string }{
		{nil, nil},
		{[]string{}, nil},
		{[]string{"", "x", "1", "1.2", "v1.2.3", "1.2.3-01", "1.2.3 "}, nil},
		{[]string{"1.2.3"}, []string{"1.2.3"}},
		{[]string{"1.2.3", "1.2.3", "1.2.3"}, []string{"1.2.3"}},
		{[]string{"2.0.0", "x", "1.0.0", "2.0.0-a", "1.0.0", "01.0.0", "2.0.0-a"}, []string{"1.0.0", "2.0.0-a", "2.0.0"}},
		{[]string{"10.0.0", "9.0.0", "1.10.0", "1.9.0"}, []string{"1.9.0", "1.10.0", "9.0.0", "10.0.0"}},
		{[]string{"1.0.0", "1.0.0-10", "1.0.0-9", "1.0.0-a", "1.0.0-a.0"}, []string{"1.0.0-9", "1.0.0-10", "1.0.0-a", "1.0.0-a.0", "1.0.0"}},
	}
	for _, c := range cases {
		if got := impl.SortVersions(c.list); !slices.Equal(got, c.want) {
			t.Errorf("SortVersions(%q) = %q", c.list, got)
		}
	}
	order := ascendingVersions()
	r := rand.New(rand.NewSource(4))
	for range 50 {
		list := append(slices.Repeat(order, 2), "", "no", "1.0", "1.0.0-00")
		r.Shuffle(len(list), func(i int, k int) { list[i], list[k] = list[k], list[i] })
		if got := impl.SortVersions(list); !slices.Equal(got, order) {
			t.Fatalf("SortVersions of a shuffled list = %q", got)
		}
	}
}

func TestNext(t *testing.T) {
	cases := []struct {
		text string
		want [3]string
	}{
		{"0.0.0", [3]string{"1.0.0", "0.1.0", "0.0.1"}},
		{"1.2.3", [3]string{"2.0.0", "1.3.0", "1.2.4"}},
		{"9.99.999", [3]string{"10.0.0", "9.100.0", "9.99.1000"}},
		{"1.2.3-rc.1", [3]string{"2.0.0", "1.3.0", "1.2.3"}},
		{"1.0.0-rc.1", [3]string{"2.0.0", "1.1.0", "1.0.0"}},
		{"1.2.0-0", [3]string{"2.0.0", "1.3.0", "1.2.0"}},
		{"999999998.999999998.999999998", [3]string{"999999999.0.0", "999999998.999999999.0", "999999998.999999998.999999999"}},
		{"999999999.2.3", [3]string{"999999999.2.3", "999999999.3.0", "999999999.2.4"}},
		{"999999999.2.3-a.1", [3]string{"999999999.2.3-a.1", "999999999.3.0", "999999999.2.3"}},
		{"1.999999999.3", [3]string{"2.0.0", "1.999999999.3", "1.999999999.4"}},
		{"1.999999999.3-a", [3]string{"2.0.0", "1.999999999.3-a", "1.999999999.3"}},
		{"1.2.999999999", [3]string{"2.0.0", "1.3.0", "1.2.999999999"}},
		{"1.2.999999999-a", [3]string{"2.0.0", "1.3.0", "1.2.999999999"}},
	}
	for _, c := range cases {
		v := readVersion(t, c.text)
		for part, want := range c.want {
			if got := impl.VersionText(impl.Next(v, part)); got != want {
				t.Errorf("Next of %s for %d is %s, want %s", c.text, part, got, want)
			}
		}
		for _, part := range []int{-1, 3, 4, -3, 256, math.MaxInt, math.MinInt} {
			if got := impl.Next(v, part); !sameVersion(got, v) {
				t.Errorf("Next of %s for %d is %#v", c.text, part, got)
			}
		}
	}
	for _, v := range badVersions() {
		for part := -1; part <= 3; part++ {
			if got := impl.Next(v, part); !sameVersion(got, v) {
				t.Errorf("Next(%#v, %d) = %#v", v, part, got)
			}
		}
	}
}

func TestNewest(t *testing.T) {
	cases := []struct {
		list []string
		want string
	}{
		{nil, ""},
		{[]string{}, ""},
		{[]string{"", "x", "1.2", "1.0.0-01"}, ""},
		{[]string{"1.2.3"}, "1.2.3"},
		{[]string{"1.2.3-a"}, "1.2.3-a"},
		{[]string{"9.0.0", "10.0.0", "1.0.0"}, "10.0.0"},
		{[]string{"2.0.0-a", "1.0.0", "2.0.0-b", "0.9.0"}, "1.0.0"},
		{[]string{"1.0.0", "1.0.0-a", "3.0.0-a", "2.0.0-a"}, "1.0.0"},
		{[]string{"1.0.0-b", "1.0.0-a"}, "1.0.0-b"},
		{[]string{"1.0.0-9", "1.0.0-10", "1.0.0-2"}, "1.0.0-10"},
		{[]string{"1.0.0-9", "x", "1.0.0-a", "1.0.0-10", "2.0"}, "1.0.0-a"},
		{[]string{"1.0.0", "1.0.0", "1000000000.0.0"}, "1.0.0"},
	}
	for _, c := range cases {
		if got := impl.Newest(c.list); got != c.want {
			t.Errorf("Newest(%q) = %q, want %q", c.list, got, c.want)
		}
	}
}

func TestPromise16VersionReturns(t *testing.T) {
	list := append(badVersions(), impl.Version{}, version(1, 2, 3, "a", "1"), version(math.MaxInt, math.MinInt, -1, "", "01", "\xff"))
	for _, a := range list {
		for _, part := range []int{math.MinInt, -1, 0, 1, 2, 3, math.MaxInt} {
			impl.Next(a, part)
		}
		for _, b := range list {
			if c := impl.CompareVersion(a, b); c < -1 || c > 1 || c != -impl.CompareVersion(b, a) {
				t.Errorf("CompareVersion(%#v, %#v) = %d", a, b, c)
			}
		}
	}
	texts := append(byteTexts(), allTexts("0.-", 6)...)
	for _, s := range texts {
		impl.ReadVersion(s)
		impl.Newest([]string{s, s})
	}
	impl.SortVersions(texts)
	impl.Newest(texts)
}

// spareList returns a list with spare capacity, and all its memory.
func spareList(parts ...string) ([]string, []string) {
	memory := append(parts, "spare", "spare")
	return memory[:len(parts)], memory
}

func TestPromise16VersionArguments(t *testing.T) {
	list, memory := spareList("2.0.0", "x", "1.0.0", "1.0.0", "1.0.0-a")
	before := slices.Clone(memory)
	impl.SortVersions(list)
	impl.Newest(list)
	if !slices.Equal(memory, before) {
		t.Errorf("the list was modified: %q", memory)
	}
	for _, parts := range [][]string{{"b", "1", "a"}, {"", "01"}, {}} {
		pre, memory := spareList(parts...)
		before := slices.Clone(memory)
		v := impl.Version{Major: 1, Minor: 999999999, Patch: 3, Pre: pre}
		impl.VersionOk(v)
		impl.VersionText(v)
		impl.CompareVersion(v, v)
		for part := -1; part <= 3; part++ {
			impl.Next(v, part)
		}
		if !slices.Equal(memory, before) {
			t.Errorf("Pre was modified: %q", memory)
		}
	}
}

func TestPromise16VersionMemory(t *testing.T) {
	text := "1.2.3-" + strconv.Itoa(77) + ".beta" // made at run time, so that it has memory of its own
	v := readVersion(t, text)
	for _, id := range v.Pre {
		if shares(id, text) {
			t.Errorf("%q shares memory with the text", id)
		}
	}
	for _, s := range append(impl.SortVersions([]string{text, text}), impl.Newest([]string{text}), impl.VersionText(v)) {
		if s != text || shares(s, text) {
			t.Errorf("%q shares memory with the argument", s)
		}
	}
	for _, part := range []int{-1, 0, 1, 2, 3} {
		full := impl.Version{Major: 999999999, Minor: 999999999, Patch: 3, Pre: slices.Clone(v.Pre)}
		next := impl.Next(full, part)
		for i, id := range next.Pre {
			if shares(id, full.Pre[i]) {
				t.Errorf("for part %d, %q shares memory with the argument", part, id)
			}
		}
		clear(next.Pre[:cap(next.Pre)])
		if !slices.Equal(full.Pre, v.Pre) {
			t.Errorf("for part %d, Pre shares memory with the argument", part)
		}
	}
	first, second := readVersion(t, text), readVersion(t, text)
	clear(first.Pre[:cap(first.Pre)])
	if !sameVersion(second, v) || !sameVersion(readVersion(t, text), v) {
		t.Error("two results share memory")
	}
	one, two := impl.SortVersions([]string{text, "x"}), impl.SortVersions([]string{text, "x"})
	clear(one[:cap(one)])
	if two[0] != text || impl.SortVersions([]string{text})[0] != text {
		t.Error("two sorted lists share memory")
	}
}
