package tests

import (
	"math/rand"
	"regexp"
	"slices"
	"strconv"
	"strings"
	"testing"

	"loop.example/g00445/impl"
)

func bound(low string, high string) impl.Bound { return impl.Bound{Low: low, High: high} }

// readRange returns the range of a text that must be one.
func readRange(t *testing.T, s string) []impl.Bound {
	t.Helper()
	r, ok := impl.ReadRange(s)
	if !ok || !impl.RangeOk(r) {
		t.Fatalf("ReadRange(%q) = %q, %v", s, r, ok)
	}
	return r
}

// noLimits are texts that neither are versions nor empty.
func noLimits() []string {
	return []string{
		"x", "1", "1.2", "01.2.3", "1.2.03", "1.2.3-", "1.2.3-01", "1.2.3 ", " 1.2.3", "v1.2.3", "*", "^1.2.3", ">=1.2.3", "1000000000.0.0", "1.2.3-a.b.c.d.e.f", " ", "\x00", "1.2.3\n",
	}
}

// badRanges returns ranges that break one condition each.
func badRanges() [][]impl.Bound {
	good := bound("1.0.0", "9.0.0")
	list := [][]impl.Bound{nil, {}, slices.Repeat([]impl.Bound{good}, 9), make([]impl.Bound, 9), make([]impl.Bound, 100)}
	for _, s := range noLimits() {
		list = append(list, []impl.Bound{bound(s, "")}, []impl.Bound{bound("", s)}, []impl.Bound{bound(s, "9.0.0")}, []impl.Bound{bound("1.0.0", s)})
		list = append(list, []impl.Bound{good, bound(s, "9.0.0")}, []impl.Bound{bound("1.0.0", s), good}, append(slices.Repeat([]impl.Bound{good}, 7), bound("", s)))
	}
	return list
}

func TestRangeOk(t *testing.T) {
	for size := range 20 {
		for _, b := range []impl.Bound{bound("", ""), bound("1.0.0", ""), bound("", "1.0.0"), bound("1.0.0-a", "2.0.0-0")} {
			if got, want := impl.RangeOk(slices.Repeat([]impl.Bound{b}, size)), size >= 1 && size <= 8; got != want {
				t.Errorf("RangeOk of %d times %q is %v", size, b, got)
			}
		}
	}
	for s := range goodVersions() {
		for _, b := range []impl.Bound{bound(s, ""), bound("", s), bound(s, s), bound("5.0.0", s), bound(s, "0.0.0")} {
			if !impl.RangeOk([]impl.Bound{b}) {
				t.Errorf("RangeOk of %q is false", b)
			}
		}
	}
	for _, r := range badRanges() {
		if impl.RangeOk(r) {
			t.Errorf("RangeOk(%q) is true", r)
		}
	}
}

func checkIn(t *testing.T, r []impl.Bound, yes []string, no []string) {
	t.Helper()
	for _, s := range yes {
		if !impl.In(s, r) {
			t.Errorf("%q is not in %q", s, r)
		}
	}
	for _, s := range no {
		if impl.In(s, r) {
			t.Errorf("%q is in %q", s, r)
		}
	}
}

func TestInBounds(t *testing.T) {
	cases := []struct {
		r       []impl.Bound
		yes, no []string
	}{
		{[]impl.Bound{bound("", "")}, []string{"0.0.0", "1.2.3", "999999999.999999999.999999999"}, []string{"0.0.0-0", "1.0.0-rc"}},
		{[]impl.Bound{bound("1.2.3", "")}, []string{"1.2.3", "1.2.4", "1.10.0", "2.0.0", "999999999.0.0"}, []string{"1.2.2", "1.1.9", "0.9.9", "0.0.0"}},
		{[]impl.Bound{bound("", "1.2.3")}, []string{"0.0.0", "1.2.2", "1.1.9"}, []string{"1.2.3", "1.2.4", "1.10.0", "2.0.0"}},
		{[]impl.Bound{bound("0.0.0", "0.0.1")}, []string{"0.0.0"}, []string{"0.0.1", "0.0.0-0", "0.0.1-0"}},
		{[]impl.Bound{bound("1.9.0", "1.10.0")}, []string{"1.9.0", "1.9.10"}, []string{"1.10.0", "1.1.0", "1.8.99"}},
		{[]impl.Bound{bound("1.0.0", "1.0.0")}, nil, []string{"1.0.0", "0.9.9", "1.0.1"}},
		{[]impl.Bound{bound("2.0.0", "1.0.0")}, nil, []string{"0.0.0", "1.0.0", "1.5.0", "2.0.0", "3.0.0"}},
		{[]impl.Bound{bound("1.0.0", "2.0.0"), bound("3.0.0", "4.0.0")}, []string{"1.0.0", "1.9.9", "3.0.0", "3.9.9"}, []string{"0.9.9", "2.0.0", "2.5.0", "4.0.0"}},
		{[]impl.Bound{bound("3.0.0", "4.0.0"), bound("1.0.0", "2.0.0")}, []string{"1.0.0", "3.0.0"}, []string{"2.0.0", "4.0.0"}},
		{append(slices.Repeat([]impl.Bound{bound("9.0.0", "9.0.1")}, 7), bound("1.0.0", "")), []string{"1.0.0"}, []string{"0.9.9"}},
	}
	for _, c := range cases {
		checkIn(t, c.r, c.yes, c.no)
	}
	all := []impl.Bound{bound("", ""), bound("0.0.0-0", "")}
	checkIn(t, all, nil, append(noLimits(), "", "1.2.3-", "01.0.0"))
	for _, r := range badRanges() {
		checkIn(t, r, nil, []string{"", "1.0.0", "1.2.3", "5.0.0"})
	}
}

func TestInPre(t *testing.T) {
	cases := []struct {
		r       []impl.Bound
		yes, no []string
	}{
		// Low without Pre
		{[]impl.Bound{bound("1.2.3", "")}, []string{"1.2.3"}, []string{"1.2.3-rc", "1.2.4-rc", "2.0.0-rc"}},
		{[]impl.Bound{bound("1.2.2", "1.2.4")}, []string{"1.2.3"}, []string{"1.2.2-rc", "1.2.3-rc", "1.2.4-rc"}},
		{[]impl.Bound{bound("1.2.3", "2.0.0-rc.2")}, []string{"1.9.0"}, []string{"2.0.0-rc.1", "1.2.4-0", "2.0.0"}},
		// no Low
		{[]impl.Bound{bound("", "1.2.3-rc.2")}, []string{"1.2.2"}, []string{"1.2.3-rc.1", "1.2.3-0", "0.0.0-0", "1.2.3"}},
		{[]impl.Bound{bound("", "")}, nil, []string{"0.0.0-0", "0.0.0-a"}},
		// Low with Pre: the same three numbers and others
		{[]impl.Bound{bound("1.2.3-rc.1", "")}, []string{"1.2.3-rc.1", "1.2.3-rc.1.0", "1.2.3-rc.2", "1.2.3-rc.10", "1.2.3-s", "1.2.3", "1.2.4", "9.0.0"}, []string{"1.2.3-rc.0", "1.2.3-rc", "1.2.3-1", "1.2.4-rc.2", "1.3.3-rc.2", "2.2.3-rc.2", "1.2.2-rc.2", "1.2.2"}},
		{[]impl.Bound{bound("1.2.3-b", "1.2.3-d")}, []string{"1.2.3-b", "1.2.3-c", "1.2.3-c.9"}, []string{"1.2.3-a", "1.2.3-d", "1.2.3-e", "1.2.3"}},
		{[]impl.Bound{bound("1.2.3-b", "1.2.3")}, []string{"1.2.3-b", "1.2.3-z"}, []string{"1.2.3", "1.2.3-a"}},
		{[]impl.Bound{bound("0.0.0-0", "")}, []string{"0.0.0-0", "0.0.0-a", "0.0.0"}, []string{"0.0.1-0", "0.1.0-0", "1.0.0-0"}},
		// the bound that contains the version must itself have such a Low
		{[]impl.Bound{bound("1.0.0", "3.0.0"), bound("2.0.0-rc.5", "")}, []string{"2.0.0-rc.5", "2.0.0-rc.6"}, []string{"2.0.0-rc.4", "2.0.1-rc.6"}},
		{[]impl.Bound{bound("", ""), bound("2.0.0-b", "2.0.0-c")}, []string{"2.0.0-b", "1.0.0"}, []string{"2.0.0-a", "2.0.0-c", "2.0.0-d"}},
		{[]impl.Bound{bound("2.0.0-b", "2.0.0-c"), bound("1.0.0-a", "3.0.0")}, []string{"2.0.0-b", "1.0.0-a", "1.0.0-b"}, []string{"2.0.0-c", "2.0.0-a"}},
		{[]impl.Bound{bound("1.0.0-a", ""), bound("2.0.0-a", "")}, []string{"1.0.0-b", "2.0.0-b"}, []string{"3.0.0-b", "1.0.1-b"}},
	}
	for _, c := range cases {
		checkIn(t, c.r, c.yes, c.no)
	}
}

// rangeForms are texts of ranges beside what RangeText writes for them.
func rangeForms() map[string]string {
	return map[string]string{
		"*":                      "*",
		"1.2.3":                  ">=1.2.3 <1.2.4-0",
		"0.0.0":                  ">=0.0.0 <0.0.1-0",
		"1.2.3-rc":               ">=1.2.3-rc <1.2.3-rc.0",
		"1.2.3-0":                ">=1.2.3-0 <1.2.3-0.0",
		"1.2.3-rc.1":             ">=1.2.3-rc.1 <1.2.3-rc.1.0",
		"1.2.3-a.b.c.d":          ">=1.2.3-a.b.c.d <1.2.3-a.b.c.d.0",
		"1.2.3--":                ">=1.2.3-- <1.2.3--.0",
		"1.2.999999999-rc":       ">=1.2.999999999-rc <1.2.999999999-rc.0",
		"999999999.999999999.0":  ">=999999999.999999999.0 <999999999.999999999.1-0",
		"1":                      ">=1.0.0 <2.0.0-0",
		"0":                      ">=0.0.0 <1.0.0-0",
		"10":                     ">=10.0.0 <11.0.0-0",
		"999999998":              ">=999999998.0.0 <999999999.0.0-0",
		"1.2":                    ">=1.2.0 <1.3.0-0",
		"0.0":                    ">=0.0.0 <0.1.0-0",
		"1.0":                    ">=1.0.0 <1.1.0-0",
		"1.9":                    ">=1.9.0 <1.10.0-0",
		"999999999.2":            ">=999999999.2.0 <999999999.3.0-0",
		"1.999999998":            ">=1.999999998.0 <1.999999999.0-0",
		"^1.2.3":                 ">=1.2.3 <2.0.0-0",
		"^1.0.0":                 ">=1.0.0 <2.0.0-0",
		"^1.2.3-rc.1":            ">=1.2.3-rc.1 <2.0.0-0",
		"^1.2.3-a.b.c.d.e":       ">=1.2.3-a.b.c.d.e <2.0.0-0",
		"^0.2.3":                 ">=0.2.3 <0.3.0-0",
		"^0.2.0":                 ">=0.2.0 <0.3.0-0",
		"^0.2.3-rc":              ">=0.2.3-rc <0.3.0-0",
		"^0.0.3":                 ">=0.0.3 <0.0.4-0",
		"^0.0.3-rc":              ">=0.0.3-rc <0.0.4-0",
		"^0.0.0":                 ">=0.0.0 <0.0.1-0",
		"^0.0.0-rc":              ">=0.0.0-rc <0.0.1-0",
		"^1.999999999.999999999": ">=1.999999999.999999999 <2.0.0-0",
		"^0.1.999999999":         ">=0.1.999999999 <0.2.0-0",
		"^999999998.0.0":         ">=999999998.0.0 <999999999.0.0-0",
		"~1.2.3":                 ">=1.2.3 <1.3.0-0",
		"~1.2.3-rc.1":            ">=1.2.3-rc.1 <1.3.0-0",
		"~1.2.3-a.b.c.d.e":       ">=1.2.3-a.b.c.d.e <1.3.0-0",
		"~0.0.0":                 ">=0.0.0 <0.1.0-0",
		"~0.0.3":                 ">=0.0.3 <0.1.0-0",
		"~1.0.0-0":               ">=1.0.0-0 <1.1.0-0",
		"~999999999.2.999999999": ">=999999999.2.999999999 <999999999.3.0-0",
		">=1.2.3":                ">=1.2.3",
		">=1.2.3-rc":             ">=1.2.3-rc",
		">=0.0.0":                ">=0.0.0",
		">=999999999.999999999.999999999-a.b.c.d.e": ">=999999999.999999999.999999999-a.b.c.d.e",
		"<1.2.3":                              "<1.2.3",
		"<1.2.3-rc.1":                         "<1.2.3-rc.1",
		"<0.0.0":                              "<0.0.0",
		"<1.2.3-a.b.c.d.e":                    "<1.2.3-a.b.c.d.e",
		">=1.2.3 <2.0.0":                      ">=1.2.3 <2.0.0",
		">=1.2.3-a <1.2.3-b":                  ">=1.2.3-a <1.2.3-b",
		">=1.2.3-a <2.0.0":                    ">=1.2.3-a <2.0.0",
		">=1.2.3 <2.0.0-0":                    ">=1.2.3 <2.0.0-0",
		">=2.0.0 <1.0.0":                      ">=2.0.0 <1.0.0",
		">=1.0.0 <1.0.0":                      ">=1.0.0 <1.0.0",
		">=999999999.0.0 <0.999999999.0":      ">=999999999.0.0 <0.999999999.0",
		"1 || 3":                              ">=1.0.0 <2.0.0-0 || >=3.0.0 <4.0.0-0",
		"3 || 1":                              ">=3.0.0 <4.0.0-0 || >=1.0.0 <2.0.0-0",
		"1 || 1":                              ">=1.0.0 <2.0.0-0 || >=1.0.0 <2.0.0-0",
		"* || * || 1":                         "* || * || >=1.0.0 <2.0.0-0",
		"<1.0.0 || >=2.0.0 <3.0.0 || >=4.0.0": "<1.0.0 || >=2.0.0 <3.0.0 || >=4.0.0",
		"* || 1.2 || 1.2.3-a || ^1.2.3 || ~0.0.1 || 7": "* || >=1.2.0 <1.3.0-0 || >=1.2.3-a <1.2.3-a.0 || >=1.2.3 <2.0.0-0 || >=0.0.1 <0.1.0-0 || >=7.0.0 <8.0.0-0",
	}
}

func TestPromise3Forms(t *testing.T) {
	for s, want := range rangeForms() {
		r := readRange(t, s)
		if got := impl.RangeText(r); got != want {
			t.Errorf("ReadRange(%q) is %q, want %q", s, got, want)
		}
		if again := readRange(t, want); !slices.Equal(again, r) {
			t.Errorf("ReadRange(%q) = %q, want %q", want, again, r)
		}
	}
	if r := readRange(t, "* || <2.0.0-a || >=1.0.0 || ~1.2.3"); !slices.Equal(r, []impl.Bound{bound("", ""), bound("", "2.0.0-a"), bound("1.0.0", ""), bound("1.2.3", "1.3.0-0")}) {
		t.Errorf("the bounds are %q", r)
	}
}

func checkNoRange(t *testing.T, s string) {
	t.Helper()
	if r, ok := impl.ReadRange(s); ok || len(r) != 0 {
		t.Errorf("ReadRange(%q) = %q, %v", s, r, ok)
	}
}

func TestPromise3InvalidTexts(t *testing.T) {
	list := []string{
		"", " ", "x", "**", "* ", " *", "*.1", "1.*", "1.x", "1.2.x", "v1", "=1.2.3", "==1.2.3", "!1.2.3", "1.2.3 2.0.0", "1.2.3 - 2.0.0", "1.0.0,2.0.0",
		" 1.2.3", "1.2.3 ", " 1", "1 ", "^ 1.2.3", "~ 1.2.3", ">= 1.2.3", "< 1.2.3", " ^1.2.3", "^1.2.3 ", " >=1.2.3", ">=1.2.3 ", " <1.2.3", "<1.2.3 ",
		">=1.0.0  <2.0.0", ">=1.0.0<2.0.0", ">=1.0.0 < 2.0.0", ">= 1.0.0 <2.0.0", ">=1.0.0 <2.0.0 ", " >=1.0.0 <2.0.0", ">=1.0.0\t<2.0.0", ">=1.0.0\n<2.0.0",
		"<2.0.0 >=1.0.0", "<2.0.0 <3.0.0", ">=1.0.0 >=2.0.0", ">=1.0.0 <2.0.0 <3.0.0", ">=1.0.0 <", ">= <1.0.0", ">=1.0.0 1.2.3", ">=1.0.0 ^1.2.3", "1.0.0 <2.0.0", "^1.0.0 <2.0.0", ">=1.0.0 *", "* <2.0.0",
		">1.0.0", "<=1.0.0", ">1.0.0 <2.0.0", ">=1.0.0 <=2.0.0", "=>1.0.0", ">", ">=", "<", "^", "~", "||", "|", " || ", "-", ".", "..", "-rc",
		"^^1.2.3", "~~1.2.3", "^~1.2.3", "~^1.2.3", "^*", "~*", ">=*", "<*", "^>=1.2.3", "~>1.2.3", ">=^1.2.3", ">=>=1.2.3", "<<1.2.3", ">=<1.2.3", "<>=1.2.3",
		"1 || ", " || 1", "1 ||", "|| 1", "1 || || 2", "1 ||  || 2", "1||2", "1 ||2", "1|| 2", "1  || 2", "1 ||  2", "1 | 2", "1 ||| 2", "1\t||\t2", "1 || 2 || ", "1 || x", "x || 1", "1 || 2 x || 3", " 1 || 2", "1 || 2 ",
		"01", "00", "01.2", "1.02", "1.00", "01.2.3", "1.02.3", "1.2.03", "1.2.3-01", "1.2.3-a.00", "^01.2.3", "~1.02.3", ">=1.2.03", "<01.2.3", ">=1.0.0 <02.0.0", ">=01.0.0 <2.0.0",
		"^1", "^1.2", "~1", "~1.2", ">=1", ">=1.2", "<1", "<1.2", ">=1 <2", ">=1.0.0 <2", ">=1 <2.0.0", ">=1.2 <2.0.0", ">=1.0.0 <1.2", "^0", "~0", "^1-rc", "~1.2-rc", ">=1.2-rc", "<1-rc",
		"1-rc", "1.2-rc", "1-0", "1.2-0", "1-rc.1", "1-rc.1.2", "1.2-rc.1", "1-a.b", "1.2-a.b.c", "1-", "1.2-", "1.", ".1", "1..", "1.2.", "1..2", ".1.2", "1.2.3.", "1.2.3.4", "1.2.3-", "1.2.3-.", "+1", "-1", "1e3", "0x1",
		"1000000000", "1.1000000000", "1.2.1000000000", "^1000000000.0.0", "~1.2.1000000000", ">=1.1000000000.0", "<1000000000.0.0", "1.2.3-1000000000",
		"1.2.3-a_b", "1.2.3+a", "1.2.3-" + longId + "u", "^1.2.3-a..b", ">=1.2.3-a.b.c.d.e.f", "<1.2.3-a.b.c.d.e.f", "^1.2.3-a.b.c.d.e.f", "\x00", "1\x00", "\xff", "\u0661", "1.2.3\n", "1\n", "*\n",
	}
	for _, s := range list {
		checkNoRange(t, s)
		checkNoRange(t, "* || "+s)
		checkNoRange(t, s+" || *")
	}
}

func TestPromise3NoSuchVersion(t *testing.T) {
	list := []string{
		"999999999", "1.999999999", "0.999999999", "999999999.999999999", "1.2.999999999", "0.0.999999999", "999999999.999999999.999999999",
		"^999999999.0.0", "^999999999.2.3", "^999999999.2.3-rc", "^0.999999999.0", "^0.999999999.3-rc", "^0.0.999999999", "^0.0.999999999-rc",
		"~1.999999999.0", "~1.999999999.3-rc", "~0.999999999.0", "~999999999.999999999.999999999", "1.2.3-a.b.c.d.e", "1.2.3-0.0.0.0.0", "1.2.999999999-a.b.c.d.e",
	}
	for _, s := range list {
		checkNoRange(t, s)
		checkNoRange(t, "1 || "+s)
		checkNoRange(t, s+" || 1")
	}
}

// versionOfSize returns a version text of that many bytes, 7 to 110.
func versionOfSize(size int) string {
	text := []byte("1.0.0-" + strings.Repeat("a", size-6))
	for i := 26; i < size; i += 21 {
		text[i] = '.'
	}
	return string(text)
}

func TestPromise3Limits(t *testing.T) {
	for _, c := range []struct {
		text string
		size int
	}{
		{">=" + versionOfSize(98) + " <" + versionOfSize(98), 200},
		{">=" + versionOfSize(99) + " <" + versionOfSize(98), 201},
		{">=" + versionOfSize(98) + " <" + versionOfSize(99), 201},
		{">=" + versionOfSize(110) + " <" + versionOfSize(110), 224},
		{"^" + versionOfSize(96) + " || <" + versionOfSize(98), 200},
		{"^" + versionOfSize(97) + " || <" + versionOfSize(98), 201},
	} {
		r, ok := impl.ReadRange(c.text)
		if len(c.text) != c.size || ok != (c.size <= 200) || ok != (len(r) > 0) {
			t.Errorf("ReadRange(%q) of %d bytes = %q, %v", c.text, len(c.text), r, ok)
		}
	}
	for _, one := range []string{"*", "1", "1.2", "^1.2.3", "<1.2.3-rc", ">=1.0.0 <2.0.0"} {
		for size := 1; size <= 10; size++ {
			s := strings.Join(slices.Repeat([]string{one}, size), " || ")
			r, ok := impl.ReadRange(s)
			if want := size <= 8; ok != want || want != (len(r) == size) || !want && len(r) != 0 {
				t.Errorf("ReadRange(%q) = %q, %v", s, r, ok)
			}
		}
	}
	for size := range 6 {
		s := "1.2.3-" + strings.Join(slices.Repeat([]string{"x"}, size+1), ".")
		if _, ok := impl.ReadRange(s); ok != (size+1 <= 4) {
			t.Errorf("ReadRange(%q): %v", s, ok)
		}
	}
}

var (
	limitsForm  = regexp.MustCompile(`^(?:>=([^ <>=]+))?( ?)(?:<([^ <>=]+))?$`)
	partialForm = regexp.MustCompile(`^(0|[1-9][0-9]{0,8})(?:\.(0|[1-9][0-9]{0,8}))?$`)
)

// below returns the text of the version with these numbers and Pre 0.
func below(numbers ...int) string {
	texts := []string{"0", "0", "0"}
	for i, n := range numbers {
		texts[i] = strconv.Itoa(n)
	}
	return strings.Join(texts, ".") + "-0"
}

// wantBound tells by the document's list of forms which bound an alternative denotes.
func wantBound(s string) (impl.Bound, bool) {
	version, mark := s, ""
	if s != "" && strings.ContainsAny(s[:1], "^~") {
		version, mark = s[1:], s[:1]
	}
	if isVersionText(version) {
		core, pre, _ := strings.Cut(version, "-")
		n := []int{}
		for part := range strings.SplitSeq(core, ".") {
			k, _ := strconv.Atoi(part)
			n = append(n, k)
		}
		high := version + ".0"
		switch {
		case mark == "~":
			high = below(n[0], n[1]+1)
		case mark == "^" && n[0] > 0:
			high = below(n[0] + 1)
		case mark == "^" && n[1] > 0:
			high = below(n[0], n[1]+1)
		case mark == "^" || pre == "":
			high = below(n[0], n[1], n[2]+1)
		}
		return bound(version, high), isVersionText(high)
	}
	if m := partialForm.FindStringSubmatch(s); m != nil {
		major, _ := strconv.Atoi(m[1])
		minor, err := strconv.Atoi(m[2])
		low, high := m[1]+".0.0", below(major+1)
		if err == nil {
			low, high = s+".0", below(major, minor+1)
		}
		return bound(low, high), isVersionText(high)
	}
	m := limitsForm.FindStringSubmatch(s)
	if s == "*" || s == "" || m == nil {
		return bound("", ""), s == "*"
	}
	for _, limit := range []string{m[1], m[3]} {
		if limit != "" && !isVersionText(limit) {
			return bound("", ""), false
		}
	}
	return bound(m[1], m[3]), (m[2] == " ") == (m[1] != "" && m[3] != "")
}

func wantRange(s string) ([]impl.Bound, bool) {
	list := []impl.Bound{}
	for text := range strings.SplitSeq(s, " || ") {
		b, ok := wantBound(text)
		if !ok {
			return nil, false
		}
		list = append(list, b)
	}
	return list, len(s) <= 200 && len(list) <= 8
}

func TestPromise3OtherTexts(t *testing.T) {
	texts := allTexts("01.-^ ", 6)
	pieces := []string{"1.2.3", "0.0.0-a", "1", ".2", "0", "-rc", "^", "~", ">=", "<", " ", "||", " || ", "*"}
	last := []string{""}
	for range 4 {
		next := []string{}
		for _, s := range last {
			for _, piece := range pieces {
				next = append(next, s+piece)
			}
		}
		last = next
		texts = append(texts, next...)
	}
	for _, s := range last[:len(last)/4] {
		texts = append(texts, s+" <1.0.0", ">="+s, s+" || 0.1.0")
	}
	for c := range 256 {
		one := string([]byte{byte(c)})
		texts = append(texts, one, one+"1.2.3", "1.2.3"+one, one+"1", "1"+one, "1"+one+"2", ">"+one+"1.2.3", ">=1.2.3"+one+"<2.0.0", "1"+one+"|| 2", "1 |"+one+" 2", "1 ||"+one+"2")
	}
	ranges := 0
	for _, s := range texts {
		r, ok := impl.ReadRange(s)
		want, wantOk := wantRange(s)
		if ok != wantOk || ok && !slices.Equal(r, want) || !ok && len(r) != 0 {
			t.Errorf("ReadRange(%q) = %q, %v; want %q, %v", s, r, ok, want, wantOk)
		}
		if ok {
			ranges++
		}
	}
	if ranges < 1000 {
		t.Errorf("only %d of the texts are ranges", ranges)
	}
}

func randomRange(r *rand.Rand) []impl.Bound {
	limit := func() string {
		if r.Intn(4) == 0 {
			return ""
		}
		return impl.VersionText(randomVersion(r))
	}
	list := []impl.Bound{}
	for range 1 + r.Intn(8) {
		list = append(list, bound(limit(), limit()))
	}
	return list[:1+r.Intn(len(list))]
}

func TestPromise3Recovered(t *testing.T) {
	r := rand.New(rand.NewSource(5))
	short, long := 0, 0
	for range 5000 {
		want := randomRange(r)
		s := impl.RangeText(want)
		if s == "" {
			t.Errorf("RangeText(%q) is empty", want)
		}
		if len(s) > 200 {
			checkNoRange(t, s)
			long++
			continue
		}
		if got, ok := impl.ReadRange(s); !ok || !slices.Equal(got, want) {
			t.Errorf("ReadRange(%q) = %q, %v; want %q", s, got, ok, want)
		}
		short++
	}
	if short < 1000 || long < 100 {
		t.Errorf("%d short and %d long texts", short, long)
	}
}

func TestRangeText(t *testing.T) {
	cases := []struct {
		r    []impl.Bound
		want string
	}{
		{[]impl.Bound{bound("", "")}, "*"},
		{[]impl.Bound{bound("1.0.0", "")}, ">=1.0.0"},
		{[]impl.Bound{bound("", "1.0.0-a")}, "<1.0.0-a"},
		{[]impl.Bound{bound("1.0.0", "2.0.0-0")}, ">=1.0.0 <2.0.0-0"},
		{[]impl.Bound{bound("2.0.0", "1.0.0")}, ">=2.0.0 <1.0.0"},
		{[]impl.Bound{bound("", ""), bound("", "1.0.0"), bound("2.0.0", "3.0.0"), bound("4.0.0", "")}, "* || <1.0.0 || >=2.0.0 <3.0.0 || >=4.0.0"},
		{make([]impl.Bound, 8), "* || * || * || * || * || * || * || *"},
		{slices.Repeat([]impl.Bound{bound(versionOfSize(110), "")}, 8), strings.Join(slices.Repeat([]string{">=" + versionOfSize(110)}, 8), " || ")},
	}
	for _, c := range cases {
		if got := impl.RangeText(c.r); got != c.want {
			t.Errorf("RangeText(%q) = %q, want %q", c.r, got, c.want)
		}
	}
	for _, r := range badRanges() {
		if got := impl.RangeText(r); got != "" {
			t.Errorf("RangeText(%q) = %q", r, got)
		}
	}
}

// neighbours returns versions close to s, among them those that other ranges of it would contain.
func neighbours(s string) []string {
	core, _, _ := strings.Cut(s, "-")
	return []string{s, s + ".0", s + ".0.0", s + ".a", s + "-", s + "-0", s + "0", core, core + "-0", core + "-a", core + "-zz", core + "-zz.0", core + "0", core + "0-0", core + "1"}
}

func TestPromise3Exact(t *testing.T) {
	order := ascendingVersions()
	others := slices.Clone(order)
	for _, s := range order {
		others = append(others, neighbours(s)...)
		v := readVersion(t, s)
		for part := range 3 {
			others = append(others, neighbours(impl.VersionText(impl.Next(v, part)))...)
		}
	}
	for _, s := range order {
		v := readVersion(t, s)
		r := impl.Exact(s)
		if len(v.Pre) == 5 || len(v.Pre) == 0 && v.Patch == 999999999 {
			if len(r) != 0 {
				t.Errorf("Exact(%q) = %q", s, r)
			}
			continue
		}
		if read := readRange(t, s); len(r) != 1 || !slices.Equal(r, read) {
			t.Errorf("Exact(%q) = %q, but ReadRange returns %q", s, r, read)
		}
		for _, other := range others {
			if impl.In(other, r) != (other == s) {
				t.Errorf("%q is in the range of %q alone: %v", other, s, other != s)
			}
		}
	}
}

func TestExact(t *testing.T) {
	good := map[string]impl.Bound{
		"1.2.3":                   bound("1.2.3", "1.2.4-0"),
		"0.0.0":                   bound("0.0.0", "0.0.1-0"),
		"1.2.3-rc":                bound("1.2.3-rc", "1.2.3-rc.0"),
		"1.2.999999998":           bound("1.2.999999998", "1.2.999999999-0"),
		"1.2.999999999-a":         bound("1.2.999999999-a", "1.2.999999999-a.0"),
		"1.2.3-a.b.c.d":           bound("1.2.3-a.b.c.d", "1.2.3-a.b.c.d.0"),
		"999999999.999999999.7":   bound("999999999.999999999.7", "999999999.999999999.8-0"),
		"999999999.999999999.7-9": bound("999999999.999999999.7-9", "999999999.999999999.7-9.0"),
	}
	for s, want := range good {
		if got := impl.Exact(s); !slices.Equal(got, []impl.Bound{want}) {
			t.Errorf("Exact(%q) = %q", s, got)
		}
	}
	bad := append(noLimits(), "", "~1.2.3", "<1.2.3", ">=1.2.3 <1.2.4-0", "1.2.3 || 1.2.3", "1.2.999999999", "0.0.999999999", "999999999.999999999.999999999", "1.2.3-a.b.c.d.e", "1.2.999999999-a.b.c.d.e")
	for _, s := range bad {
		if got := impl.Exact(s); len(got) != 0 {
			t.Errorf("Exact(%q) = %q", s, got)
		}
	}
}

func TestPick(t *testing.T) {
	list := []string{"1.0.0", "1.5.0", "", "2.0.0", "1.10.0", "3.0.0-rc.1", "x", "1.10.0", "2", "3.0.0-rc.10", "3.0.0-rc.2", "1.9.0", "01.11.0"}
	cases := map[string]string{
		"*": "2.0.0", "1": "1.10.0", "1.5": "1.5.0", "~1.9.0": "1.9.0", "<1.0.0": "", "<1.5.0": "1.0.0", ">=2.0.1": "", "^3.0.0": "", "3": "",
		">=3.0.0-rc.1": "3.0.0-rc.10", ">=3.0.0-rc.0 <3.0.0-rc.10": "3.0.0-rc.2", ">=2.0.0-rc.1": "2.0.0", "3.0.0-rc.1": "3.0.0-rc.1", "3.0.0-rc": "",
		"2 || 1": "2.0.0", "1 || 2": "2.0.0", "3.0.0-rc.2 || *": "3.0.0-rc.2", "1.5.0 || 1.0.0": "1.5.0", ">=2.0.0 <1.0.0": "",
	}
	for s, want := range cases {
		if got := impl.Pick(list, readRange(t, s)); got != want {
			t.Errorf("Pick for %q = %q, want %q", s, got, want)
		}
	}
	all := readRange(t, "*")
	for _, list := range [][]string{nil, {}, {""}, {"x", "1", "1.2", "*", "1.0.0-01"}, {"1.0.0-a", "1.0.0-b"}} {
		if got := impl.Pick(list, all); got != "" {
			t.Errorf("Pick(%q) = %q", list, got)
		}
	}
	for _, r := range badRanges() {
		if got := impl.Pick([]string{"", "1.0.0", "5.0.0"}, r); got != "" {
			t.Errorf("Pick for %q = %q", r, got)
		}
	}
	if got := impl.Pick([]string{"1.0.0", "1.0.0", "1.0.0"}, all); got != "1.0.0" {
		t.Errorf("Pick of equal elements = %q", got)
	}
}

// randomList returns a list in which versions are repeated and other texts occur.
func randomList(r *rand.Rand) []string {
	list := []string{}
	for range r.Intn(20) {
		list = append(list, impl.VersionText(randomVersion(r)), []string{"x", "", "1", "1.0.0", "0.1.1-a"}[r.Intn(5)])
	}
	return list
}

func TestPromise3Pick(t *testing.T) {
	r := rand.New(rand.NewSource(6))
	found := 0
	for range 3000 {
		list, bounds := randomList(r), randomRange(r)
		got := impl.Pick(list, bounds)
		if got != "" && (!impl.In(got, bounds) || !slices.Contains(list, got)) {
			t.Errorf("Pick(%q, %q) = %q", list, bounds, got)
		}
		for _, s := range list {
			if impl.In(s, bounds) && (got == "" || impl.CompareVersion(readVersion(t, s), readVersion(t, got)) > 0) {
				t.Errorf("Pick(%q, %q) = %q, not %q", list, bounds, got, s)
			}
		}
		if got != "" {
			found++
		}
	}
	if found < 500 {
		t.Errorf("only %d versions were picked", found)
	}
}

func TestHoles(t *testing.T) {
	list := []string{"1.0.0", "1.5.0", "", "2.0.0", "1.10.0", "3.0.0-rc.1", "x", "2.0.0", "3.0.0", "4.0.0", "0.1.0", "1.5.0-b"}
	cases := map[string][]string{
		"*":                             {"1.5.0-b", "3.0.0-rc.1"},
		"1 || 3":                        {"1.5.0-b", "2.0.0", "3.0.0-rc.1"},
		"3 || 1":                        {"1.5.0-b", "2.0.0", "3.0.0-rc.1"},
		"0 || 4":                        {"1.0.0", "1.5.0-b", "1.5.0", "1.10.0", "2.0.0", "3.0.0-rc.1", "3.0.0"},
		"1.0 || 2 || 4":                 {"1.5.0-b", "1.5.0", "1.10.0", "3.0.0-rc.1", "3.0.0"},
		"0 || >=1.5.0-a <1.5.0 || 1.10": {"1.0.0", "1.5.0"},
		">=3.0.0-rc.0":                  nil,
		">=1.5.0-a":                     {"3.0.0-rc.1"},
		"1.10.0":                        nil,
		"1.0.0 || 1.5.0":                {"1.5.0-b"},
		"1.0.0 || 1.5.0-b":              nil,
		"9":                             nil,
	}
	for s, want := range cases {
		if got := impl.Holes(list, readRange(t, s)); !slices.Equal(got, want) {
			t.Errorf("Holes for %q = %q, want %q", s, got, want)
		}
	}
	ends := readRange(t, "1 || 3")
	for _, list := range [][]string{nil, {}, {"", "x", "2"}, {"1.0.0", "2.0.0"}, {"2.0.0", "3.0.0"}, {"2.0.0"}, {"1.0.0", "x", "2", "3.0.0"}, {"1.0.0", "1.0.0", "0.0.0", "9.0.0"}} {
		if got := impl.Holes(list, ends); len(got) != 0 {
			t.Errorf("Holes(%q) = %q", list, got)
		}
	}
	if got := impl.Holes([]string{"3.0.0", "2.0.0", "2.0.0", "3.0.0", "1.0.0", "1.0.0"}, ends); !slices.Equal(got, []string{"2.0.0"}) {
		t.Errorf("Holes of equal elements = %q", got)
	}
	for _, r := range badRanges() {
		if got := impl.Holes([]string{"1.0.0", "1.5.0-a", "9.0.0", "2.0.0"}, r); len(got) != 0 {
			t.Errorf("Holes for %q = %q", r, got)
		}
	}
}

func TestHolesByDefinition(t *testing.T) {
	r := rand.New(rand.NewSource(7))
	found := 0
	for range 2000 {
		list, bounds := randomList(r), randomRange(r)
		sorted := impl.SortVersions(list)
		isIn := func(s string) bool { return impl.In(s, bounds) }
		want := []string{}
		for i, s := range sorted {
			if !isIn(s) && slices.ContainsFunc(sorted[:i], isIn) && slices.ContainsFunc(sorted[i+1:], isIn) {
				want = append(want, s)
			}
		}
		if got := impl.Holes(list, bounds); !slices.Equal(got, want) {
			t.Errorf("Holes(%q, %q) = %q, want %q", list, bounds, got, want)
		}
		found += len(want)
	}
	if found < 500 {
		t.Errorf("only %d holes were found", found)
	}
}

func TestPromise16RangeReturns(t *testing.T) {
	texts := append(byteTexts(), allTexts("1.^ |", 5)...)
	texts = append(texts, strings.Repeat(" || ", 10000), strings.Repeat("1 || ", 10000), strings.Repeat("^", 200), strings.Repeat(".", 200), strings.Repeat(" ", 200))
	ranges := append(badRanges(), readRange(t, "* || 1"))
	for _, s := range texts {
		impl.ReadRange(s)
		impl.Exact(s)
		r := []impl.Bound{bound(s, s)}
		impl.RangeOk(r)
		impl.RangeText(r)
		impl.In(s, r)
		impl.Pick([]string{s, "1.0.0"}, r)
		impl.Holes([]string{s, "1.0.0"}, r)
	}
	for _, r := range ranges {
		for _, s := range []string{"", "x", "1.0.0", "1.0.0-a"} {
			impl.In(s, r)
		}
		impl.Pick(nil, r)
		impl.Holes(nil, r)
	}
	impl.Pick(texts, ranges[len(ranges)-1])
	impl.Holes(texts, ranges[len(ranges)-1])
}

// spareRange returns a range with spare capacity, and all its memory.
func spareRange(bounds ...impl.Bound) ([]impl.Bound, []impl.Bound) {
	memory := append(bounds, bound("spare", "spare"), bound("spare", "spare"))
	return memory[:len(bounds)], memory
}

func TestPromise16RangeArguments(t *testing.T) {
	list, listMemory := spareList("3.0.0", "x", "2.0.0", "1.0.0", "1.0.0", "2.0.0-a")
	listBefore := slices.Clone(listMemory)
	ranges := [][]impl.Bound{{bound("3.0.0", ""), bound("", "2.0.0-0")}, {bound("x", "")}, {}, slices.Repeat([]impl.Bound{bound("1.0.0-a", "")}, 8), make([]impl.Bound, 9)}
	for _, bounds := range ranges {
		r, memory := spareRange(bounds...)
		before := slices.Clone(memory)
		impl.RangeOk(r)
		impl.RangeText(r)
		impl.In("2.0.0", r)
		impl.Pick(list, r)
		impl.Holes(list, r)
		if !slices.Equal(memory, before) {
			t.Errorf("the range was modified: %q", memory)
		}
	}
	if !slices.Equal(listMemory, listBefore) {
		t.Errorf("the list was modified: %q", listMemory)
	}
}

func checkApart(t *testing.T, what string, results []string, arguments []string) {
	t.Helper()
	for i, a := range results {
		for _, b := range slices.Concat(arguments, results[:i]) {
			if shares(a, b) {
				t.Errorf("%s: %q shares memory with %q", what, a, b)
			}
		}
	}
}

func limitsOf(r []impl.Bound) []string {
	list := []string{}
	for _, b := range r {
		list = append(list, b.Low, b.High)
	}
	return list
}

func TestPromise16RangeMemory(t *testing.T) {
	for s := range rangeForms() {
		text := strings.Clone(s)
		r := readRange(t, text)
		checkApart(t, "ReadRange", limitsOf(r), []string{text})
		out := impl.RangeText(r)
		checkApart(t, "RangeText", []string{out}, limitsOf(r))
		want := slices.Clone(r)
		clear(r[:cap(r)])
		if again := readRange(t, text); !slices.Equal(again, want) {
			t.Errorf("two results of ReadRange(%q) share memory", text)
		}
	}
	for _, s := range []string{"1.2." + strconv.Itoa(33), "1.2.3-rc." + strconv.Itoa(44)} {
		r := impl.Exact(s)
		checkApart(t, "Exact", limitsOf(r), []string{s})
		clear(r[:cap(r)])
		if again := impl.Exact(s); len(again) != 1 || again[0].Low != s {
			t.Errorf("two results of Exact(%q) share memory", s)
		}
	}
	list := []string{"1.0." + strconv.Itoa(55), "2.0." + strconv.Itoa(66), "2.1." + strconv.Itoa(77), "3.0." + strconv.Itoa(88)}
	r := readRange(t, "1 || 3")
	checkApart(t, "Pick", []string{impl.Pick(list, r)}, append(limitsOf(r), list...))
	holes := impl.Holes(list, r)
	checkApart(t, "Holes", holes, append(limitsOf(r), list...))
	want := slices.Clone(holes)
	clear(holes[:cap(holes)])
	if again := impl.Holes(list, r); len(want) != 2 || !slices.Equal(again, want) || list[1] != want[0] {
		t.Errorf("Holes = %q after the first result was cleared", again)
	}
}
