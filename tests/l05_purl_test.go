package tests

import (
	"encoding/base64"
	"encoding/hex"
	"maps"
	"math"
	"math/rand"
	"regexp"
	"slices"
	"strings"
	"testing"

	"loop.example/g00445/impl"
)

var kindNames = []string{"npm", "cargo", "golang", "pypi"}

// noKinds are numbers that are no kind.
var noKinds = []int{-1, -2, -4, -1000, 4, 5, 7, 256, 1 << 32, math.MaxInt, math.MinInt}

// nearTexts returns all texts that one byte removed from s, replaced in it or inserted into it makes, and all that begin or end s.
func nearTexts(s string) []string {
	list := []string{}
	for i := range len(s) + 1 {
		list = append(list, s[:i], s[i:])
		if i < len(s) {
			list = append(list, s[:i]+s[i+1:])
		}
		for c := range 256 {
			one := string([]byte{byte(c)})
			list = append(list, s[:i]+one+s[i:])
			if i < len(s) {
				list = append(list, s[:i]+one+s[i+1:])
			}
		}
	}
	return list
}

func TestKinds(t *testing.T) {
	kinds := [impl.Kinds]int{impl.KNpm, impl.KCargo, impl.KGo, impl.KPypi}
	for i, name := range kindNames {
		if kinds[i] != i || impl.KindName(i) != name {
			t.Errorf("kind %d is %d, %q", i, kinds[i], impl.KindName(i))
		}
	}
	for _, k := range noKinds {
		if got := impl.KindName(k); got != "" {
			t.Errorf("KindName(%d) = %q", k, got)
		}
	}
}

// purlNames returns names with one and more components and with every byte that a name may have.
func purlNames() []string {
	list := []string{
		"left-pad", "@org/ui", "@org", "golang.org/x/text", "a/b", "a/b/c/d", "@a/b/c", "..", "./..", "--", "@-/_", "40/40", "@40",
		"@node_modules", "@node_modules/a", "node_modules2", "x/node-modules", "@pkg/npm", "npm/a",
		strings.Repeat("a", 60), "@" + strings.Repeat("a", 59), strings.Repeat("a/", 29) + "ab", "@" + strings.Repeat("a/", 29) + "b",
	}
	for _, c := range "abcdefghijklmnopqrstuvwxyz0123456789._-" {
		one := string(c)
		list = append(list, one, "@"+one, one+"/"+one, "@x/"+one, "@"+one+"/y", "@"+one+"/"+one+"z"+one)
	}
	return list
}

func badNames() []string {
	return []string{
		"", "@", "/", "@/", "@/a", "/a", "a/", "a//b", "A", "aB", "a b", "a@b", "a@", "@@a", "a/@b", "@a/@b", "a\\b", "a%b", "%40a", "%61", "a~b", "a+b", "a:b",
		"node_modules", "a/node_modules", "node_modules/a", "@a/node_modules", "\x00", "a\n", "\xff", "\u00e9", strings.Repeat("a", 61), "@" + strings.Repeat("a", 60),
	}
}

// noVersions are texts that are no VersionText.
func noVersions() []string {
	return []string{
		"", "1", "1.0", "1.0.0.0", "01.0.0", "1.00.0", "1.0.0-", "1.0.0-01", "1.0.0-a..b", "1.0.0-a.b.c.d.e.f", "1.0.0-a_b", "1.0.0-a~b", "1.0.0+a", "v1.0.0", "^1.0.0", "*",
		"1.0.0 ", " 1.0.0", "1.0.0\n", "1.0.0@", "@1.0.0", "1.0.0/", "1%2E0%2E0", "1.0.0%2Da", "1000000000.0.0", "1.0.0-" + longId + "u", "\xff",
	}
}

func wantPutPurl(k int, name string, version string) string {
	return "pkg:" + kindNames[k] + "/" + strings.ReplaceAll(name, "@", "%40") + "@" + version
}

func checkPurl(t *testing.T, s string, kind int, name string, version string) {
	t.Helper()
	if k, n, v := impl.GetPurl(s); k != kind || n != name || v != version {
		t.Errorf("GetPurl(%q) = %d, %q, %q; want %d, %q, %q", s, k, n, v, kind, name, version)
	}
}

func TestPromise5Purl(t *testing.T) {
	cases := []struct {
		kind                int
		name, version, want string
	}{
		{impl.KNpm, "@org/ui", "1.0.0-rc.1", "pkg:npm/%40org/ui@1.0.0-rc.1"},
		{impl.KNpm, "left-pad", "1.3.0", "pkg:npm/left-pad@1.3.0"},
		{impl.KCargo, "serde_json", "0.0.0", "pkg:cargo/serde_json@0.0.0"},
		{impl.KGo, "golang.org/x/text", "0.3.0", "pkg:golang/golang.org/x/text@0.3.0"},
		{impl.KPypi, "@node_modules", "10.0.0--", "pkg:pypi/%40node_modules@10.0.0--"},
		{impl.KPypi, "a", "999999999.999999999.999999999", "pkg:pypi/a@999999999.999999999.999999999"}, // Exact does not take it, but it is a version
	}
	for _, c := range cases {
		if got := impl.PutPurl(c.kind, c.name, c.version); got != c.want {
			t.Errorf("PutPurl(%d, %q, %q) = %q, want %q", c.kind, c.name, c.version, got, c.want)
		}
		checkPurl(t, c.want, c.kind, c.name, c.version)
	}
	versions := slices.Sorted(maps.Keys(goodVersions()))
	for k := range impl.Kinds {
		for _, name := range purlNames() {
			for _, version := range versions {
				want := wantPutPurl(k, name, version)
				if got := impl.PutPurl(k, name, version); got != want {
					t.Errorf("PutPurl(%d, %q, %q) = %q, want %q", k, name, version, got, want)
				}
				checkPurl(t, want, k, name, version)
			}
		}
	}
}

func TestPutPurlInvalid(t *testing.T) {
	check := func(k int, name string, version string) {
		t.Helper()
		if got := impl.PutPurl(k, name, version); got != "" {
			t.Errorf("PutPurl(%d, %q, %q) = %q, want none", k, name, version, got)
		}
	}
	for _, k := range noKinds {
		check(k, "@org/ui", "1.0.0")
		check(k, "", "")
	}
	for _, name := range badNames() {
		for k := range impl.Kinds {
			check(k, name, "1.0.0")
			check(k, name, "x")
		}
		check(-1, name, "1.0.0")
	}
	for _, version := range noVersions() {
		for k := range impl.Kinds {
			check(k, "@org/ui", version)
			check(k, "A", version)
		}
		check(impl.Kinds, "a", version)
	}
}

// Every text is a version here exactly if it is the VersionText of one; ReadVersion takes no others.
func TestPurlVersions(t *testing.T) {
	texts := append(allTexts("01.-", 7), noVersions()...)
	for _, s := range allTexts("01a-.%", 4) {
		texts = append(texts, "1.0.2-"+s, "0.0.0"+s)
	}
	for _, s := range append(texts, nearTexts("1.0.10-rc.1")...) {
		name, version, want := "", "", ""
		k := -1
		if isVersionText(s) {
			k, name, version, want = impl.KCargo, "@org/ui", s, "pkg:cargo/%40org/ui@"+s
		}
		v, ok := impl.ReadVersion(s)
		if ok != (want != "") || ok && impl.VersionText(v) != s {
			t.Errorf("ReadVersion(%q) = %+v, %v", s, v, ok)
		}
		if got := impl.PutPurl(impl.KCargo, "@org/ui", s); got != want {
			t.Errorf("PutPurl of the version %q = %q, want %q", s, got, want)
		}
		checkPurl(t, "pkg:cargo/%40org/ui@"+s, k, name, version)
	}
}

func TestGetPurlInvalid(t *testing.T) {
	bad := []string{
		"", " ", "pkg:", "pkg", "pkg:npm", "pkg:npm/", "pkg:npm/@", "pkg:npm/a", "pkg:npm/a@", "pkg:npm/@1.0.0", "pkg:npm@1.0.0", "pkg:npm/%40@1.0.0", "pkg:/a@1.0.0", "pkg:a@1.0.0", "pkg:@1.0.0",
		// the beginning
		"npm/a@1.0.0", ":npm/a@1.0.0", "PKG:npm/a@1.0.0", "pkg/npm/a@1.0.0", "pkg::npm/a@1.0.0", "pkg:/npm/a@1.0.0", "pkg://npm/a@1.0.0", " pkg:npm/a@1.0.0", "xpkg:npm/a@1.0.0", "pkg:pkg:npm/a@1.0.0", "npm/pkg:a@1.0.0",
		// the kind
		"pkg:gem/a@1.0.0", "pkg:NPM/a@1.0.0", "pkg:npm2/a@1.0.0", "pkg:np/a@1.0.0", "pkg:go/a@1.0.0", "pkg:0/a@1.0.0", "pkg:npm /a@1.0.0", "pkg:%6Epm/a@1.0.0", "pkg:npm%2Fa@1.0.0",
		// codes in lower case, codes for bytes that need none, and bytes without the code that they need
		"pkg:npm/%2e@1.0.0", "pkg:npm/a%2fb@1.0.0", "pkg:npm/%2D@1.0.0", "pkg:npm/%2d@1.0.0", "pkg:npm/%61@1.0.0", "pkg:npm/%40%61@1.0.0", "pkg:npm/%40org%2Fui@1.0.0", "pkg:npm/%40org/%75i@1.0.0", "pkg:npm/%4@1.0.0", "pkg:npm/%@1.0.0", "pkg:npm/a%@1.0.0", "pkg:npm/a%4@1.0.0",
		"pkg:npm/@org/ui@1.0.0", "pkg:npm/@a@1.0.0", "pkg:npm/a@1.0.0%2Drc", "pkg:npm/a@1%2E0.0", "pkg:npm/a@%31.0.0", "pkg:npm/a@1.0.0-%72c", "pkg:npm/a%401.0.0",
		// codes that are right, but not in a name
		"pkg:npm/a%40b@1.0.0", "pkg:npm/a/%40b@1.0.0", "pkg:npm/%40%40a@1.0.0", "pkg:npm/%41@1.0.0", "pkg:npm/a%20b@1.0.0", "pkg:npm/%2F@1.0.0", "pkg:npm/a%2Fb@1.0.0", "pkg:npm/%C3%A9@1.0.0", "pkg:npm/%00@1.0.0", "pkg:npm/%25@1.0.0",
		// one @ or slash too many
		"pkg:npm/a@@1.0.0", "pkg:npm/a@1.0.0@", "pkg:npm/a@1.0.0@1.0.0", "pkg:npm/a@b@1.0.0", "pkg:npm/%40org/ui@2.0.0@1.0.0", "pkg:npm/@%40org/ui@1.0.0",
		"pkg:npm//a@1.0.0", "pkg:npm/a/@1.0.0", "pkg:npm/a//b@1.0.0", "pkg:npm/%40org//ui@1.0.0", "pkg:npm/%40org/ui/@1.0.0", "pkg:npm/%40/ui@1.0.0", "pkg:npm/a@1.0.0/", "pkg:npm/a@/1.0.0", "pkg:npm/a@1.0.0/b", "pkg:npm/a/1.0.0",
		// names and versions that are none
		"pkg:npm/A@1.0.0", "pkg:npm/a~b@1.0.0", "pkg:npm/node_modules@1.0.0", "pkg:npm/a/node_modules@1.0.0", "pkg:npm/" + strings.Repeat("a", 61) + "@1.0.0", "pkg:npm/%40" + strings.Repeat("a", 60) + "@1.0.0",
		"pkg:npm/a@1", "pkg:npm/a@v1.0.0", "pkg:npm/a@01.0.0", "pkg:npm/a@1.0.0-", "pkg:npm/a@1.0.0-01", "pkg:npm/a@1.0.0+b", "pkg:npm/a@1.0.0 ", "pkg:npm/a@1.0.0\n", "pkg:npm/a@1.0.0?b=c", "pkg:npm/a@1.0.0#b", "pkg:npm/a@*",
	}
	for _, s := range bad {
		checkPurl(t, s, -1, "", "")
	}
	for _, name := range badNames() {
		parts := strings.Split(name, "/")
		for i, part := range parts {
			parts[i] = impl.PutPercent(part)
		}
		checkPurl(t, "pkg:npm/"+strings.Join(parts, "/")+"@1.0.0", -1, "", "")
	}
	for _, version := range noVersions() {
		checkPurl(t, "pkg:npm/%40org/ui@"+version, -1, "", "")
	}
}

var purlForm = regexp.MustCompile(`^pkg:(npm|cargo|golang|pypi)/((?:%40)?[a-z0-9._-]+(?:/[a-z0-9._-]+)*)@([^@]*)$`)

// wantPurl tells by the document's grammar what GetPurl returns.
func wantPurl(s string) (int, string, string) {
	m := purlForm.FindStringSubmatch(s)
	if m == nil || !isVersionText(m[3]) {
		return -1, "", ""
	}
	name := strings.Replace(m[2], "%40", "@", 1)
	if len(name) > 60 || slices.Contains(strings.Split(name, "/"), "node_modules") {
		return -1, "", ""
	}
	return slices.Index(kindNames, m[1]), name, m[3]
}

func TestPromise5OtherPurls(t *testing.T) {
	texts := []string{}
	for _, s := range allTexts("a@/%40", 6) {
		texts = append(texts, "pkg:npm/"+s+"@1.0.0")
	}
	for _, s := range allTexts("@/%240.-F", 4) {
		texts = append(texts, "pkg:golang/b"+s+"1.0.0", "pkg:pypi/%40b/c@1.0.0"+s, "pkg:cargo"+s+"b@1.0.0")
	}
	for _, s := range []string{"pkg:npm/%40org/ui@1.0.0-rc.1", "pkg:golang/golang.org/x/text@0.3.0", "pkg:pypi/" + strings.Repeat("a", 60) + "@1.0.0", "pkg:cargo/%40" + strings.Repeat("a", 59) + "@0.0.0-0"} {
		texts = append(texts, nearTexts(s)...)
		texts = append(texts, s+s, s+" "+s, strings.ToUpper(s), strings.ReplaceAll(s, "%", "%25"), strings.ReplaceAll(s, "%40", "@"))
	}
	taken := 0
	for _, s := range texts {
		k, name, version := wantPurl(s)
		checkPurl(t, s, k, name, version)
		if k >= 0 {
			taken++
			if got := impl.PutPurl(k, name, version); got != s {
				t.Errorf("PutPurl(%d, %q, %q) = %q, want %q", k, name, version, got, s)
			}
		}
	}
	if taken < 1000 || len(texts)-taken < 10000 {
		t.Errorf("only %d of %d texts are package URLs", taken, len(texts))
	}
}

// plainInId is the document's list of the bytes that an identifier keeps.
const plainInId = "ABCDEFGHIJKLMNOPQRSTUVWXYZabcdefghijklmnopqrstuvwxyz0123456789."

func wantSpdxId(key string) string {
	id := "SPDXRef-"
	for _, c := range []byte(key) {
		if strings.IndexByte(plainInId, c) >= 0 {
			id += string([]byte{c})
		} else {
			id += "-" + hex.EncodeToString([]byte{c}) + "-"
		}
	}
	return id
}

var (
	idForm   = regexp.MustCompile(`^SPDXRef-(?:[A-Za-z0-9.]|-[0-9a-f]{2}-)*$`)
	codeForm = regexp.MustCompile(`-[0-9a-f]{2}-`)
)

// wantFromSpdxId tells by the document's grammar what FromSpdxId returns.
func wantFromSpdxId(s string) string {
	if !idForm.MatchString(s) {
		return ""
	}
	plainCodes := 0
	key := codeForm.ReplaceAllStringFunc(strings.TrimPrefix(s, "SPDXRef-"), func(code string) string {
		one, _ := hex.DecodeString(code[1:3])
		if strings.IndexByte(plainInId, one[0]) >= 0 {
			plainCodes++
		}
		return string(one)
	})
	if plainCodes > 0 {
		return ""
	}
	return key
}

func checkFromSpdxId(t *testing.T, s string, want string) {
	t.Helper()
	if got := impl.FromSpdxId(s); got != want {
		t.Errorf("FromSpdxId(%q) = %q, want %q", s, got, want)
	}
}

func TestPromise5SpdxId(t *testing.T) {
	cases := map[string]string{
		"@org/ui@1.0.0":      "SPDXRef--40-org-2f-ui-40-1.0.0",
		"left-pad@1.3.0":     "SPDXRef-left-2d-pad-40-1.3.0",
		"a_b@1.0.0-rc.1":     "SPDXRef-a-5f-b-40-1.0.0-2d-rc.1",
		"":                   "SPDXRef-",
		"-":                  "SPDXRef--2d-",
		"--":                 "SPDXRef--2d--2d-",
		"-40-":               "SPDXRef--2d-40-2d-",
		"SPDXRef-":           "SPDXRef-SPDXRef-2d-",
		"AZaz09.":            "SPDXRef-AZaz09.",
		"\x00\n \x7f":        "SPDXRef--00--0a--20--7f-",
		"\x80\xff\u00e9":     "SPDXRef--80--ff--c3--a9-",
		"/:@[`{,;":           "SPDXRef--2f--3a--40--5b--60--7b--2c--3b-",
		"%~+":                "SPDXRef--25--7e--2b-",
		"\u0661\u00aa\u017f": "SPDXRef--d9--a1--c2--aa--c5--bf-", // a digit and letters elsewhere, but not bytes that are
	}
	for key, want := range cases {
		if got := impl.SpdxId(key); got != want {
			t.Errorf("SpdxId(%q) = %q, want %q", key, got, want)
		}
		checkFromSpdxId(t, want, key)
	}
	keys := append(byteTexts(), allTexts("a-0@.", 6)...)
	for a := range 256 {
		for b := range 256 {
			keys = append(keys, string([]byte{byte(a), byte(b)}))
		}
	}
	for _, name := range purlNames() {
		keys = append(keys, name+"@1.0.0-rc.1")
	}
	for _, key := range keys {
		id := impl.SpdxId(key)
		if len(key) < 1000 && id != wantSpdxId(key) {
			t.Errorf("SpdxId(%q) = %q", key, id)
		}
		checkFromSpdxId(t, id, key)
	}
}

func TestFromSpdxIdInvalid(t *testing.T) {
	bad := []string{
		"", "a", "a.b", "-40-", "SPDXRef", "SPDXRef-", "spdxref-a", "SPDXREF-a", "SPDXRef_a", "SPDXRefa", " SPDXRef-a", "xSPDXRef-a", "-40-SPDXRef-a", "PDXRef-a", "SPDXRef-SPDXRef-a", "aSPDXRef-",
		// codes in upper case
		"SPDXRef-a-2F-b", "SPDXRef--5F-", "SPDXRef--FF-", "SPDXRef--fF-", "SPDXRef--Ff-", "SPDXRef--2D-",
		// codes for a letter, a digit or a point
		"SPDXRef-a-41-", "SPDXRef--61-", "SPDXRef--5a-", "SPDXRef--7a-", "SPDXRef--30-", "SPDXRef--39-b", "SPDXRef--2e-", "SPDXRef--40--2e-", "SPDXRef--41--40-",
		// codes that are cut off or too long
		"SPDXRef--", "SPDXRef---", "SPDXRef----", "SPDXRef-a-", "SPDXRef-a-4", "SPDXRef-a-40", "SPDXRef-a-40-b-", "SPDXRef-a-40-b-4", "SPDXRef-a-40-b-40", "SPDXRef--4-", "SPDXRef--4-0", "SPDXRef-a--b", "SPDXRef-a---b", "SPDXRef--4040-", "SPDXRef--040-", "SPDXRef--400-", "SPDXRef-40-", "SPDXRef--40--", "SPDXRef--40---40-",
		// bytes that need a code, and codes that are none
		"SPDXRef-@", "SPDXRef-a@1.0.0", "SPDXRef-a b", "SPDXRef-a_b", "SPDXRef-a/b", "SPDXRef-a\n", "SPDXRef-\x00", "SPDXRef-\xff", "SPDXRef-\u00e9", "SPDXRef--40-\xff", "SPDXRef--g0-", "SPDXRef--0g-", "SPDXRef--0x-", "SPDXRef-- 4-", "SPDXRef--+4-", "SPDXRef--\xff\xff-", "SPDXRef--%40-",
	}
	for _, s := range bad {
		checkFromSpdxId(t, s, "")
	}
}

func TestPromise5OtherIds(t *testing.T) {
	texts := []string{}
	for _, s := range allTexts("-24dDe.", 6) {
		texts = append(texts, "SPDXRef-"+s)
	}
	for a := range 256 {
		for b := range 256 {
			texts = append(texts, "SPDXRef-x-"+string([]byte{byte(a), byte(b)})+"-y")
		}
	}
	for _, key := range []string{"@org/ui@1.0.0", "left-pad@1.3.0-rc.1", "\xff\x00"} {
		id := wantSpdxId(key)
		texts = append(texts, nearTexts(id)...)
		texts = append(texts, id+id, strings.ToUpper(id), strings.ToLower(id))
	}
	taken := 0
	for _, s := range texts {
		want := wantFromSpdxId(s)
		checkFromSpdxId(t, s, want)
		if want != "" {
			taken++
			if got := impl.SpdxId(want); got != s {
				t.Errorf("SpdxId(%q) = %q, want %q", want, got, s)
			}
		}
	}
	if taken < 1000 || len(texts)-taken < 10000 {
		t.Errorf("only %d of %d texts are identifiers", taken, len(texts))
	}
}

// wordOf is the text of one sum, whatever its Alg and Bytes.
func wordOf(s impl.Sum) string {
	return s.Alg + "-" + base64.StdEncoding.EncodeToString([]byte(s.Bytes))
}

func wantPutIntegrity(sums []impl.Sum) string {
	words := []string{}
	for _, s := range sums {
		if s.Alg == "sha1" || s.Alg == "sha256" || s.Alg == "sha512" {
			words = append(words, wordOf(s))
		}
	}
	return strings.Join(words, " ")
}

// wantSums tells by the document's grammar what GetIntegrity returns.
func wantSums(s string) ([]impl.Sum, bool) {
	sums := []impl.Sum{}
	if s == "" {
		return sums, true
	}
	sizes := map[string]int{"sha1": 20, "sha256": 32, "sha512": 64}
	last := ""
	for word := range strings.SplitSeq(s, " ") {
		alg, text, _ := strings.Cut(word, "-")
		value, err := base64.StdEncoding.Strict().DecodeString(text)
		if err != nil || sizes[alg] == 0 || len(value) != sizes[alg] || alg <= last || base64.StdEncoding.EncodeToString(value) != text {
			return nil, false
		}
		last = alg
		sums = append(sums, impl.Sum{Alg: alg, Bytes: string(value)})
	}
	return sums, true
}

func checkSums(t *testing.T, s string, want []impl.Sum, wantOk bool) {
	t.Helper()
	if got, ok := impl.GetIntegrity(s); ok != wantOk || !slices.Equal(got, want) {
		t.Errorf("GetIntegrity(%q) = %q, %v; want %q, %v", s, got, ok, want, wantOk)
	}
}

// subsetsOf returns all lists of some of the sums, in their order.
func subsetsOf(sums []impl.Sum) [][]impl.Sum {
	list := [][]impl.Sum{{}}
	for _, s := range sums {
		for _, smaller := range slices.Clone(list) {
			list = append(list, append(slices.Clip(smaller), s))
		}
	}
	return list
}

func randomSums(r *rand.Rand) []impl.Sum {
	sums := allSums()
	for i := range sums {
		b := make([]byte, len(sums[i].Bytes))
		r.Read(b)
		sums[i].Bytes = string(b)
	}
	return sums
}

func TestPromise5Integrity(t *testing.T) {
	digits := strings.Repeat("1234567890", 7)
	sha1, sha256, sha512 := impl.Sum{Alg: "sha1", Bytes: digits[:20]}, impl.Sum{Alg: "sha256", Bytes: digits[:32]}, impl.Sum{Alg: "sha512", Bytes: digits[:64]}
	h1 := impl.Sum{Alg: "h1", Bytes: digits[:32]}
	const (
		text1   = "sha1-MTIzNDU2Nzg5MDEyMzQ1Njc4OTA="
		text256 = "sha256-MTIzNDU2Nzg5MDEyMzQ1Njc4OTAxMjM0NTY3ODkwMTI="
		text512 = "sha512-MTIzNDU2Nzg5MDEyMzQ1Njc4OTAxMjM0NTY3ODkwMTIzNDU2Nzg5MDEyMzQ1Njc4OTAxMjM0NTY3ODkwMTIzNA=="
	)
	cases := []struct {
		sums []impl.Sum
		text string
		back []impl.Sum
	}{
		{nil, "", nil},
		{[]impl.Sum{}, "", nil},
		{[]impl.Sum{sha1}, text1, []impl.Sum{sha1}},
		{[]impl.Sum{sha256}, text256, []impl.Sum{sha256}},
		{[]impl.Sum{sha512}, text512, []impl.Sum{sha512}},
		{[]impl.Sum{sha1, sha512}, text1 + " " + text512, []impl.Sum{sha1, sha512}},
		{[]impl.Sum{sha1, sha256, sha512}, text1 + " " + text256 + " " + text512, []impl.Sum{sha1, sha256, sha512}},
		{[]impl.Sum{h1}, "", nil},
		{[]impl.Sum{h1, sha1}, text1, []impl.Sum{sha1}},
		{[]impl.Sum{h1, sha1, sha256, sha512}, text1 + " " + text256 + " " + text512, []impl.Sum{sha1, sha256, sha512}},
		{[]impl.Sum{sha1, h1, sha512}, text1 + " " + text512, []impl.Sum{sha1, sha512}},
	}
	for _, c := range cases {
		if got := impl.PutIntegrity(c.sums); got != c.text {
			t.Errorf("PutIntegrity(%q) = %q, want %q", c.sums, got, c.text)
		}
		checkSums(t, c.text, c.back, true)
	}
	r := rand.New(rand.NewSource(5))
	for range 200 {
		for _, sums := range subsetsOf(randomSums(r)) {
			text := impl.PutIntegrity(sums)
			if text != wantPutIntegrity(sums) {
				t.Errorf("PutIntegrity(%q) = %q", sums, text)
			}
			if len(sums) > 0 && sums[0].Alg == "h1" {
				sums = sums[1:]
			}
			checkSums(t, text, sums, true)
		}
	}
}

// PutIntegrity does not ask whether the sums are valid: it leaves out other Algs and keeps the order and all Bytes.
func TestPutIntegrityAnySums(t *testing.T) {
	cases := []struct {
		sums []impl.Sum
		want string
	}{
		{[]impl.Sum{{}}, ""},
		{[]impl.Sum{{Alg: "md5", Bytes: "a"}}, ""},
		{[]impl.Sum{{Alg: "sha384", Bytes: "a"}, {Alg: "SHA1", Bytes: "a"}, {Alg: "sha", Bytes: "a"}, {Alg: "sha1 ", Bytes: "a"}, {Alg: "h1", Bytes: "a"}}, ""},
		{[]impl.Sum{{Alg: "sha1", Bytes: "a"}}, "sha1-YQ=="},
		{[]impl.Sum{{Alg: "sha1"}}, "sha1-"},
		{[]impl.Sum{{Alg: "sha512", Bytes: "a"}, {Alg: "md5", Bytes: "b"}, {Alg: "sha1"}, {Alg: "sha1", Bytes: "\xff"}, {Alg: ""}}, "sha512-YQ== sha1- sha1-/w=="},
	}
	for _, c := range cases {
		if got := impl.PutIntegrity(c.sums); got != c.want {
			t.Errorf("PutIntegrity(%q) = %q, want %q", c.sums, got, c.want)
		}
	}
	for _, sums := range badSums() {
		text := impl.PutIntegrity(sums)
		if text != wantPutIntegrity(sums) {
			t.Errorf("PutIntegrity(%q) = %q", sums, text)
		}
		want, ok := wantSums(text)
		checkSums(t, text, want, ok)
	}
}

func TestGetIntegrityInvalid(t *testing.T) {
	sums := allSums()
	h1, sha1, sha256, sha512 := wordOf(sums[0]), wordOf(sums[1]), wordOf(sums[2]), wordOf(sums[3])
	text1 := strings.TrimPrefix(sha1, "sha1-")
	bad := []string{
		" ", "  ", "-", "- -", "a", "sha1", "sha1-", "sha256-", "sha512-", "sha1- ", "sha1-YQ==", "md5-YQ==", "=", "\n", "\x00",
		// descending order and the same Alg twice
		sha256 + " " + sha1, sha512 + " " + sha1, sha512 + " " + sha256, sha1 + " " + sha512 + " " + sha256, sha1 + " " + sha1, sha256 + " " + sha256, sha512 + " " + sha512, sha1 + " " + sha256 + " " + sha256, sha1 + " " + sha256 + " " + sha1,
		// a space too many or too few, and other separators
		" " + sha1, sha1 + " ", "  " + sha1, sha1 + "  ", sha1 + "  " + sha256, " " + sha1 + " " + sha256, sha1 + " " + sha256 + " ", sha1 + sha256, sha1 + "\n" + sha256, sha1 + "," + sha256, sha1 + "\t" + sha256, sha1 + "\n", sha1 + " -", sha1 + " " + sha256 + " x",
		// h1, alone and among others
		h1, h1 + " " + sha1, sha1 + " " + h1, strings.Replace(h1, "-", ":", 1), "h1-", h1 + " " + sha1 + " " + sha256 + " " + sha512,
		// other Algs
		"md5-" + text1, "SHA1-" + text1, "Sha1-" + text1, "sha-" + text1, "sha11-" + text1, "sha384-" + text1, "-" + text1, text1, "sha1" + text1, "sha1:" + text1, "sha1--" + text1, "sha1-sha1-" + text1, "sha1 -" + text1, "sha1- " + text1,
		// the length of another Alg
		strings.Replace(sha256, "sha256", "sha1", 1), strings.Replace(sha1, "sha1", "sha256", 1), strings.Replace(sha512, "sha512", "sha256", 1), strings.Replace(sha256, "sha256", "sha512", 1),
		// padding
		strings.TrimRight(sha1, "="), strings.TrimRight(sha512, "="), strings.TrimSuffix(sha512, "="), sha1 + "=", sha512 + "=", sha1 + "====", "sha1-=" + text1, strings.TrimRight(sha1, "=") + "A", strings.TrimRight(sha1, "=") + "%3D",
		// base64 of the alphabet for URLs, with line ends, and of no alphabet
		strings.NewReplacer("+", "-", "/", "_").Replace(wordOf(impl.Sum{Alg: "sha1", Bytes: strings.Repeat("\xff", 20)})), sha1[:20] + "\n" + sha1[20:], sha1[:20] + "\r\n" + sha1[20:], sha1[:20] + "*" + sha1[21:], sha1 + "?a",
	}
	for _, s := range bad {
		checkSums(t, s, nil, false)
	}
	// each = stands for two unused bits of the last digit, which must be zero
	const alphabet = "ABCDEFGHIJKLMNOPQRSTUVWXYZabcdefghijklmnopqrstuvwxyz0123456789+/"
	for _, s := range allSums()[1:] {
		word := wordOf(s)
		end := strings.IndexByte(word, '=')
		for n, digit := range alphabet {
			text := word[:end-1] + string(digit) + word[end:]
			want, ok := wantSums(text)
			checkSums(t, text, want, ok)
			if unused := 2 * (len(word) - end); ok != (n%(1<<unused) == 0) {
				t.Errorf("%q is taken for sums: %v", text, ok)
			}
		}
	}
	for _, alg := range []string{"h1", "sha1", "sha256", "sha512"} {
		for size := range 101 {
			s := sumOf(alg, size)
			want, ok := wantSums(wordOf(s))
			checkSums(t, wordOf(s), want, ok)
			if ok != (alg == "sha1" && size == 20 || alg == "sha256" && size == 32 || alg == "sha512" && size == 64) {
				t.Errorf("a sum %s with %d bytes is accepted: %v", alg, size, ok)
			}
		}
	}
}

func TestPromise5OtherIntegrities(t *testing.T) {
	sums := allSums()
	texts := []string{}
	// every sequence of up to four words, as digits to base 6, of which 4 stands for none and 5 for an empty word
	for code := range 6 * 6 * 6 * 6 {
		words := []string{}
		for n := range 4 {
			switch at := code / []int{1, 6, 36, 216}[n] % 6; at {
			case 4:
			case 5:
				words = append(words, "")
			default:
				words = append(words, wordOf(sums[at]))
			}
		}
		texts = append(texts, strings.Join(words, " "))
	}
	for _, list := range [][]impl.Sum{sums[1:2], sums[2:3], sums[3:], sums[1:]} {
		texts = append(texts, nearTexts(wantPutIntegrity(list))...)
	}
	taken := 0
	for _, s := range texts {
		want, ok := wantSums(s)
		checkSums(t, s, want, ok)
		if ok {
			taken++
			if got := impl.PutIntegrity(want); got != s {
				t.Errorf("PutIntegrity(%q) = %q, want %q", want, got, s)
			}
		}
	}
	if taken < 1000 || len(texts)-taken < 10000 {
		t.Errorf("only %d of %d texts are sums", taken, len(texts))
	}
}

// callPurl calls every function of the chapter.
func callPurl(k int, name string, version string, s string, sums []impl.Sum) {
	impl.KindName(k)
	impl.PutPurl(k, name, version)
	impl.GetPurl(s)
	impl.SpdxId(s)
	impl.FromSpdxId(s)
	impl.PutIntegrity(sums)
	impl.GetIntegrity(s)
}

func TestPromise16PurlReturns(t *testing.T) {
	texts := append(byteTexts(), allTexts("%@/-: ", 4)...)
	for _, s := range []string{"", "pkg:", "/", "@", "%40", "SPDXRef-", "-40-", "-", " ", "sha1-", "pkg:npm/a@", "pkg:npm/%40", "SPDXRef--", "sha1-YQ== "} {
		texts = append(texts, s, strings.Repeat(s, 20000))
	}
	for _, s := range texts {
		sums := []impl.Sum{{Alg: s, Bytes: s}, {Alg: "sha1", Bytes: s}, {Alg: "sha1", Bytes: s}}
		for _, k := range []int{math.MinInt, -1, 0, 3, 4, math.MaxInt} {
			impl.KindName(k)
			impl.PutPurl(k, s, s)
			impl.PutPurl(k, "a", s)
			impl.PutPurl(k, s, "1.0.0")
		}
		for _, start := range []string{"", "pkg:npm/", "pkg:npm/a@", "SPDXRef-", "SPDXRef--", "sha1-", wordOf(allSums()[1]) + " "} {
			callPurl(impl.KGo, s, s, start+s, sums)
		}
	}
	callPurl(impl.KGo, "a", "1.0.0", "", slices.Repeat(allSums(), 20000))
	callPurl(impl.KGo, "a", "1.0.0", "", nil)
}

func TestPromise16PurlArguments(t *testing.T) {
	for _, list := range append(badSums(), nil, allSums(), slices.Repeat(allSums(), 3)) {
		memory := append(slices.Clone(list), impl.Sum{Alg: "spare", Bytes: "spare"}, impl.Sum{Alg: "sha1", Bytes: "spare"})
		want := slices.Clone(memory)
		impl.PutIntegrity(memory[:len(list)])
		if !slices.Equal(memory, want) {
			t.Errorf("the sums %q were modified: %q", want, memory)
		}
	}
	for _, s := range []string{"@org/ui", "1.0.0-rc.1", "pkg:npm/%40org/ui@1.0.0-rc.1", "SPDXRef--40-org", "SPDXRef-plain", wantPutIntegrity(allSums())} {
		own := string([]byte(s))
		callPurl(impl.KNpm, own, own, own, []impl.Sum{{Alg: own, Bytes: own}, {Alg: "sha256", Bytes: own}})
		impl.PutPurl(impl.KNpm, "@org/ui", own)
		if own != s {
			t.Errorf("%q was modified: %q", s, own)
		}
	}
}

func sumSpans(sums []impl.Sum) []span {
	spans := []span{listSpan(sums)}
	for _, s := range sums {
		spans = append(spans, textSpan(s.Alg), textSpan(s.Bytes))
	}
	return spans
}

func TestPromise16PurlMemory(t *testing.T) {
	for _, name := range []string{"left-pad", "@org/ui", "golang.org/x/text"} {
		for _, version := range []string{"1.0.0", "1.0.0-rc.1"} {
			name, version := strings.Clone(name), strings.Clone(version)
			text := impl.PutPurl(impl.KNpm, name, version)
			checkApart(t, "PutPurl", []string{text}, []string{name, version})
			_, n, v := impl.GetPurl(text)
			checkApart(t, "GetPurl", []string{n, v}, []string{text})
		}
	}
	for _, key := range []string{"plain", "@org/ui@1.0.0", "\xff\xff\xff"} {
		key := strings.Clone(key)
		id := impl.SpdxId(key)
		checkApart(t, "SpdxId", []string{id}, []string{key})
		checkApart(t, "FromSpdxId", []string{impl.FromSpdxId(id)}, []string{id})
	}
	for _, sums := range append(subsetsOf(allSums()), []impl.Sum{{Alg: strings.Clone("sha1")}}) {
		text := impl.PutIntegrity(sums)
		checkSpans(t, "PutIntegrity", []span{textSpan(text)}, sumSpans(sums))
		got, _ := impl.GetIntegrity(text)
		again, _ := impl.GetIntegrity(text)
		checkSpans(t, "GetIntegrity", append(sumSpans(got), sumSpans(again)...), []span{textSpan(text)})
		want := slices.Clone(again)
		clear(got[:cap(got)])
		if third, _ := impl.GetIntegrity(text); !slices.Equal(again, want) || !slices.Equal(third, want) {
			t.Errorf("two results of GetIntegrity(%q) share memory", text)
		}
	}
}
