package tests

import (
	"encoding/base64"
	"encoding/hex"
	"math"
	"math/rand"
	"net/url"
	"regexp"
	"slices"
	"strconv"
	"strings"
	"testing"
	"unsafe"

	"loop.example/g00445/impl"
)

// allTexts returns every string over the alphabet with at most size bytes.
func allTexts(alphabet string, size int) []string {
	list := []string{""}
	start := 0
	for range size {
		end := len(list)
		for _, s := range list[start:end] {
			for i := range len(alphabet) {
				list = append(list, s+alphabet[i:i+1])
			}
		}
		start = end
	}
	return list
}

// byteTexts returns every single byte, every pair with a few others, and random strings of up to 40 bytes.
func byteTexts() []string {
	list := []string{""}
	for c := range 256 {
		one := string([]byte{byte(c)})
		list = append(list, one, one+one, "a"+one, one+"%", "\\"+one, one+"\x00\xff")
	}
	r := rand.New(rand.NewSource(1))
	for size := range 40 {
		b := make([]byte, size)
		for range 20 {
			r.Read(b)
			list = append(list, string(b))
		}
	}
	return append(list, strings.Repeat("\xff", impl.MaxFile), strings.Repeat("a\n", impl.MaxFile))
}

func checkNone(t *testing.T, what string, text string, got string, ok bool) {
	t.Helper()
	if got != "" || ok {
		t.Errorf("%s(%q) = %q, %v; want none", what, text, got, ok)
	}
}

func TestNameOk(t *testing.T) {
	good := []string{
		"a", "0", ".", "-", "_", "..", "left-pad", "a.b_c-9", "a/b", "golang.org/x/text", "@org/ui", "@a", "@org/a/b",
		"@node_modules", "@node_modules/a", "node_modules2", "a/node-modules", "node_module", "xnode_modules/b",
		strings.Repeat("a", 60), "@" + strings.Repeat("a", 59), strings.Repeat("a/", 29) + "ab",
	}
	bad := []string{
		"", "@", "/", "@/", "@/a", "/a", "a/", "a//b", "A", "aB", "a b", " a", "a\n", "a@b", "a@", "@@a", "a/@b", "@a/@b", "a\\b",
		"node_modules", "node_modules/a", "a/node_modules", "a/node_modules/b", "@a/node_modules", "@node_modules/node_modules",
		"@node_modules/a/node_modules", strings.Repeat("a", 61), "@" + strings.Repeat("a", 60), strings.Repeat("a/", 30) + "b",
		"\x00", "a\xff", "\u00e9", "a+b", "a~", "a:b", "a`", "a{",
	}
	for _, s := range good {
		if !impl.NameOk(s) {
			t.Errorf("NameOk(%q) is false", s)
		}
	}
	for _, s := range bad {
		if impl.NameOk(s) {
			t.Errorf("NameOk(%q) is true", s)
		}
	}
	form := regexp.MustCompile(`^@?[a-z0-9._-]+(/[a-z0-9._-]+)*$`)
	for c := range 256 {
		for _, s := range []string{string([]byte{byte(c)}), string([]byte{'a', byte(c)}), string([]byte{'@', byte(c), '/', byte(c)})} {
			if want := form.MatchString(s); impl.NameOk(s) != want {
				t.Errorf("NameOk(%q) is not %v", s, want)
			}
		}
	}
	for _, s := range allTexts("a@/", 7) {
		if want := form.MatchString(s); impl.NameOk(s) != want {
			t.Errorf("NameOk(%q) is not %v", s, want)
		}
	}
}

func TestPlainOk(t *testing.T) {
	for c := range 256 {
		want := c >= 33 && c <= 126 && c != 34 && c != 39 && c != 44 && c != 92
		for _, s := range []string{string([]byte{byte(c)}), string([]byte{'a', byte(c), 'b'}), strings.Repeat("~", 99) + string([]byte{byte(c)})} {
			if impl.PlainOk(s) != want {
				t.Errorf("PlainOk(%q) is not %v", s, want)
			}
		}
	}
	if !impl.PlainOk("") || !impl.PlainOk("https://x.example/a?b=c#d") || !impl.PlainOk(strings.Repeat("!", 100)) {
		t.Error("a plain text is not accepted")
	}
	if impl.PlainOk(strings.Repeat("!", 101)) {
		t.Error("101 bytes are accepted")
	}
}

func TestDecText(t *testing.T) {
	pairs := map[int]string{
		0: "0", 7: "7", 10: "10", 999999999: "999999999", 1000000000: "1000000000", -1: "-1", -12: "-12",
		math.MaxInt: "9223372036854775807", math.MinInt: "-9223372036854775808",
	}
	for n, want := range pairs {
		if got := impl.DecText(n); got != want {
			t.Errorf("DecText(%d) = %q", n, got)
		}
	}
}

func TestReadDec(t *testing.T) {
	numbers := []int{0, 1, 9, 10, 99, 100, 123456789, 900000000, 999999998, 999999999}
	for n := range 2000 {
		numbers = append(numbers, n)
	}
	for _, n := range numbers {
		if got := impl.ReadDec(strconv.Itoa(n)); got != n {
			t.Errorf("ReadDec of %d = %d", n, got)
		}
	}
	bad := []string{
		"", "00", "01", "012", "0000000001", "1000000000", "9999999999", "9223372036854775807", "18446744073709551617",
		"-1", "-0", "+1", " 1", "1 ", "1\n", "1a", "a", "1.0", "1_0", "0x1", "1e3", "\u0661", "\xb1", "/", ":",
		strings.Repeat("0", 100), strings.Repeat("9", 100),
	}
	for _, s := range bad {
		if got := impl.ReadDec(s); got != -1 {
			t.Errorf("ReadDec(%q) = %d", s, got)
		}
	}
	form := regexp.MustCompile(`^(0|[19][019]*)$`)
	for _, s := range allTexts("019-/:", 4) {
		n := impl.ReadDec(s)
		if want := form.MatchString(s); (n >= 0) != want || want && impl.DecText(n) != s {
			t.Errorf("ReadDec(%q) = %d", s, n)
		}
	}
}

func TestWords(t *testing.T) {
	pairs := map[string][]string{
		"": {""}, "a": {"a"}, " ": {"", ""}, "a b": {"a", "b"}, "a  b": {"a", "", "b"}, " a ": {"", "a", ""},
		"a\tb\nc d": {"a\tb\nc", "d"}, "  ": {"", "", ""}, "\u00a0 \xff": {"\u00a0", "\xff"},
	}
	for s, want := range pairs {
		if got := impl.Words(s); !slices.Equal(got, want) {
			t.Errorf("Words(%q) = %q", s, got)
		}
	}
	for _, s := range allTexts("a \n", 7) {
		got := impl.Words(s)
		if len(got) != strings.Count(s, " ")+1 || strings.Join(got, " ") != s {
			t.Errorf("Words(%q) = %q", s, got)
		}
	}
}

func TestLines(t *testing.T) {
	pairs := map[string][]string{
		"": {}, "\n": {""}, "\n\n": {"", ""}, "a": {"a"}, "a\n": {"a"}, "a\nb": {"a", "b"}, "a\nb\n": {"a", "b"},
		"a\n\n": {"a", ""}, "a\n\nb": {"a", "", "b"}, "\na": {"", "a"}, "a\n ": {"a", " "}, "a\r\nb": {"a\r", "b"},
	}
	for s, want := range pairs {
		if got := impl.Lines(s); !slices.Equal(got, want) {
			t.Errorf("Lines(%q) = %q", s, got)
		}
	}
	for _, s := range allTexts("a \n", 7) {
		want := strings.Split(s, "\n")
		if want[len(want)-1] == "" {
			want = want[:len(want)-1]
		}
		if got := impl.Lines(s); !slices.Equal(got, want) {
			t.Errorf("Lines(%q) = %q", s, got)
		}
	}
}

func TestIndent(t *testing.T) {
	pairs := map[string]int{"": 0, "a": 0, " ": 1, "   ": 3, "  a": 2, "  a  ": 2, "\t a": 0, " \t": 1, "\n ": 0, " \n ": 1, "\u00a0": 0}
	for s, want := range pairs {
		if got := impl.Indent(s); got != want {
			t.Errorf("Indent(%q) = %d", s, got)
		}
	}
}

func TestPromise1Hex(t *testing.T) {
	for _, s := range byteTexts() {
		text := impl.PutHex(s)
		if text != hex.EncodeToString([]byte(s)) {
			t.Errorf("PutHex(%q) = %q", s, text)
		}
		if got, ok := impl.GetHex(text); got != s || !ok {
			t.Errorf("GetHex(%q) = %q, %v", text, got, ok)
		}
		if text != "" {
			got, ok := impl.GetHex(text[1:])
			checkNone(t, "GetHex", text[1:], got, ok)
		}
	}
	for _, text := range []string{"A0", "0A", "aB", "Ff", "0", "000", "0g", "g0", "00 ", " 00", "0x", "00\n", "\xff\xff", "-1", "/0", ":0", "`0", "0@"} {
		got, ok := impl.GetHex(text)
		checkNone(t, "GetHex", text, got, ok)
	}
	form := regexp.MustCompile(`^([0-9a-f]{2})*$`)
	for _, text := range allTexts("09afAFg/:`", 4) {
		got, ok := impl.GetHex(text)
		if want := form.MatchString(text); ok != want || want && impl.PutHex(got) != text || !want && got != "" {
			t.Errorf("GetHex(%q) = %q, %v", text, got, ok)
		}
	}
	for a := range 256 {
		for b := range 256 {
			text := string([]byte{byte(a), byte(b)})
			if _, ok := impl.GetHex(text); ok != form.MatchString(text) {
				t.Errorf("GetHex(%q) returns %v", text, ok)
			}
		}
	}
}

func TestPromise1Base64(t *testing.T) {
	for _, s := range byteTexts() {
		text := impl.PutBase64(s)
		if text != base64.StdEncoding.EncodeToString([]byte(s)) {
			t.Errorf("PutBase64(%q) = %q", s, text)
		}
		if got, ok := impl.GetBase64(text); got != s || !ok {
			t.Errorf("GetBase64(%q) = %q, %v", text, got, ok)
		}
		for cut := 1; cut < 4 && cut < len(text); cut++ {
			got, ok := impl.GetBase64(text[:len(text)-cut])
			checkNone(t, "GetBase64", text[:len(text)-cut], got, ok)
		}
	}
	bad := []string{
		"=", "==", "===", "====", "A===", "Y", "YQ", "YQ=", "YQ===", "YQ====", "YR==", "YW==", "YWI", "YWJ=", "YWI==", "YWJj=", "YWJj====",
		"YWJjY", "YQ==YQ==", "YQ=Q", "=YQ=", "Y=Q=", "Y Q==", " YQ==", "YQ==\n", "YQ\n==", "YWJj\r\n", "YW-_", "YW,.", "YQ==\x00", "\xff\xff\xff\xff", "YWJ\x00",
	}
	for _, text := range bad {
		got, ok := impl.GetBase64(text)
		checkNone(t, "GetBase64", text, got, ok)
	}
	for _, text := range allTexts("AQgw9+/=-\n", 5) {
		back, err := base64.StdEncoding.DecodeString(text)
		want := err == nil && base64.StdEncoding.EncodeToString(back) == text
		if got, ok := impl.GetBase64(text); ok != want || want && got != string(back) || !want && got != "" {
			t.Errorf("GetBase64(%q) = %q, %v", text, got, ok)
		}
	}
	for c := range 256 {
		one := string([]byte{byte(c)})
		want := strings.Contains("ABCDEFGHIJKLMNOPQRSTUVWXYZabcdefghijklmnopqrstuvwxyz0123456789+/", one)
		if _, ok := impl.GetBase64("AAA" + one); ok != (want || one == "=") {
			t.Errorf("GetBase64 of a group that ends with %q returns %v", one, ok)
		}
		if _, ok := impl.GetBase64(one + "AAA"); ok != want {
			t.Errorf("GetBase64 of a group that begins with %q returns %v", one, ok)
		}
	}
}

// plainInPercent is the document's list of the bytes that need no escape.
const plainInPercent = "ABCDEFGHIJKLMNOPQRSTUVWXYZabcdefghijklmnopqrstuvwxyz0123456789._-~"

func TestPromise1Percent(t *testing.T) {
	for c := range 256 {
		one := string([]byte{byte(c)})
		upper := "%" + strings.ToUpper(hex.EncodeToString([]byte(one)))
		lower := "%" + hex.EncodeToString([]byte(one))
		want, other := upper, one
		if strings.Contains(plainInPercent, one) {
			want, other = one, upper
		}
		if got := impl.PutPercent(one); got != want {
			t.Errorf("PutPercent(%q) = %q", one, got)
		}
		got, ok := impl.GetPercent(other)
		checkNone(t, "GetPercent", other, got, ok)
		if lower != upper {
			got, ok = impl.GetPercent(lower)
			checkNone(t, "GetPercent", lower, got, ok)
		}
	}
	for _, s := range byteTexts() {
		if got, ok := impl.GetPercent(impl.PutPercent(s)); got != s || !ok {
			t.Errorf("GetPercent of PutPercent(%q) = %q, %v", s, got, ok)
		}
	}
	if got := impl.PutPercent("@a/b c~%"); got != "%40a%2Fb%20c~%25" {
		t.Error("PutPercent", got)
	}
	for _, text := range []string{"%", "a%", "%4", "%%", "%%4", "%2", "%2f", "%2F%", "%2F%4", "%aF", "%Af", "%41", "%7E", "%2E", "%5F", "%2D", "%G0", "%0G", "% 0", "%+1", "a b", "a/b", "\xff", "+"} {
		got, ok := impl.GetPercent(text)
		checkNone(t, "GetPercent", text, got, ok)
	}
	for _, text := range allTexts("%24FfAa~/", 5) {
		back, err := url.PathUnescape(text)
		want := err == nil && impl.PutPercent(back) == text
		if got, ok := impl.GetPercent(text); ok != want || want && got != back || !want && got != "" {
			t.Errorf("GetPercent(%q) = %q, %v", text, got, ok)
		}
	}
}

func TestPromise1Quote(t *testing.T) {
	for c := range 256 {
		one := string([]byte{byte(c)})
		digits := `\x` + hex.EncodeToString([]byte(one))
		want := one
		switch {
		case c == '"' || c == '\\':
			want = `\` + one
		case c == '\n':
			want = `\n`
		case c < 32 || c >= 127:
			want = digits
		}
		if got := impl.Quote(one); got != `"`+want+`"` {
			t.Errorf("Quote(%q) = %q", one, got)
		}
		for _, form := range []string{one, `\` + one, digits, `\x` + strings.ToUpper(digits[2:])} {
			if form == want || form == `"` { // the latter is the empty string and a quote after it
				continue
			}
			if form == `\n` || form == `\"` || form == `\\` { // the forms of other bytes
				continue
			}
			if got, next := impl.Unquote(`"`+form+`"`, 0); got != "" || next != -1 {
				t.Errorf("Unquote of %q in quotes = %q, %d", form, got, next)
			}
		}
	}
	for _, s := range byteTexts() {
		text := impl.Quote(s)
		if got, next := impl.Unquote(text, 0); got != s || next != len(text) {
			t.Errorf("Unquote(%q) = %q, %d", text, got, next)
		}
		if got, next := impl.Unquote("\"\\"+text+"\"\\", 2); got != s || next != 2+len(text) {
			t.Errorf("Unquote of %q inside = %q, %d", text, got, next)
		}
		if got, next := impl.Unquote(text[:len(text)-1], 0); got != "" || next != -1 {
			t.Errorf("Unquote(%q) = %q, %d", text[:len(text)-1], got, next)
		}
	}
	for i, want := range []int{-1, 4, -1, 7, -1, -1, 8, -1, -1} {
		if _, next := impl.Unquote(`x"a"bc""`, i); next != want {
			t.Errorf("Unquote at %d: %d", i, next)
		}
	}
}

func TestPromise1OtherQuotes(t *testing.T) {
	bad := []string{
		"", `"`, `"a`, `a`, `a"`, ` "a"`, `'a'`, `"\`, `"\"`, `"\\`, `"\n`, `"\x`, `"\x0`, `"\x00`, `"\x"`, `"\x0"`, `"\x41"`, `"\x22"`, `"\x5c"`,
		`"\x0a"`, `"\x20"`, `"\x7e"`, `"\x0B"`, `"\xFF"`, `"\X01"`, `"\t"`, `"\r"`, `"\N"`, `"\/"`, `"\u0001"`, `"\'"`, `"\0"`, `"\a"`,
		"\"\n\"", "\"\t\"", "\"\x00\"", "\"\x1f\"", "\"\x7f\"", "\"\x80\"", "\"\xff\"", "\"\u00e9\"", "\"\\\n\"",
	}
	for _, text := range bad {
		if got, next := impl.Unquote(text, 0); got != "" || next != -1 {
			t.Errorf("Unquote(%q) = %q, %d", text, got, next)
		}
	}
	form := regexp.MustCompile(`^"([ !#-\[\]-~]|\\["\\n]|\\x(0[0-9b-f]|1[0-9a-f]|7f|[89a-f][0-9a-f]))*"`)
	for _, text := range allTexts("\"\\nx17aF\n\x7f", 5) {
		end := len(form.FindString(`"` + text))
		got, next := impl.Unquote(`"`+text, 0)
		if end == 0 && (got != "" || next != -1) || end > 0 && (next != end || impl.Quote(got) != (`"` + text)[:end]) {
			t.Errorf("Unquote(%q) = %q, %d; want %d", `"`+text, got, next, end)
		}
	}
}

func TestUnquoteIndexes(t *testing.T) {
	for _, s := range []string{"", `"`, `"a"`, `""""`} {
		for _, i := range []int{-1, -2, -len(s), len(s), len(s) + 1, math.MaxInt, math.MaxInt - 1, math.MinInt, math.MinInt + 1} {
			if i == 0 && s != "" {
				continue
			}
			if got, next := impl.Unquote(s, i); got != "" || next != -1 {
				t.Errorf("Unquote(%q, %d) = %q, %d", s, i, got, next)
			}
		}
	}
}

func TestPlace(t *testing.T) {
	places := [][2]int{{1, 1}, {1, 2}, {1, 3}, {2, 1}, {3, 1}, {3, 2}, {4, 1}}
	for i, want := range places {
		if line, column := impl.Place("ab\n\nc\n", i); line != want[0] || column != want[1] {
			t.Errorf("Place at %d = %d, %d", i, line, column)
		}
	}
	if line, column := impl.Place("", 0); line != 1 || column != 1 {
		t.Error("Place in the empty string", line, column)
	}
	if line, column := impl.Place("\r\xff\t\u00e9", 5); line != 1 || column != 6 {
		t.Error("Place counts bytes", line, column)
	}
	for _, s := range []string{"", "a", "ab\n\nc\n"} {
		for _, i := range []int{-1, -len(s) - 1, len(s) + 1, math.MaxInt, math.MinInt} {
			if line, column := impl.Place(s, i); line != 0 || column != 0 {
				t.Errorf("Place(%q, %d) = %d, %d", s, i, line, column)
			}
		}
	}
	for _, s := range allTexts("a\n", 6) {
		line, column := 1, 1
		for i := range len(s) + 1 {
			if a, b := impl.Place(s, i); a != line || b != column {
				t.Errorf("Place(%q, %d) = %d, %d", s, i, a, b)
			}
			column++
			if i < len(s) && s[i] == '\n' {
				line, column = line+1, 1
			}
		}
	}
}

// callText calls every function of the chapter; a panic fails the test.
func callText(s string) {
	impl.NameOk(s)
	impl.PlainOk(s)
	impl.ReadDec(s)
	impl.Words(s)
	impl.Lines(s)
	impl.Indent(s)
	impl.PutHex(s)
	impl.GetHex(s)
	impl.PutBase64(s)
	impl.GetBase64(s)
	impl.PutPercent(s)
	impl.GetPercent(s)
	impl.Quote(s)
	for _, i := range []int{math.MinInt, -1, 0, 1, len(s) - 1, len(s), len(s) + 1, math.MaxInt} {
		impl.DecText(i)
		impl.Unquote(s, i)
		impl.Place(s, i)
	}
}

func TestPromise16TextReturns(t *testing.T) {
	for _, s := range append(byteTexts(), allTexts("\"\\x%=a@/", 4)...) {
		before := strings.Clone(s)
		callText(s)
		if s != before {
			t.Errorf("%q was modified", before)
		}
	}
}

// shares reports whether two non-empty strings overlap in memory.
func shares(a string, b string) bool {
	if a == "" || b == "" {
		return false
	}
	x, y := uintptr(unsafe.Pointer(unsafe.StringData(a))), uintptr(unsafe.Pointer(unsafe.StringData(b)))
	return x < y+uintptr(len(b)) && y < x+uintptr(len(a))
}

func TestPromise16TextMemory(t *testing.T) {
	text := "some words\nand lines \"ab\"\n"
	for _, list := range [][]string{impl.Words(text), impl.Lines(text)} {
		for _, part := range list {
			if shares(part, text) {
				t.Errorf("%q shares memory with the argument", part)
			}
		}
	}
	plain := "plain"
	unescaped, _ := impl.GetPercent(plain)
	unquoted, _ := impl.Unquote(text, strings.Index(text, "\""))
	if shares(impl.PutPercent(plain), plain) || shares(unescaped, plain) || shares(unquoted, text) {
		t.Error("a text shares memory with the argument")
	}
	for _, split := range []func(string) []string{impl.Words, impl.Lines} {
		first, second := split(text), split(text)
		want := slices.Clone(second)
		clear(first[:cap(first)])
		if !slices.Equal(second, want) || !slices.Equal(split(text), want) {
			t.Error("two results share memory")
		}
	}
}
