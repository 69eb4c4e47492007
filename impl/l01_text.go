package impl

import (
	"iter"
	"strconv"
	"strings"
)

const MaxFile = 20000

const (
	maxName   = 60
	maxPlain  = 100
	maxDigits = 9 // of ReadDec's greatest number, 999999999
)

const (
	lowerHex    = "0123456789abcdef"
	upperHex    = "0123456789ABCDEF"
	base64Chars = "ABCDEFGHIJKLMNOPQRSTUVWXYZabcdefghijklmnopqrstuvwxyz0123456789+/"
)

func NameOk(s string) bool {
	if len(s) < 1 || len(s) > maxName {
		return false
	}
	scoped := s[0] == '@'
	if scoped {
		s = s[1:]
	}
	for part := range partsOf(s, '/') {
		if !componentOk(part) || part == "node_modules" && !scoped {
			return false
		}
		scoped = false // the @ stands before the first component alone
	}
	return true
}

func componentOk(s string) bool {
	for i := range len(s) {
		if !isLower(s[i]) && !isDigit(s[i]) && s[i] != '.' && s[i] != '_' && s[i] != '-' {
			return false
		}
	}
	return s != ""
}

func isLower(c byte) bool { return 'a' <= c && c <= 'z' }

func isUpper(c byte) bool { return 'A' <= c && c <= 'Z' }

func isDigit(c byte) bool { return '0' <= c && c <= '9' }

func PlainOk(s string) bool {
	if len(s) > maxPlain {
		return false
	}
	for i := range len(s) {
		switch c := s[i]; {
		case c < 33 || c > 126:
			return false
		case c == '"' || c == '\'' || c == ',' || c == '\\':
			return false
		}
	}
	return true
}

func DecText(n int) string { return strconv.Itoa(n) }

func ReadDec(s string) int {
	if s == "" || len(s) > maxDigits || s[0] == '0' && s != "0" {
		return -1
	}
	n := 0
	for i := range len(s) {
		if !isDigit(s[i]) {
			return -1
		}
		n = n*10 + int(s[i]-'0')
	}
	return n
}

func Words(s string) []string { return splitAt(s, ' ') }

func Lines(s string) []string {
	parts := splitAt(s, '\n')
	if last := len(parts) - 1; parts[last] == "" {
		parts = parts[:last]
	}
	return parts
}

// splitAt copies the parts, since results share no memory with arguments.
func splitAt(s string, mark byte) []string {
	parts := []string{}
	for part := range partsOf(s, mark) {
		parts = append(parts, strings.Clone(part))
	}
	return parts
}

// copyTexts copies the strings too, since results share no memory with arguments.
func copyTexts(list []string) []string {
	copied := make([]string, 0, len(list))
	for _, s := range list {
		copied = append(copied, strings.Clone(s))
	}
	return copied
}

// partsOf yields the parts of s between the marks, one more than there are marks.
func partsOf(s string, mark byte) iter.Seq[string] {
	return func(yield func(string) bool) {
		start := 0
		for i := range len(s) {
			if s[i] != mark {
				continue
			}
			if !yield(s[start:i]) {
				return
			}
			start = i + 1
		}
		yield(s[start:])
	}
}

func Indent(s string) int {
	n := 0
	for n < len(s) && s[n] == ' ' {
		n++
	}
	return n
}

func PutHex(s string) string {
	out := make([]byte, 0, 2*len(s))
	for i := range len(s) {
		out = append(out, lowerHex[s[i]>>4], lowerHex[s[i]&15])
	}
	return string(out)
}

func GetHex(s string) (string, bool) {
	out := make([]byte, 0, len(s)/2)
	for i := 0; i < len(s); i += 2 {
		c, ok := hexAt(s, i, lowerHex)
		if !ok {
			return "", false
		}
		out = append(out, c)
	}
	return string(out), true
}

// hexAt reads the byte that two of the given digits write at index i of s; i is at most len(s).
func hexAt(s string, i int, digits string) (byte, bool) {
	if len(s)-i < 2 {
		return 0, false
	}
	high := strings.IndexByte(digits, s[i])
	low := strings.IndexByte(digits, s[i+1])
	if high < 0 || low < 0 {
		return 0, false
	}
	return byte(high<<4 | low), true
}

func PutBase64(s string) string {
	out := make([]byte, 0, (len(s)+2)/3*4)
	for group, size := range triplesOf(s) {
		chars := base64Group(group)
		for i := size + 1; i < len(chars); i++ {
			chars[i] = '='
		}
		out = append(out, chars[:]...)
	}
	return string(out)
}

// triplesOf yields the bytes of s by threes, the last group filled up with zeros, and how many of each group are from s.
func triplesOf(s string) iter.Seq2[[3]byte, int] {
	return func(yield func([3]byte, int) bool) {
		for i := 0; i < len(s); i += 3 {
			var group [3]byte
			size := copy(group[:], s[i:])
			if !yield(group, size) {
				return
			}
		}
	}
}

func base64Group(b [3]byte) [4]byte {
	return [4]byte{
		base64Chars[b[0]>>2],
		base64Chars[b[0]&3<<4|b[1]>>4],
		base64Chars[b[1]&15<<2|b[2]>>6],
		base64Chars[b[2]&63],
	}
}

func GetBase64(s string) (string, bool) {
	digits := strings.TrimRight(s, "=")
	out := make([]byte, 0, len(s)/4*3)
	held, size := 0, 0 // the bits read but not yet put out, and their number
	for i := range len(digits) {
		v := strings.IndexByte(base64Chars, digits[i])
		if v < 0 {
			return "", false
		}
		held, size = held<<6|v, size+6
		if size >= 8 {
			size -= 8
			out = append(out, byte(held>>size))
			held &= 1<<size - 1
		}
	}
	text := string(out)
	// Only encoding again tells whether the padding is right and the unused bits are zero.
	if PutBase64(text) != s {
		return "", false
	}
	return text, true
}

func PutPercent(s string) string {
	out := make([]byte, 0, len(s))
	for i := range len(s) {
		if c := s[i]; unescaped(c) {
			out = append(out, c)
		} else {
			out = append(out, '%', upperHex[c>>4], upperHex[c&15])
		}
	}
	return string(out)
}

// unescaped reports whether c stands for itself in percent encoding.
func unescaped(c byte) bool {
	return isLower(c) || isUpper(c) || isDigit(c) || c == '.' || c == '_' || c == '-' || c == '~'
}

func GetPercent(s string) (string, bool) {
	out := make([]byte, 0, len(s))
	for i := 0; i < len(s); i++ {
		c := s[i]
		if unescaped(c) {
			out = append(out, c)
			continue
		}
		value, ok := hexAt(s, i+1, upperHex)
		if c != '%' || !ok || unescaped(value) {
			return "", false
		}
		out = append(out, value)
		i += 2
	}
	return string(out), true
}

func Quote(s string) string {
	out := make([]byte, 0, len(s)+2)
	out = append(out, '"')
	for i := range len(s) {
		switch c := s[i]; {
		case c == '"' || c == '\\':
			out = append(out, '\\', c)
		case c == '\n':
			out = append(out, '\\', 'n')
		case quotedHex(c):
			out = append(out, '\\', 'x', lowerHex[c>>4], lowerHex[c&15])
		default:
			out = append(out, c)
		}
	}
	out = append(out, '"')
	return string(out)
}

// quotedHex reports whether Quote writes c by its hexadecimal digits.
func quotedHex(c byte) bool { return c < 32 && c != '\n' || c >= 127 }

func Unquote(s string, i int) (string, int) {
	if i < 0 || i >= len(s) || s[i] != '"' {
		return "", -1
	}
	out := []byte{}
	next := i + 1
	for next < len(s) && s[next] != '"' {
		c, size := quotedAt(s, next)
		if size == 0 {
			return "", -1
		}
		out = append(out, c)
		next += size
	}
	if next == len(s) {
		return "", -1
	}
	return string(out), next + 1
}

// quotedAt reads the byte that Quote writes as the text at index i of s, which is not its closing quote, and the size of that text, 0 if there is none.
func quotedAt(s string, i int) (byte, int) {
	if s[i] != '\\' {
		if s[i] == '\n' || quotedHex(s[i]) {
			return 0, 0
		}
		return s[i], 1
	}
	if i+1 == len(s) {
		return 0, 0
	}
	switch s[i+1] {
	case '"', '\\':
		return s[i+1], 2
	case 'n':
		return '\n', 2
	case 'x':
		if c, ok := hexAt(s, i+2, lowerHex); ok && quotedHex(c) {
			return c, 4
		}
	}
	return 0, 0
}

func Place(s string, i int) (int, int) {
	if i < 0 || i > len(s) {
		return 0, 0
	}
	before := s[:i]
	return strings.Count(before, "\n") + 1, i - strings.LastIndexByte(before, '\n')
}
