package impl

import "strings"

// maxNameLetters bounds a name without a prefix, and each half of one with a prefix.
const maxNameLetters = 10

// A sign is one byte of a letter, whatever that byte is.
type sign byte

const (
	lineEnd   sign = 10
	quote     sign = 34
	ampersand sign = '&'
	colon     sign = ':'
	less      sign = '<'
	greater   sign = '>'
)

func (c sign) plain() bool { return c == lineEnd || 32 <= c && c <= 126 }

func (c sign) letter() bool { return 'a' <= c && c <= 'z' || 'A' <= c && c <= 'Z' }

func (c sign) digit() bool { return '0' <= c && c <= '9' }

func (c sign) same(other sign) bool { return c == other }

// reference is empty of a sign that has none.
func (c sign) reference() string {
	switch c {
	case ampersand:
		return "&amp;"
	case less:
		return "&lt;"
	case greater:
		return "&gt;"
	case quote:
		return "&quot;"
	}
	return ""
}

func (c sign) itself() string { return string([]byte{byte(c)}) }

// inText leaves the quote: only between quotes could it be mistaken for an end.
func (c sign) inText() string {
	if c == quote || c.reference() == "" {
		return c.itself()
	}
	return c.reference()
}

// inQuotes leaves >: between quotes it ends no tag.
func (c sign) inQuotes() string {
	if c == greater || c.reference() == "" {
		return c.itself()
	}
	return c.reference()
}

func allSigns(s string, ok func(sign) bool) bool {
	for i := range len(s) {
		if !ok(sign(s[i])) {
			return false
		}
	}
	return true
}

// firstSign tells where the first wanted sign stands, or -1.
func firstSign(s string, wanted func(sign) bool) int {
	for i := range len(s) {
		if wanted(sign(s[i])) {
			return i
		}
	}
	return -1
}

func PlainOk(s string) bool { return allSigns(s, sign.plain) }

func lettersOk(s string) bool {
	return 1 <= len(s) && len(s) <= maxNameLetters && allSigns(s, sign.letter)
}

// splitName answers pieces of the name itself, for inner use.
func splitName(name string) (string, string, bool) {
	at := firstSign(name, colon.same)
	if at < 0 {
		return "", name, lettersOk(name)
	}
	prefix, local := name[:at], name[at+1:]
	return prefix, local, lettersOk(prefix) && lettersOk(local)
}

func NameOk(s string) bool {
	_, _, ok := splitName(s)
	return ok
}

func Escaped(s string, quoted bool) string {
	if !PlainOk(s) {
		return ""
	}
	written := sign.inText
	if quoted {
		written = sign.inQuotes
	}
	var out strings.Builder
	for i := range len(s) {
		out.WriteString(written(sign(s[i])))
	}
	return out.String()
}

// readSign tells the sign that a text (not empty) begins with and how many bytes write it; 0 bytes where an & begins no reference.
func readSign(s string) (sign, int) {
	if first := sign(s[0]); first != ampersand {
		return first, 1
	}
	for _, c := range [4]sign{ampersand, less, greater, quote} {
		if strings.HasPrefix(s, c.reference()) {
			return c, len(c.reference())
		}
	}
	return 0, 0
}

func Unescaped(s string) (string, bool) {
	if !PlainOk(s) {
		return "", false
	}
	var out strings.Builder
	for at := 0; at < len(s); {
		c, size := readSign(s[at:])
		if size == 0 {
			return "", false
		}
		out.WriteByte(byte(c))
		at += size
	}
	return out.String(), true
}

func Parts(name string) (string, string) {
	prefix, local, ok := splitName(name)
	if !ok {
		return "", ""
	}
	// An answer shares no memory with its argument.
	return strings.Clone(prefix), strings.Clone(local)
}
