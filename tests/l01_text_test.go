package tests

import (
	"strings"
	"testing"
	"unsafe"

	"loop.example/g00379/impl"
)

const letters = "abcdefghijklmnopqrstuvwxyzABCDEFGHIJKLMNOPQRSTUVWXYZ"

// The oracles below are written by other means than the program's, so that one slip does not stand in both.

func plainByte(b int) bool { return b == 10 || b > 31 && b < 127 }

func oneByte(b int) string { return string([]byte{byte(b)}) }

func allPlain() string {
	var out strings.Builder
	for b := range 256 {
		if plainByte(b) {
			out.WriteByte(byte(b))
		}
	}
	return out.String()
}

func expectedEscape(s string, quoted bool) string {
	s = strings.ReplaceAll(s, "&", "&amp;")
	s = strings.ReplaceAll(s, "<", "&lt;")
	if quoted {
		return strings.ReplaceAll(s, "\"", "&quot;")
	}
	return strings.ReplaceAll(s, ">", "&gt;")
}

func expectedUnescape(s string) (string, bool) {
	pieces := strings.Split(s, "&")
	out := pieces[0]
	for _, piece := range pieces[1:] {
		name, rest, found := strings.Cut(piece, ";")
		sign, known := map[string]string{"amp": "&", "lt": "<", "gt": ">", "quot": "\""}[name]
		if !found || !known {
			return "", false
		}
		out += sign + rest
	}
	return out, true
}

// eachText hands on every text of at most so many of these pieces.
func eachText(pieces []string, most int, do func(string)) {
	var grow func(string, int)
	grow = func(s string, left int) {
		do(s)
		if left == 0 {
			return
		}
		for _, p := range pieces {
			grow(s+p, left-1)
		}
	}
	grow("", most)
}

func trickyPieces() []string {
	return []string{"&", "<", ">", "\"", ";", "amp", "lt", "gt", "quot", "a", " ", "\n", "&amp;"}
}

func TestPlainOkOfTexts(t *testing.T) {
	for _, c := range []struct {
		s    string
		want bool
	}{
		{"", true}, {"a b", true}, {"two\nlines\n", true}, {allPlain(), true},
		{"a\tb", false}, {"a\rb", false}, {"\x00", false}, {"ab\x7f", false}, {"\x1fab", false},
		{"caf\u00e9", false}, {"\xff", false}, {"\u20ac", false}, {allPlain() + "\x80", false},
	} {
		if got := impl.PlainOk(c.s); got != c.want {
			t.Errorf("PlainOk(%q) = %v", c.s, got)
		}
	}
}

func TestPlainOkOfEachByte(t *testing.T) {
	for b := range 256 {
		for _, s := range []string{oneByte(b), oneByte(b) + "ab", "a" + oneByte(b) + "b", "ab" + oneByte(b)} {
			if got := impl.PlainOk(s); got != plainByte(b) {
				t.Errorf("PlainOk(%q) = %v", s, got)
			}
		}
	}
	for b, want := range map[int]bool{9: false, 10: true, 11: false, 31: false, 32: true, 126: true, 127: false} {
		if got := impl.PlainOk(oneByte(b)); got != want {
			t.Errorf("PlainOk of byte %d = %v", b, got)
		}
	}
}

type nameCase struct {
	name, prefix, local string
	ok                  bool
}

func nameCases() []nameCase {
	ten, eleven := "abcdeVWXYZ", "abcdefVWXYZ"
	return []nameCase{
		{"a", "", "a", true}, {"Z", "", "Z", true}, {"z", "", "z", true}, {"A", "", "A", true},
		{"Claim", "", "Claim", true}, {ten, "", ten, true}, {"ns", "", "ns", true},
		{"ab:C", "ab", "C", true}, {"a:b", "a", "b", true}, {"ns:ns", "ns", "ns", true},
		{ten + ":a", ten, "a", true}, {"a:" + ten, "a", ten, true}, {ten + ":" + ten, ten, ten, true},
		{name: ""}, {name: eleven}, {name: eleven + ":a"}, {name: "a:" + eleven}, {name: eleven + ":" + eleven},
		{name: ":"}, {name: ":a"}, {name: "a:"}, {name: "::"}, {name: "a::b"}, {name: "a:b:c"}, {name: ":a:b"}, {name: "a:b:"},
		{name: "a b"}, {name: " a"}, {name: "a "}, {name: "a\n"}, {name: "a1"}, {name: "1"}, {name: "a-b"}, {name: "a.b"}, {name: "a_b"},
		{name: "a:b c"}, {name: "a :b"}, {name: "a: b"}, {name: "a;b"}, {name: "a9:b"}, {name: "a:9"},
		{name: "\u00e9"}, {name: "a\xff"}, {name: "\xe1"}, {name: "a:\u00e9"}, {name: "\x00"}, {name: strings.Repeat("a", 5000)},
		{name: strings.Repeat("a", 21)}, {name: strings.Repeat("a:", 5000)},
	}
}

func TestNames(t *testing.T) {
	for _, c := range nameCases() {
		if got := impl.NameOk(c.name); got != c.ok {
			t.Errorf("NameOk(%q) = %v", c.name, got)
		}
		if prefix, local := impl.Parts(c.name); prefix != c.prefix || local != c.local {
			t.Errorf("Parts(%q) = %q, %q", c.name, prefix, local)
		}
	}
}

func TestNamesOfEachByte(t *testing.T) {
	for b := range 256 {
		letter := strings.Contains(letters, oneByte(b))
		for _, s := range []string{oneByte(b), oneByte(b) + ":b", "a:" + oneByte(b), "a:b" + oneByte(b), oneByte(b) + "a:b"} {
			if got := impl.NameOk(s); got != letter {
				t.Errorf("NameOk(%q) = %v", s, got)
			}
			prefix, local := impl.Parts(s)
			if !letter && prefix+local != "" {
				t.Errorf("Parts(%q) = %q, %q", s, prefix, local)
			}
		}
		if got := impl.NameOk("a" + oneByte(b) + "b"); got != (letter || b == ':') {
			t.Errorf("NameOk with byte %d within = %v", b, got)
		}
	}
}

func TestNamesOfEachLength(t *testing.T) {
	for n := range 24 {
		s := strings.Repeat("q", n)
		right := n >= 1 && n <= 10
		for _, name := range []string{s, s + ":a", "a:" + s, s + ":" + s} {
			if got := impl.NameOk(name); got != right {
				t.Errorf("NameOk(%q) = %v", name, got)
			}
		}
	}
}

func TestEscapedOfTexts(t *testing.T) {
	for _, c := range []struct{ s, text, quoted string }{
		{"", "", ""}, {"plain", "plain", "plain"}, {"a\nb c~", "a\nb c~", "a\nb c~"},
		{"<", "&lt;", "&lt;"}, {">", "&gt;", ">"}, {"&", "&amp;", "&amp;"}, {"\"", "\"", "&quot;"},
		{"a<&>\"", "a&lt;&amp;&gt;\"", "a&lt;&amp;>&quot;"}, {"&lt;", "&amp;lt;", "&amp;lt;"}, {"'", "'", "'"},
		{"&&", "&amp;&amp;", "&amp;&amp;"}, {"\t", "", ""}, {"a<b\x7f", "", ""}, {"\xc3\xa9", "", ""}, {"<\x00", "", ""},
	} {
		if got := impl.Escaped(c.s, false); got != c.text {
			t.Errorf("Escaped(%q, false) = %q", c.s, got)
		}
		if got := impl.Escaped(c.s, true); got != c.quoted {
			t.Errorf("Escaped(%q, true) = %q", c.s, got)
		}
	}
}

func TestEscapedOfEachByte(t *testing.T) {
	for b := range 256 {
		for _, quoted := range []bool{false, true} {
			s, want := "x"+oneByte(b)+"y", ""
			if plainByte(b) {
				want = expectedEscape(s, quoted)
			}
			if got := impl.Escaped(s, quoted); got != want {
				t.Errorf("Escaped(%q, %v) = %q", s, quoted, got)
			}
		}
	}
}

func TestUnescapedOfTexts(t *testing.T) {
	for _, c := range []struct {
		s, want string
		ok      bool
	}{
		{"", "", true}, {"plain", "plain", true}, {"&amp;", "&", true}, {"&lt;", "<", true}, {"&gt;", ">", true}, {"&quot;", "\"", true},
		{"&lt;&quot;x", "<\"x", true}, {"x&gt;", "x>", true}, {"&amp;&amp;", "&&", true}, {"&amp;lt;", "&lt;", true}, {"&amp;amp;", "&amp;", true},
		{"<>\"", "<>\"", true}, {"&lt;;", "<;", true}, {"amp;", "amp;", true}, {"a\nb~ ", "a\nb~ ", true},
		{s: "&"}, {s: "a&"}, {s: "&amp;&"}, {s: "&x;"}, {s: "&;"}, {s: "&&amp;"}, {s: "& amp;"}, {s: "&apos;"}, {s: "&#38;"}, {s: "&AMP;"}, {s: "&Lt;"},
		{s: "&amp"}, {s: "&am"}, {s: "&a"}, {s: "&lt"}, {s: "&l"}, {s: "&gt"}, {s: "&g"}, {s: "&quot"}, {s: "&quo"}, {s: "&q"},
		{s: "&amp x;"}, {s: "&ltx;"}, {s: "&lt&gt;"}, {s: "&lt;&x;"}, {s: "&ampamp;"},
		{s: "\t"}, {s: "a\x1f"}, {s: "\x7f"}, {s: "&lt;\x80"}, {s: "\xff"}, {s: "\x00"},
	} {
		if got, ok := impl.Unescaped(c.s); got != c.want || ok != c.ok {
			t.Errorf("Unescaped(%q) = %q, %v", c.s, got, ok)
		}
	}
}

func TestUnescapedOfEachByte(t *testing.T) {
	for b := range 256 {
		s := "x" + oneByte(b) + "y&lt;"
		right := plainByte(b) && b != '&'
		want := ""
		if right {
			want = "x" + oneByte(b) + "y<"
		}
		if got, ok := impl.Unescaped(s); got != want || ok != right {
			t.Errorf("Unescaped(%q) = %q, %v", s, got, ok)
		}
	}
}

func TestUnescapedOfShortTexts(t *testing.T) {
	eachText(trickyPieces(), 4, func(s string) {
		want, right := expectedUnescape(s)
		if got, ok := impl.Unescaped(s); got != want || ok != right {
			t.Fatalf("Unescaped(%q) = %q, %v", s, got, ok)
		}
	})
}

// Promise 1.
func TestUnescapedOfEscapedIsTheText(t *testing.T) {
	check := func(s string) {
		for _, quoted := range []bool{false, true} {
			escaped := impl.Escaped(s, quoted)
			if escaped != expectedEscape(s, quoted) {
				t.Fatalf("Escaped(%q, %v) = %q", s, quoted, escaped)
			}
			if got, ok := impl.Unescaped(escaped); !ok || got != s {
				t.Fatalf("Unescaped(%q) = %q, %v, not %q", escaped, got, ok, s)
			}
		}
	}
	eachText(trickyPieces(), 4, check)
	check(allPlain())
	check(strings.Repeat(allPlain()+"&lt;<>\"&&quot;", 1000))
}

// sharesMemory asks whether two texts lie, in part, on the same bytes.
func sharesMemory(a, b string) bool {
	if a == "" || b == "" {
		return false
	}
	startA, startB := uintptr(unsafe.Pointer(unsafe.StringData(a))), uintptr(unsafe.Pointer(unsafe.StringData(b)))
	return startA < startB+uintptr(len(b)) && startB < startA+uintptr(len(a))
}

// laid is a text on the first bytes of a new buffer with spare room behind it.
func laid(s string) (string, []byte) {
	buffer := append([]byte(s), "spare room"...)
	return unsafe.String(unsafe.SliceData(buffer), len(s)), buffer
}

// Promise 21 for chapter 1.
func TestTextAnswersAreNewMemoryAndArgumentsStay(t *testing.T) {
	for _, s := range []string{"", "a", "abc", "ab:cd", "plain text", "a<&>\"", "&lt;x", "&x;", "a:b:c", "\t\xff", allPlain()} {
		text, buffer := laid(s)
		impl.PlainOk(text)
		impl.NameOk(text)
		unescaped, _ := impl.Unescaped(text)
		prefix, local := impl.Parts(text)
		answers := []string{impl.Escaped(text, false), impl.Escaped(text, true), unescaped, prefix, local}
		for i, answer := range answers {
			if sharesMemory(answer, text) {
				t.Errorf("answer %d to %q lies in its argument", i, s)
			}
		}
		if sharesMemory(prefix, local) {
			t.Errorf("both Parts of %q share memory", s)
		}
		if string(buffer) != s+"spare room" {
			t.Errorf("the argument %q became %q", s, buffer)
		}
	}
}

// Promise 21 for chapter 1: an answer to each text of at most two bytes, and the fixed one where the text is not as the chapter wants it.
func TestTextFunctionsAnswerEverywhere(t *testing.T) {
	check := func(s string, plain bool) {
		if got := impl.PlainOk(s); got != plain {
			t.Fatalf("PlainOk(%q) = %v", s, got)
		}
		unescaped, ok := impl.Unescaped(s)
		if !ok && unescaped != "" || ok && !plain {
			t.Fatalf("Unescaped(%q) = %q, %v", s, unescaped, ok)
		}
		if !plain && impl.Escaped(s, false)+impl.Escaped(s, true) != "" {
			t.Fatalf("Escaped(%q) is not empty", s)
		}
		prefix, local := impl.Parts(s)
		if impl.NameOk(s) == (local == "") || !impl.NameOk(s) && prefix != "" {
			t.Fatalf("Parts(%q) = %q, %q", s, prefix, local)
		}
	}
	check("", true)
	for a := range 256 {
		check(oneByte(a), plainByte(a))
		for b := range 256 {
			check(oneByte(a)+oneByte(b), plainByte(a) && plainByte(b))
		}
	}
	check(strings.Repeat("&", 1<<20), true)
	check(strings.Repeat("a:", 1<<20), true)
	check(strings.Repeat("\xff", 1<<20), false)
}
