package tests

import (
	"math"
	"regexp"
	"slices"
	"strconv"
	"strings"
	"testing"
	"unsafe"

	"loop.example/g00379/impl"
)

const nameForm = `[a-zA-Z]{1,10}(?::[a-zA-Z]{1,10})?`

// The oracle reads by these forms, the program by states.
var (
	wholeName   = regexp.MustCompile(`^` + nameForm + `$`)
	openForm    = regexp.MustCompile(`^<(` + nameForm + `)((?: ` + nameForm + `="[^"<]*")*)(/?)>`)
	attrForm    = regexp.MustCompile(` (` + nameForm + `)="([^"<]*)"`)
	closeForm   = regexp.MustCompile(`^</(` + nameForm + `)>`)
	remarkForm  = regexp.MustCompile(`^<!--(?s:(.*?))-->`)
	betweenForm = regexp.MustCompile(`^[^<>]+`)
)

func plainText(s string) bool {
	for i := range len(s) {
		if !plainByte(int(s[i])) {
			return false
		}
	}
	return true
}

func expectedName(s string) bool { return wholeName.MatchString(s) && !strings.Contains(s, "\n") }

func expectedTokenOk(t impl.Token) bool {
	seen := map[string]int{}
	for _, a := range t.Attrs {
		seen[a.Name]++
		if !expectedName(a.Name) || len(a.Value) > 60 || !plainText(a.Value) || seen[a.Name] > 1 {
			return false
		}
	}
	name, text := expectedName(t.Name), len(t.Text) >= 1 && len(t.Text) <= 60 && plainText(t.Text)
	return t.Kind == 1 && name && len(t.Attrs) <= 6 && t.Text == "" ||
		t.Kind == 2 && name && len(t.Attrs) == 0 && t.Text == "" ||
		t.Kind == 3 && t.Name == "" && len(t.Attrs) == 0 && text
}

func expectedShow(t impl.Token) string {
	if !expectedTokenOk(t) {
		return ""
	}
	out := map[int64]string{1: "<" + t.Name, 2: "</" + t.Name + ">", 3: expectedEscape(t.Text, false)}[t.Kind]
	for _, a := range t.Attrs {
		out += " " + a.Name + "=\"" + expectedEscape(a.Value, true) + "\""
	}
	if t.Kind == 1 {
		out += ">"
	}
	return out
}

func expectedOpen(found []string) ([]impl.Token, bool) {
	t := impl.Token{Kind: 1, Name: found[1]}
	for _, a := range attrForm.FindAllStringSubmatch(found[2], -1) {
		value, ok := expectedUnescape(a[2])
		if !ok {
			return nil, false
		}
		t.Attrs = append(t.Attrs, impl.Attr{Name: a[1], Value: value})
	}
	if found[3] == "/" {
		return []impl.Token{t, closed(found[1])}, true
	}
	return []impl.Token{t}, true
}

// expectedStep reads what a text begins with: its Tokens, and how many bytes that are; 0 where it is none of these.
func expectedStep(s string) ([]impl.Token, int) {
	if found := openForm.FindStringSubmatch(s); found != nil {
		if list, ok := expectedOpen(found); ok {
			return list, len(found[0])
		}
	} else if found := closeForm.FindStringSubmatch(s); found != nil {
		return []impl.Token{closed(found[1])}, len(found[0])
	} else if found := remarkForm.FindStringSubmatch(s); found != nil && !strings.Contains(found[1], "--") {
		return nil, len(found[0])
	} else if raw := betweenForm.FindString(s); raw != "" {
		if said, ok := expectedUnescape(raw); ok {
			return []impl.Token{text(said)}, len(raw)
		}
	}
	return nil, 0
}

func expectedTokens(s string) ([]impl.Token, bool) {
	if len(s) > 4000 || !plainText(s) {
		return nil, false
	}
	var list []impl.Token
	for s != "" {
		found, size := expectedStep(s)
		if size == 0 {
			return nil, false
		}
		last := len(list) - 1
		if len(found) == 1 && found[0].Kind == 3 && last >= 0 && list[last].Kind == 3 {
			list[last].Text += found[0].Text
		} else {
			list = append(list, found...)
		}
		s = s[size:]
	}
	if len(list) > 120 || !allTokens(list, expectedTokenOk) {
		return nil, false
	}
	return list, true
}

func allTokens(list []impl.Token, ok func(impl.Token) bool) bool {
	return !slices.ContainsFunc(list, func(t impl.Token) bool { return !ok(t) })
}

// attrs takes a Name and a Value in turn.
func attrs(pairs ...string) []impl.Attr {
	var list []impl.Attr
	for i := 0; i+1 < len(pairs); i += 2 {
		list = append(list, impl.Attr{Name: pairs[i], Value: pairs[i+1]})
	}
	return list
}

func opened(name string, pairs ...string) impl.Token {
	return impl.Token{Kind: 1, Name: name, Attrs: attrs(pairs...)}
}

func closed(name string) impl.Token { return impl.Token{Kind: 2, Name: name} }

func text(s string) impl.Token { return impl.Token{Kind: 3, Text: s} }

// sameToken holds that an empty list and nil are the same.
func sameToken(a, b impl.Token) bool {
	return a.Kind == b.Kind && a.Name == b.Name && a.Text == b.Text && slices.Equal(a.Attrs, b.Attrs)
}

func sameTokens(a, b []impl.Token) bool { return slices.EqualFunc(a, b, sameToken) }

func wantTokens(t *testing.T, s string, want ...impl.Token) {
	t.Helper()
	if got, ok := impl.Tokens(s); !ok || !sameTokens(got, want) {
		t.Errorf("Tokens(%q) = %+v, %v, not %+v", s, got, ok, want)
	}
}

func wantNoTokens(t *testing.T, s string) {
	t.Helper()
	if got, ok := impl.Tokens(s); ok || len(got) != 0 {
		t.Errorf("Tokens(%q) = %+v, %v", s, got, ok)
	}
}

func wantAsExpected(t *testing.T, s string) {
	t.Helper()
	want, right := expectedTokens(s)
	if got, ok := impl.Tokens(s); ok != right || !sameTokens(got, want) {
		t.Fatalf("Tokens(%q) = %+v, %v, not %+v, %v", s, got, ok, want, right)
	}
}

// wantJust tells a limit that n meets from one that n passes.
func wantJust(t *testing.T, within bool, s string, want ...impl.Token) {
	t.Helper()
	if within {
		wantTokens(t, s, want...)
	} else {
		wantNoTokens(t, s)
	}
}

func TestTokensOfTags(t *testing.T) {
	wantTokens(t, "")
	wantTokens(t, "<a>", opened("a"))
	wantTokens(t, "<Claim>", opened("Claim"))
	wantTokens(t, "<c:Claim>", opened("c:Claim"))
	wantTokens(t, "<a x=\"1\">", opened("a", "x", "1"))
	wantTokens(t, "<a x=\"1\" y=\"two words\" ns:z=\"\">", opened("a", "x", "1", "y", "two words", "ns:z", ""))
	wantTokens(t, "<a X=\"1\" x=\"1\" x:x=\"1\">", opened("a", "X", "1", "x", "1", "x:x", "1"))
	wantTokens(t, "<a/>", opened("a"), closed("a"))
	wantTokens(t, "<c:Seal Ref=\"r\" Sum=\"s\"/>", opened("c:Seal", "Ref", "r", "Sum", "s"), closed("c:Seal"))
	wantTokens(t, "</a>", closed("a"))
	wantTokens(t, "</c:Claim>", closed("c:Claim"))
	wantTokens(t, "a text", text("a text"))
	wantTokens(t, " \n ", text(" \n "))
	wantTokens(t, "<a>b</a>", opened("a"), text("b"), closed("a"))
	wantTokens(t, "x<a><b/>\n</a>y", text("x"), opened("a"), opened("b"), closed("b"), text("\n"), closed("a"), text("y"))
	wantTokens(t, "</b><a></c>", closed("b"), opened("a"), closed("c"))
	wantTokens(t, "<a x=\"/\"/></a>", opened("a", "x", "/"), closed("a"), closed("a"))
}

func TestTokensOfRemarks(t *testing.T) {
	wantTokens(t, "<!---->")
	wantTokens(t, "<!-- a remark --><!--another-->")
	wantTokens(t, "<!--r--><a>", opened("a"))
	wantTokens(t, "<a><!--r--></a>", opened("a"), closed("a"))
	wantTokens(t, "<a/><!--r-->", opened("a"), closed("a"))
	wantTokens(t, "a<!--r-->b", text("ab"))
	wantTokens(t, "a<!----><!--s-->b<!--t-->c", text("abc"))
	wantTokens(t, "<!--r-->a<!--s-->", text("a"))
	wantTokens(t, "a<!--r--><b>c<!--s--></b>d", text("a"), opened("b"), text("c"), closed("b"), text("d"))
	wantTokens(t, "<a/><!--r--><a/>", opened("a"), closed("a"), opened("a"), closed("a"))
	wantTokens(t, "&lt;<!--r-->&gt;", text("<>"))
	wantTokens(t, "&amp;<!--r-->lt;", text("&lt;"))
	for _, inside := range []string{"", "-", " - ", "- ", " -", "-a", "a-", "-a-", "- -", "->", "->-", "<", ">", "<a>", "</a>", "<!", "<!-", "& &x;", "\"", "=", "\n", "!>", "a-b-c"} {
		wantTokens(t, "<!--"+inside+"-->")
		wantTokens(t, "a<!--"+inside+"-->b<c>", text("ab"), opened("c"))
	}
	for _, inside := range []string{"--", "---", " -- ", "--a", "a--", "a--b", "-- ", " --", "<!--", "-- >", "---a", "-->--", "----"} {
		wantNoTokens(t, "<!--"+inside+"-->")
	}
	for _, s := range []string{"<!", "<!-", "<!--", "<!---", "<!-->", "<!--->", "<!-- ", "<!--a--", "<!--a->", "<!>", "<!->", "<!a>", "<! -- -->", "<!-a-->", "<!a-->", "<!-- a", "<!-- --", "< !---->", "<!----", "<!----<a>", "<!---- >", "<!--a--->>", "-->", "<!---->-->"} {
		wantNoTokens(t, s)
		wantNoTokens(t, "a"+s)
	}
}

func TestTokensOfEscapes(t *testing.T) {
	for _, sign := range []string{"&", "<", ">", "\""} {
		raw := map[string]string{"&": "&amp;", "<": "&lt;", ">": "&gt;", "\"": "&quot;"}[sign]
		wantTokens(t, raw, text(sign))
		wantTokens(t, "a"+raw+raw+"b", text("a"+sign+sign+"b"))
		wantTokens(t, "<a x=\""+raw+"\">", opened("a", "x", sign))
		wantTokens(t, "<a x=\"b"+raw+"c\" y=\""+raw+"\"/>", opened("a", "x", "b"+sign+"c", "y", sign), closed("a"))
		for cut := 1; cut < len(raw); cut++ {
			wantNoTokens(t, raw[:cut])
			wantNoTokens(t, "<a>"+raw[:cut]+"</a>")
			wantNoTokens(t, "<a x=\""+raw[:cut]+"\">")
			wantNoTokens(t, raw[:cut]+"<!---->"+raw[cut:])
			wantNoTokens(t, "<a>"+raw[:cut]+"<!--r-->"+raw[cut:]+"</a>")
		}
	}
	wantTokens(t, "&amp;lt;", text("&lt;"))
	wantTokens(t, "<a x=\"&amp;quot;\">", opened("a", "x", "&quot;"))
	wantTokens(t, "<a x=\">\">", opened("a", "x", ">"))
	wantTokens(t, "<a x=\"/>\"/>", opened("a", "x", "/>"), closed("a"))
	wantTokens(t, "<a x=\"b>c>\" y=\">\">d", opened("a", "x", "b>c>", "y", ">"), text("d"))
	wantTokens(t, "say \"so\"", text("say \"so\""))
	wantTokens(t, "<a x=\" y=\">", opened("a", "x", " y="))
	wantTokens(t, "<a x=\"-->\">", opened("a", "x", "-->"))
	wantTokens(t, "a--&gt; = / ! -", text("a--> = / ! -"))
}

func TestTokensOfWrongTags(t *testing.T) {
	for _, s := range []string{
		"<", "a<", "<a><", "<a", "<a ", "<a x", "<a x=", "<a x=\"", "<a x=\"1", "<a x=\"1\"", "<a x=\"1\" ", "<a/", "<a x=\"1\"/", "</", "</a", "<a></a",
		"<a x=1>", "<a x='1'>", "<a x=\"1>", "<a x=1\">", "<a x=>", "<a x>", "<a x/>", "<a =\"1\">", "<a \"1\">", "<a x= \"1\">", "<a x =\"1\">", "<a x==\"1\">",
		"<a x=\"<\">", "<a x=\"1<2\">", "<a x=\"a\"b\">", "<a x=\"\"\">", "<a x=\"\"\"\">", "<a x=\"1\"\"2\">", "<a x=\"&\">", "<a x=\"&x;\">", "<a x=\"a&lt\">",
		"<a  x=\"1\">", "<a x=\"1\"  y=\"2\">", "<a x=\"1\"y=\"2\">", "<ax=\"1\">", "<a\nx=\"1\">", "<a x=\"1\"\ny=\"2\">", "<a \nx=\"1\">", "<a x=\"1\",y=\"2\">",
		"<a >", "<a />", "<a x=\"1\" >", "<a x=\"1\" />", "<a/ >", "<a / >", "<a//>", "<a/b>", "<a/ x=\"1\">", "<a\n>", "<a x=\"1\"\n>", "<a x=\"1\"//>", "<a x=\"1\"/ />",
		"< a>", "<>", "< >", "</>", "<//>", "</ a>", "</a >", "</a\n>", "</a/>", "<</a>", "<a<b>", "</a x=\"1\">", "</a x=\"1\"/>", "</a b>", "</a></", "<a>>", "<a>></a>",
		"<a x=\"1\" x=\"2\">", "<a x=\"1\" x=\"1\">", "<a x=\"1\" y=\"2\" x=\"3\"/>", "<a b:x=\"1\" y=\"\" b:x=\"2\">",
		"<1>", "<a1>", "<a-b>", "<:>", "<:a>", "<a:>", "<a:b:c>", "<a.b>", "</1>", "</:a>", "</a:>", "</a:b:c>", "<a 1=\"1\">", "<a :x=\"1\">", "<a x:=\"1\">", "<a x:y:z=\"1\">", "<a x y=\"1\">", "<a x<y=\"1\">",
		"<?a?>", "<!a>", "<!DOCTYPE a>", "<a></a>&", "&", "&x;", "a & b", "&lt", "&#60;", "&apos;", "<a>&x;</a>", "a>b", ">", "a>", "<a>b>c</a>", "=>",
		"<!-- -- -->", "<a <!---->>", "<a<!---->>", "<a x=\"<!---->\">", "&l<!---->t;", "<a>&am<!-- -->p;</a>",
	} {
		wantNoTokens(t, s)
		wantNoTokens(t, "<b/>c<!--r-->"+s)
		wantAsExpected(t, s)
	}
}

func TestTokensOfNotPlainSigns(t *testing.T) {
	for b := range 256 {
		c := oneByte(b)
		for _, s := range []string{c, "a" + c, c + "a", "<" + c, "<" + c + ">", "<a" + c + ">", "<a" + c + "x=\"1\">", "<a x" + c + "=\"1\">", "<a x=" + c + "1\">", "<a x=\"" + c + "\">", "<a x=\"1" + c + ">", "<a x=\"1\"" + c + ">", "<a x=\"1\"" + c + "y=\"2\">", "<a/" + c + ">", "</" + c + ">", "</a" + c + ">", "<a" + c + "/>", "<!" + c + "-->", "<!-" + c + "-->", "<!--" + c + "-->", "<!--" + c + "->", "<!---" + c + "-->", "<!--a-" + c + ">", "<!--a--" + c, "<!--a-->" + c} {
			wantAsExpected(t, s)
			if !plainByte(b) {
				wantNoTokens(t, s)
			}
		}
	}
	wantNoTokens(t, "<a>caf\u00e9</a>")
	wantNoTokens(t, "<!--\t-->")
	wantNoTokens(t, "<a x=\"\r\">")
	wantNoTokens(t, "<a>\x00")
}

// shortPieces has lists of pieces whose texts reach, between them, each state of the reader.
func shortPieces() [][]string {
	return [][]string{
		{"<", ">", "/", "!", "-", "a", " ", "=", "\"", "&", "lt;"},
		{"<a", "</a", "/", ">", " x=\"", "\"", " y=\"", "&amp;", "b", "<!--", "-->"},
		{"<!--", "<!", "-", "--", "-->", ">", "a", "<b/>"},
		{"<a", " ", "x", "=", "\"", "1", "/", ">", "&gt;"},
	}
}

func TestTokensOfShortTexts(t *testing.T) {
	for _, pieces := range shortPieces() {
		eachText(pieces, 5, func(s string) { wantAsExpected(t, s) })
	}
}

func longerLetters() []string {
	return []string{
		"<l:Letter ns:l=\"claim\" Id=\"l1\"><!-- r --><c:Claim ns:c=\"claim\">me@x &lt;<!--s-->&amp;\n</c:Claim></l:Letter>",
		"a<b x=\"1&quot;>\" y=\"\"/>c&gt;<!---->d<e></e><!--- - -->",
		"<a a=\"\" b=\"\" c=\"\" d=\"\" e=\"\" f=\"\"/><!--->--></a>",
	}
}

// One sign more, one less, or another one in its place may make another letter, or none.
func TestTokensOfChangedLetters(t *testing.T) {
	for _, letter := range longerLetters() {
		if _, ok := impl.Tokens(letter); !ok {
			t.Errorf("Tokens(%q) is refused", letter)
		}
		for at := range len(letter) + 1 {
			ahead, behind := letter[:at], letter[at:]
			wantAsExpected(t, ahead)
			wantAsExpected(t, behind)
			for _, c := range []string{"<", ">", "/", "!", "-", " ", "\"", "=", "&", ";", ":", "a", "1", "\n", "\t", "<!--r-->", "--", "/>", "-->", " z=\"\""} {
				wantAsExpected(t, ahead+c+behind)
				if behind != "" {
					wantAsExpected(t, ahead+c+behind[1:])
					wantAsExpected(t, ahead+behind[1:])
				}
			}
		}
	}
}

func TestTokensOfMostSigns(t *testing.T) {
	for n := 3998; n <= 4002; n++ {
		within := n <= 4000
		wantJust(t, within, "<!--"+strings.Repeat("r", n-7)+"-->")
		wantJust(t, within, "<a/><!--"+strings.Repeat(" ", n-12)+"-->b", opened("a"), closed("a"), text("b"))
		full := "<a x=\"" + strings.Repeat("&quot;", 60) + "\">"
		rest := n - 10*len(full)
		var list []impl.Token
		for range 10 {
			list = append(list, opened("a", "x", strings.Repeat("\"", 60)))
		}
		wantJust(t, within, strings.Repeat(full, 10)+"<!--"+strings.Repeat("<", rest-7)+"-->", list...)
	}
	wantNoTokens(t, strings.Repeat("<!---->", 600))
	wantNoTokens(t, strings.Repeat("<!--", 1000))
	wantNoTokens(t, "<!--"+strings.Repeat("r", 1<<20)+"-->")
}

func repeatedTokens(n int, list ...impl.Token) []impl.Token {
	var out []impl.Token
	for range n {
		out = append(out, list...)
	}
	return out
}

func TestTokensOfMostTokens(t *testing.T) {
	for n := 118; n <= 124; n++ {
		wantJust(t, n <= 120, strings.Repeat("<a>", n), repeatedTokens(n, opened("a"))...)
		wantJust(t, n <= 120, strings.Repeat("</a>", n), repeatedTokens(n, closed("a"))...)
		wantJust(t, n+1 <= 120, strings.Repeat("<a>", n)+"b", append(repeatedTokens(n, opened("a")), text("b"))...)
		wantJust(t, n+2 <= 120, strings.Repeat("<a>", n)+"<b x=\"1\"/>", append(repeatedTokens(n, opened("a")), opened("b", "x", "1"), closed("b"))...)
		wantJust(t, n+2 <= 120, "<b/>"+strings.Repeat("<a>", n), append([]impl.Token{opened("b"), closed("b")}, repeatedTokens(n, opened("a"))...)...)
	}
	for n := 58; n <= 62; n++ {
		wantJust(t, n <= 60, strings.Repeat("<a/>", n), repeatedTokens(n, opened("a"), closed("a"))...)
		wantJust(t, n <= 60, strings.Repeat("<a>b", n), repeatedTokens(n, opened("a"), text("b"))...)
		wantJust(t, n <= 60, strings.Repeat("b<!---->c</a>", n), repeatedTokens(n, text("bc"), closed("a"))...)
	}
	wantTokens(t, strings.Repeat("<a>", 120)+"<!--r-->", repeatedTokens(120, opened("a"))...)
}

func TestTokensOfMostAttrs(t *testing.T) {
	names := []string{"x", "y", "z", "X", "a:x", "b:x", "c", "d"}
	for n := range len(names) + 1 {
		raw, pairs := "", []string{}
		for i, name := range names[:n] {
			raw += " " + name + "=\"" + strconv.Itoa(i) + "\""
			pairs = append(pairs, name, strconv.Itoa(i))
		}
		wantJust(t, n <= 6, "<a"+raw+">", opened("a", pairs...))
		wantJust(t, n <= 6, "<a"+raw+"/>", opened("a", pairs...), closed("a"))
	}
}

func TestTokensOfLongestValues(t *testing.T) {
	for _, n := range []int{0, 1, 59, 60, 61, 62, 120} {
		for _, sign := range []string{"v", ">", " ", "\n", "&", "<", "\""} {
			raw, said := strings.Repeat(expectedEscape(sign, true), n), strings.Repeat(sign, n)
			wantJust(t, n <= 60, "<a x=\""+raw+"\">", opened("a", "x", said))
			wantJust(t, n <= 60, "<a y=\"1\" x=\""+raw+"\"/>", opened("a", "y", "1", "x", said), closed("a"))
		}
	}
}

func TestTokensOfLongestTexts(t *testing.T) {
	for _, n := range []int{1, 2, 59, 60, 61, 62, 120} {
		for _, sign := range []string{"v", "\"", " ", "\n", "&", "<", ">"} {
			raw, said := strings.Repeat(expectedEscape(sign, false), n), strings.Repeat(sign, n)
			wantJust(t, n <= 60, raw, text(said))
			wantJust(t, n <= 60, "<a>"+raw+"</a>", opened("a"), text(said), closed("a"))
			wantJust(t, n+1 <= 60, raw+"<!--r-->b", text(said+"b"))
			wantJust(t, n+2 <= 60, "b<!--r-->"+raw+"<!---->&lt;<a>", text("b"+said+"<"), opened("a"))
			wantJust(t, n <= 60, strings.Repeat(expectedEscape(sign, false)+"<!---->", n), text(said))
		}
	}
	half := strings.Repeat("h", 40)
	wantTokens(t, half+"<a>"+half, text(half), opened("a"), text(half))
	wantNoTokens(t, half+"<!---->"+half)
}

func TestTokensOfLongestNames(t *testing.T) {
	for _, c := range nameCases() {
		if strings.ContainsAny(c.name, "<>/ =\"") || len(c.name) > 100 {
			continue
		}
		wantJust(t, c.ok, "<"+c.name+">", opened(c.name))
		wantJust(t, c.ok, "<"+c.name+"/>", opened(c.name), closed(c.name))
		wantJust(t, c.ok, "</"+c.name+">", closed(c.name))
		wantJust(t, c.ok, "<a "+c.name+"=\"1\">", opened("a", c.name, "1"))
		wantJust(t, c.ok, "<"+c.name+" a:x=\"\">", opened(c.name, "a:x", ""))
	}
}

// strewnTokens makes a right list in which no two texts stand side by side; what it shows; and the same with remarks strewn in.
func strewnTokens(seed int) ([]impl.Token, string, string) {
	numbers := strewn(400, 1<<30)
	next := func(below int) int {
		seed++
		return int(numbers[(seed*7+seed/len(numbers)*13)%len(numbers)]) % below
	}
	names := []string{"a", "B", "c:Claim", "abcdefghij", "abcdefghij:KLMNOPQRST", "ns", "ns:x", "Id", "z"}
	texts := []string{"a", "<", ">", "&", "\"", "&lt;", "-->", "<!--", " ", "\n", "two words", "a>b", strings.Repeat("&", 60), allPlain()[:60], allPlain()[36:]}
	remarks := []string{"", "", "<!---->", "<!-- r -->", "<!-----><!--s-->"}
	var list []impl.Token
	shown, parted := "", ""
	for range next(9) + 1 {
		var one impl.Token
		switch kind := next(3); {
		case kind == 0:
			one = opened(names[next(len(names))])
			for i, most := next(len(names)), next(7); len(one.Attrs) < most; i++ {
				one.Attrs = append(one.Attrs, attrs(names[i%len(names)], append(texts, "")[next(len(texts)+1)])...)
			}
		case kind == 1 || len(list) > 0 && list[len(list)-1].Kind == 3:
			one = closed(names[next(len(names))])
		default:
			one = text(texts[next(len(texts))])
		}
		list = append(list, one)
		shown += impl.ShowToken(one)
		parted += remarks[next(len(remarks))] + impl.ShowToken(one)
	}
	return list, shown, parted + remarks[next(len(remarks))]
}

// Promise 7.
func TestTokensOfWhatIsShownAreThose(t *testing.T) {
	kinds := map[int64]int{}
	for seed := range 4000 {
		list, shown, parted := strewnTokens(seed)
		if len(shown) > 4000 || len(parted) > 4000 {
			continue
		}
		for _, one := range list {
			kinds[one.Kind]++
			if !impl.TokenOk(one) || impl.ShowToken(one) != expectedShow(one) {
				t.Fatalf("TokenOk(%+v) = %v, ShowToken %q", one, impl.TokenOk(one), impl.ShowToken(one))
			}
			if got, ok := impl.Tokens(impl.ShowToken(one)); !ok || !sameTokens(got, []impl.Token{one}) {
				t.Fatalf("Tokens of the shown %+v = %+v, %v", one, got, ok)
			}
		}
		for _, s := range []string{shown, parted} {
			if got, ok := impl.Tokens(s); !ok || !sameTokens(got, list) {
				t.Fatalf("Tokens(%q) = %+v, %v, not %+v", s, got, ok, list)
			}
		}
	}
	for kind := int64(1); kind <= 3; kind++ {
		if kinds[kind] < 1000 {
			t.Errorf("only %d of Kind %d were tried", kinds[kind], kind)
		}
	}
}

// Promise 7, the other way: what was read shows a letter that says the same, and each Token read is right.
func TestTokensReadAreRightAndShown(t *testing.T) {
	for _, pieces := range shortPieces() {
		eachText(pieces, 4, func(s string) {
			list, ok := impl.Tokens(s)
			if !ok {
				return
			}
			shown := ""
			for _, one := range list {
				shown += impl.ShowToken(one)
			}
			again, ok := impl.Tokens(shown)
			if !ok || !sameTokens(again, list) || !allTokens(list, impl.TokenOk) {
				t.Fatalf("Tokens(%q) = %+v, shown %q, read again %+v, %v", s, list, shown, again, ok)
			}
		})
	}
}

func TestTokensOfAllPlainSigns(t *testing.T) {
	for _, c := range allPlain() {
		one, long := string(c), strings.Repeat(string(c), 60)
		for _, token := range []impl.Token{text(one), text(long), opened("a", "x", one, "y", long), opened("a", "x", "")} {
			wantTokens(t, impl.ShowToken(token), token)
			if shown := impl.ShowToken(token); shown != expectedShow(token) {
				t.Errorf("ShowToken(%+v) = %q", token, shown)
			}
		}
	}
}

func TestShowTokenOfTokens(t *testing.T) {
	for _, c := range []struct {
		token impl.Token
		want  string
	}{
		{opened("a"), "<a>"}, {closed("a"), "</a>"}, {text("a"), "a"}, {closed("c:Claim"), "</c:Claim>"},
		{opened("c:Claim", "ns:c", "claim", "Id", "k1"), "<c:Claim ns:c=\"claim\" Id=\"k1\">"},
		{opened("a", "y", "2", "x", ""), "<a y=\"2\" x=\"\">"},
		{opened("a", "x", "<&>\"'"), "<a x=\"&lt;&amp;>&quot;'\">"}, {text("<&>\"'"), "&lt;&amp;&gt;\"'"}, {text(" \n"), " \n"},
		{opened("a", "x", "\n"), "<a x=\"\n\">"}, {text("</a>"), "&lt;/a&gt;"}, {text("<!--r-->"), "&lt;!--r--&gt;"},
		{impl.Token{Kind: 1, Name: "a", Attrs: []impl.Attr{}}, "<a>"}, {impl.Token{Kind: 2, Name: "a", Attrs: []impl.Attr{}}, "</a>"}, {impl.Token{Kind: 3, Text: "a", Attrs: []impl.Attr{}}, "a"},
		{impl.Token{}, ""}, {opened(""), ""}, {closed(""), ""}, {text(""), ""},
	} {
		if got := impl.ShowToken(c.token); got != c.want || impl.TokenOk(c.token) != (c.want != "") {
			t.Errorf("ShowToken(%+v) = %q, TokenOk %v", c.token, got, impl.TokenOk(c.token))
		}
	}
}

func checkToken(t *testing.T, token impl.Token, right bool) {
	t.Helper()
	if got := impl.TokenOk(token); got != right {
		t.Errorf("TokenOk(%+v) = %v", token, got)
	}
	if expectedTokenOk(token) != right {
		t.Errorf("of %+v the oracle says %v", token, !right)
	}
	if got := impl.ShowToken(token); got != expectedShow(token) || (got != "") != right {
		t.Errorf("ShowToken(%+v) = %q", token, got)
	}
}

func TestTokenOkOfKinds(t *testing.T) {
	for _, kind := range append(farNumbers(), 0, 1, 2, 3, 4, 5, -1, -2, -3, 257, 258, 259, 1<<32+1, math.MaxInt64, math.MinInt64) {
		checkToken(t, impl.Token{Kind: kind, Name: "a"}, kind == 1 || kind == 2)
		checkToken(t, impl.Token{Kind: kind, Name: "a", Attrs: attrs("x", "1")}, kind == 1)
		checkToken(t, impl.Token{Kind: kind, Text: "a"}, kind == 3)
		checkToken(t, impl.Token{Kind: kind, Name: "a", Text: "a"}, false)
		checkToken(t, impl.Token{Kind: kind}, false)
	}
	if impl.TkOpen != 1 || impl.TkClose != 2 || impl.TkText != 3 || impl.MaxText != 60 || impl.MaxLetter != 4000 || impl.MaxTokens != 120 {
		t.Error("a constant is another one")
	}
}

func TestTokenOkOfOtherFields(t *testing.T) {
	for _, token := range []impl.Token{
		{Kind: 1, Name: "a", Text: "b"}, {Kind: 1, Name: "a", Attrs: attrs("x", "1"), Text: " "}, {Kind: 1, Attrs: attrs("x", "1")},
		{Kind: 2, Name: "a", Text: "b"}, {Kind: 2, Name: "a", Attrs: attrs("x", "1")}, {Kind: 2, Name: "a", Attrs: attrs("", "")}, {Kind: 2, Text: "a"},
		{Kind: 3, Name: "a", Text: "b"}, {Kind: 3, Name: " ", Text: "b"}, {Kind: 3, Text: "b", Attrs: attrs("x", "1")}, {Kind: 3, Text: "b", Attrs: attrs("", "")}, {Kind: 3, Name: "a"},
	} {
		checkToken(t, token, false)
	}
}

func TestTokenOkOfNames(t *testing.T) {
	for _, c := range nameCases() {
		checkToken(t, opened(c.name), c.ok)
		checkToken(t, closed(c.name), c.ok)
		checkToken(t, opened("a", c.name, "1"), c.ok)
		checkToken(t, opened("a", "q:q", "1", c.name, ""), c.ok)
		checkToken(t, opened(c.name, "q:q", "1"), c.ok)
	}
}

func TestTokenOkOfAttrs(t *testing.T) {
	checkToken(t, opened("a", "x", "1", "y", "1"), true)
	checkToken(t, opened("a", "x", "1", "X", "1", "x:x", "1", "x:X", "1", "X:x", "1", "xx", "1"), true)
	checkToken(t, opened("a", "a", "a"), true)
	names := []string{"u", "v", "w", "x", "y", "z", "q", "r"}
	for n := range len(names) + 1 {
		one := opened("a")
		for _, name := range names[:n] {
			one.Attrs = append(one.Attrs, attrs(name, "1")...)
		}
		checkToken(t, one, n <= 6)
		for i := range n {
			for j := range i {
				twice := impl.Token{Kind: 1, Name: "a", Attrs: slices.Clone(one.Attrs)}
				twice.Attrs[i].Name, twice.Attrs[i].Value = names[j], "another"
				checkToken(t, twice, false)
			}
		}
	}
	checkToken(t, impl.Token{Kind: 1, Name: "a", Attrs: make([]impl.Attr, 1000)}, false)
}

func TestTokenOkOfValuesAndTexts(t *testing.T) {
	for _, n := range []int{0, 1, 2, 59, 60, 61, 62, 300, 5000} {
		s := strings.Repeat("v", n)
		checkToken(t, opened("a", "x", s), n <= 60)
		checkToken(t, opened("a", "y", "1", "x", s), n <= 60)
		checkToken(t, text(s), n >= 1 && n <= 60)
		checkToken(t, text(strings.Repeat("&", n)), n >= 1 && n <= 60)
	}
	for b := range 256 {
		for _, s := range []string{oneByte(b), "a" + oneByte(b), oneByte(b) + "a", "a" + oneByte(b) + "a", strings.Repeat("v", 59) + oneByte(b)} {
			checkToken(t, opened("a", "x", s), plainByte(b))
			checkToken(t, opened("a", "y", "1", "x", s, "z", ""), plainByte(b))
			checkToken(t, text(s), plainByte(b))
		}
	}
	checkToken(t, text("caf\u00e9"), false)
	checkToken(t, opened("a", "x", "\u20ac"), false)
}

func TestValueIn(t *testing.T) {
	list := attrs("x", "1", "y", "2", "x", "3", "a:x", "4", "z", "", "", "none", "X", "5", "no name", "\xff")
	for _, c := range []struct {
		list       []impl.Attr
		name, want string
		ok         bool
	}{
		{list, "x", "1", true}, {list, "y", "2", true}, {list, "a:x", "4", true}, {list, "z", "", true}, {list, "", "none", true}, {list, "X", "5", true}, {list, "no name", "\xff", true},
		{list[1:], "x", "3", true}, {list[7:], "no name", "\xff", true}, {attrs("x", "", "x", "1"), "x", "", true}, {attrs("x", "1", "x", ""), "x", "1", true},
		{list, "Y", "", false}, {list, "a", "", false}, {list, "a:", "", false}, {list, "xx", "", false}, {list, "x ", "", false}, {list, "1", "", false}, {list, "\xff", "", false},
		{list[3:], "x", "", false}, {nil, "x", "", false}, {nil, "", "", false}, {[]impl.Attr{}, "x", "", false}, {list[:1], "y", "", false}, {list[:0], "x", "", false}, {attrs("x", "1"), "", "", false},
	} {
		if got, ok := impl.ValueIn(c.list, c.name); got != c.want || ok != c.ok {
			t.Errorf("ValueIn(%q, %q) = %q, %v", c.list, c.name, got, ok)
		}
	}
}

func tokenTexts(list []impl.Token) []string {
	var texts []string
	for _, token := range list {
		texts = append(texts, token.Name, token.Text)
		for _, a := range token.Attrs {
			texts = append(texts, a.Name, a.Value)
		}
	}
	return texts
}

// roomOf tells where a list lies, its spare room among it.
func roomOf[T any](list []T) (uintptr, uintptr) {
	var one T
	start := uintptr(unsafe.Pointer(unsafe.SliceData(list)))
	return start, start + uintptr(cap(list))*unsafe.Sizeof(one)
}

func sharesRoom[T any](a, b []T) bool {
	startA, endA := roomOf(a)
	startB, endB := roomOf(b)
	return cap(a) > 0 && cap(b) > 0 && startA < endB && startB < endA
}

// Promise 21 for chapter 7: what Tokens tells.
func TestTokensAreNewMemoryAndTheLetterStays(t *testing.T) {
	for _, s := range append(longerLetters(), "", "<a/>", "<a x=\"x\"/><a x=\"x\"/>", "a<!---->b", "abc", "<a", "&x;", "\xff", "<a x=\"v\"><b x=\"v\"><c x=\"v\" y=\"w\" z=\"u\"></c>") {
		letter, buffer := laid(s)
		list, _ := impl.Tokens(letter)
		again, _ := impl.Tokens(letter)
		texts := tokenTexts(list)
		for i, one := range texts {
			if sharesMemory(one, letter) || slices.ContainsFunc(texts[:i], func(other string) bool { return sharesMemory(one, other) }) {
				t.Errorf("of Tokens(%q) the text %q lies in the letter, or in another one", s, one)
			}
		}
		for i := range list {
			for j := range list {
				if i != j && sharesRoom(list[i].Attrs, list[j].Attrs) || sharesRoom(list[i].Attrs, again[j].Attrs) {
					t.Errorf("of Tokens(%q) the Attrs of %d and %d share memory", s, i, j)
				}
			}
		}
		if string(buffer) != s+"spare room" {
			t.Errorf("the letter %q became %q", s, buffer)
		}
	}
}

// Promise 21 for chapter 7: what is told of a Token and of Attrs.
func TestTokenAnswersAreNewMemoryAndArgumentsStay(t *testing.T) {
	for _, s := range []string{"a", "abc", "a<&>", "", "\xff", strings.Repeat("v", 61)} {
		value, buffer := laid(s)
		whole := append(attrs("x", value, "y", "2"), attrs("spare", "room")...)
		before := slices.Clone(whole)
		list := whole[:2]
		shown := []string{impl.ShowToken(impl.Token{Kind: 1, Name: "a", Attrs: list}), impl.ShowToken(text(value)), impl.ShowToken(closed(value)), impl.ShowToken(opened(value))}
		got, _ := impl.ValueIn(list, "x")
		for _, answer := range append(shown, got) {
			if sharesMemory(answer, value) {
				t.Errorf("the answer %q lies in its argument %q", answer, s)
			}
		}
		if string(buffer) != s+"spare room" || !slices.Equal(whole, before) {
			t.Errorf("the arguments %q became %q, %q", s, buffer, whole)
		}
	}
}

// Promise 21 for chapter 7: an answer to short texts of every byte and to great ones, nothing where it is false, and the same one each time.
func TestTokenFunctionsAnswerEverywhere(t *testing.T) {
	check := func(s string) {
		list, ok := impl.Tokens(s)
		again, same := impl.Tokens(s)
		if !ok && len(list) != 0 || ok != same || !sameTokens(list, again) || !allTokens(list, impl.TokenOk) {
			t.Fatalf("Tokens(%q) = %+v, %v", s, list, ok)
		}
		for kind := int64(-1); kind <= 4; kind++ {
			for _, token := range []impl.Token{{Kind: kind, Name: s}, {Kind: kind, Text: s}, {Kind: kind, Name: "a", Attrs: attrs(s, s, s, s)}, {Kind: kind, Name: "a", Attrs: attrs("x", s)}} {
				if impl.TokenOk(token) == (impl.ShowToken(token) == "") {
					t.Fatalf("TokenOk(%+v) = %v", token, impl.TokenOk(token))
				}
			}
		}
		if value, ok := impl.ValueIn(attrs(s, s), s); !ok || value != s {
			t.Fatalf("ValueIn of %q = %q, %v", s, value, ok)
		}
	}
	check("")
	for a := range 256 {
		check(oneByte(a))
		check(strings.Repeat(oneByte(a), 4000))
		for b := range 256 {
			check(oneByte(a) + oneByte(b))
		}
	}
	for _, piece := range []string{"<", "<a", "<a>", "<a x=\"", "<!--", "-", "&", "&lt;", "<a/>", " x=\"\"", "</", "\"", "<a a=\"\""} {
		for _, n := range []int{100, 500, 1000, 1 << 18} {
			check(strings.Repeat(piece, n))
			check("<a" + strings.Repeat(piece, n) + ">")
		}
	}
}
