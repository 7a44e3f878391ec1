package tests

import (
	"encoding/base64"
	"math"
	"strings"
	"testing"

	"loop.example/g00379/impl"
)

// letterList has the letters in their order, written out by another hand than the program's.
func letterList() []string {
	var list []string
	for _, ends := range []string{"AZ", "az", "09", "++", "//"} {
		for b := int(ends[0]); b <= int(ends[1]); b++ {
			list = append(list, oneByte(b))
		}
	}
	return list
}

// expectedFromLetters asks the library; its reader passes over the bytes 10 and 13, which are no letters.
func expectedFromLetters(s string) (string, bool) {
	if strings.ContainsAny(s, "\n\r") {
		return "", false
	}
	text, err := base64.StdEncoding.Strict().DecodeString(s)
	if err != nil {
		return "", false
	}
	return string(text), true
}

func allBytes() string {
	var out strings.Builder
	for b := range 256 {
		out.WriteByte(byte(b))
	}
	return out.String()
}

type letterCase struct{ text, letters string }

func letterCases() []letterCase {
	return []letterCase{
		{"", ""}, {"c", "Yw=="}, {"ca", "Y2E="}, {"cat", "Y2F0"}, {"catc", "Y2F0Yw=="}, {"catca", "Y2F0Y2E="}, {"catcat", "Y2F0Y2F0"},
		{"\x00", "AA=="}, {"\x00\x00", "AAA="}, {"\x00\x00\x00", "AAAA"}, {"\x00\x00\x00\x00", "AAAAAA=="}, {"\x00\x00\x00\x00\x00", "AAAAAAA="},
		{"\xff", "/w=="}, {"\xff\xff", "//8="}, {"\xff\xff\xff", "////"}, {"\xff\xff\xff\xff", "/////w=="}, {"\xff\xff\xff\xff\xff", "//////8="},
		{"\x00\xff", "AP8="}, {"\xff\x00", "/wA="}, {"\xff\x00\xff", "/wD/"}, {"\x00\x10\x83", "ABCD"}, {"\xfb\xef\xbe", "++++"}, {"\n", "Cg=="},
		{"<c:Claim>", "PGM6Q2xhaW0+"},
	}
}

func TestLettersOfTexts(t *testing.T) {
	for _, c := range letterCases() {
		if got := impl.ToLetters(c.text); got != c.letters {
			t.Errorf("ToLetters(%q) = %q", c.text, got)
		}
		if got, ok := impl.FromLetters(c.letters); got != c.text || !ok {
			t.Errorf("FromLetters(%q) = %q, %v", c.letters, got, ok)
		}
	}
}

func TestFromLettersOfWrongTexts(t *testing.T) {
	for _, s := range []string{
		"A", "AA", "AAA", "AAAAA", "AAAAAA", "AAAAAAA", "Y2F0Y", "Y2F0Yw", "Y2F0Y2E",
		"AA=", "A=", "A==", "AAA==", "AAAA=", "AAAA==", "AAAA===", "AAAA====", "AA===", "AA======", "AAA=====",
		"=", "==", "===", "====", "=AAA", "==AA", "===A", "A===", "A=AA", "AA=A", "A==A", "A=A=", "=A==", "====AAAA", "=AAAA",
		"AA==A", "AA==AA==", "AA==AAAA", "AAA=AAAA", "AAA=A", "AAAA=AAA", "AAAAA===", "AAAA=A==",
		"AAA-", "AAA_", "AAA.", "AA*A", "!AAA", "A AA", "AAA ", " AAA", "AAA\t", "A:AA", "AAA@", "AAA[", "AAA`", "AAA{", "AAA,",
		"AAA\x00", "\x00AAA", "AAA\x80", "AAA\xff", "\xc3\xa9AA", "-A==", "A-==", "AA-=", "AA=-", "A\xff==",
		"AB==", "AP==", "Yx==", "AAB=", "AAC=", "AAD=", "Y2F=", "//9=", "/x==", "//+=", "AAAAAB==", "AAAAAAB=",
		"Y2F0\n", "\nY2F0", "Y2\nF0", "Y2F0\nYw==", "Yw=\n=", "Yw==\n", "Yw\n==", "\n", "\n\n\n\n", "AAA\n", "Y2F0\r\n", "\r\n", "AAA\r",
	} {
		if got, ok := impl.FromLetters(s); got != "" || ok {
			t.Errorf("FromLetters(%q) = %q, %v", s, got, ok)
		}
	}
}

// The last letter ahead of = or == holds bits that lack: where they are not 0 there is no text.
func TestFromLettersOfBitsThatLack(t *testing.T) {
	for n, letter := range letterList() {
		for _, c := range []struct {
			s    string
			step int
		}{{"Y" + letter + "==", 16}, {"Y2" + letter + "=", 4}, {"Y2F" + letter, 1}} {
			if _, ok := impl.FromLetters(c.s); ok != (n%c.step == 0) {
				t.Errorf("FromLetters(%q) says %v", c.s, ok)
			}
		}
	}
}

func TestFromLettersOfEachByte(t *testing.T) {
	for b := range 256 {
		c := oneByte(b)
		for _, s := range []string{c + "AAA", "A" + c + "AA", "AA" + c + "A", "AAA" + c, c + "A==", "A" + c + "==", "AA" + c + "=", "AAA=" + c, "AAAA" + c, "AAAAAA=" + c} {
			want, right := expectedFromLetters(s)
			if got, ok := impl.FromLetters(s); got != want || ok != right {
				t.Errorf("FromLetters(%q) = %q, %v", s, got, ok)
			}
		}
	}
}

func TestFromLettersOfShortTexts(t *testing.T) {
	eachText([]string{"A", "B", "Q", "w", "8", "/", "+", "=", "\n", "-"}, 5, func(s string) {
		want, right := expectedFromLetters(s)
		if got, ok := impl.FromLetters(s); got != want || ok != right {
			t.Fatalf("FromLetters(%q) = %q, %v", s, got, ok)
		}
	})
	eachText([]string{"AA", "A", "Q=", "=", "==", "/w"}, 6, func(s string) {
		want, right := expectedFromLetters(s)
		if got, ok := impl.FromLetters(s); got != want || ok != right {
			t.Fatalf("FromLetters(%q) = %q, %v", s, got, ok)
		}
	})
}

// Promise 2.
func TestFromLettersOfToLettersIsTheText(t *testing.T) {
	check := func(s string) {
		inLetters := impl.ToLetters(s)
		if inLetters != base64.StdEncoding.EncodeToString([]byte(s)) {
			t.Fatalf("ToLetters(%q) = %q", s, inLetters)
		}
		if got, ok := impl.FromLetters(inLetters); !ok || got != s {
			t.Fatalf("FromLetters(%q) = %q, %v, not %q", inLetters, got, ok, s)
		}
	}
	eachText([]string{"\x00", "\xff", "a", "\n", "=", "\x80", "\x7f", "\x01"}, 5, check)
	for a := range 256 {
		for b := range 256 {
			check(oneByte(a) + oneByte(b))
		}
		check(oneByte(a))
		check("ab" + oneByte(a))
	}
	for n := range 300 {
		check((allBytes() + allBytes())[n:])
		check(strings.Repeat("\xff", n))
	}
	check(strings.Repeat(allBytes(), 1000) + "x")
}

func TestLetterOfAndValueOfEachNumber(t *testing.T) {
	list := letterList()
	if len(list) != 64 {
		t.Fatal(len(list))
	}
	for n := int64(-300); n < 300; n++ {
		want := ""
		if n >= 0 && n < 64 {
			want = list[n]
		}
		if got := impl.LetterOf(n); got != want {
			t.Errorf("LetterOf(%d) = %q", n, got)
		}
		if want != "" && impl.ValueOf(want) != n {
			t.Errorf("ValueOf(%q) = %d", want, impl.ValueOf(want))
		}
	}
}

func TestLetterOfTheEnds(t *testing.T) {
	for _, c := range []struct {
		n    int64
		want string
	}{
		{-1, ""}, {0, "A"}, {25, "Z"}, {26, "a"}, {51, "z"}, {52, "0"}, {61, "9"}, {62, "+"}, {63, "/"}, {64, ""},
		{math.MinInt64, ""}, {math.MinInt64 + 1, ""}, {math.MaxInt64, ""}, {math.MinInt32, ""}, {math.MaxInt32, ""},
		{256, ""}, {1 << 32, ""}, {1<<32 + 5, ""}, {-1 << 32, ""}, {-64, ""}, {math.MaxInt64 - 63, ""}, {math.MinInt64 + 63, ""},
	} {
		if got := impl.LetterOf(c.n); got != c.want {
			t.Errorf("LetterOf(%d) = %q", c.n, got)
		}
	}
}

func TestValueOfEachByte(t *testing.T) {
	value := map[string]int64{}
	for n, letter := range letterList() {
		value[letter] = int64(n)
	}
	for b := range 256 {
		want, known := value[oneByte(b)]
		if !known {
			want = -1
		}
		if got := impl.ValueOf(oneByte(b)); got != want {
			t.Errorf("ValueOf(%q) = %d", oneByte(b), got)
		}
	}
}

func TestValueOfWrongTexts(t *testing.T) {
	for _, s := range []string{
		"", "=", "==", "AA", "AB", "ABCD", "A=", "=A", "A\n", "\nA", " A", "A ", "+/", "/+", "63", "\x00", "\n", " ", "-", "_",
		"\x80", "\xc1", "\xff", "\u00c1", "\u00e9", "\u0391", "A\xff", "\xffA", "\x00A", "ABCDEFGHIJKLMNOPQRSTUVWXYZ", strings.Repeat("A", 5000),
	} {
		if got := impl.ValueOf(s); got != -1 {
			t.Errorf("ValueOf(%q) = %d", s, got)
		}
	}
}

// Promise 21 for chapter 2.
func TestLetterAnswersAreNewMemoryAndArgumentsStay(t *testing.T) {
	for _, s := range []string{"", "A", "/", "=", "c", "ca", "cat", "Yw==", "Y2E=", "Y2F0", "Y2F0Yw==", "Yx==", "=AAA", "AAA", allBytes()} {
		text, buffer := laid(s)
		impl.ValueOf(text)
		read, _ := impl.FromLetters(text)
		for i, answer := range []string{impl.ToLetters(text), read} {
			if sharesMemory(answer, text) {
				t.Errorf("answer %d to %q lies in its argument", i, s)
			}
		}
		if string(buffer) != s+"spare room" {
			t.Errorf("the argument %q became %q", s, buffer)
		}
	}
	for n := int64(0); n < 64; n++ {
		if letter := impl.LetterOf(n); sharesMemory(letter, impl.ToLetters(letter)) {
			t.Errorf("the letter %q shares memory with an answer to it", letter)
		}
	}
}

// Promise 21 for chapter 2: an answer to each text of at most two bytes, and to long ones; what is no text of letters is empty and false.
func TestLetterFunctionsAnswerEverywhere(t *testing.T) {
	check := func(s string) {
		if inLetters := impl.ToLetters(s); len(inLetters) != (len(s)+2)/3*4 {
			t.Fatalf("ToLetters(%q) has %d letters", s, len(inLetters))
		}
		got, ok := impl.FromLetters(s)
		if !ok && got != "" || ok && impl.ToLetters(got) != s {
			t.Fatalf("FromLetters(%q) = %q, %v", s, got, ok)
		}
		if v := impl.ValueOf(s); v < -1 || v > 63 || v != -1 && impl.LetterOf(v) != s {
			t.Fatalf("ValueOf(%q) = %d", s, v)
		}
	}
	check("")
	for a := range 256 {
		check(oneByte(a))
		for b := range 256 {
			check(oneByte(a) + oneByte(b))
		}
	}
	check(strings.Repeat("=", 1<<20))
	check(strings.Repeat("A", 1<<20))
	check(strings.Repeat("A", 1<<20) + "=")
	check(strings.Repeat("\xff", 1<<20))
	if got, ok := impl.FromLetters(strings.Repeat("A", 1<<20)); !ok || len(got) != 3<<18 {
		t.Fatal("a long text is not read", ok, len(got))
	}
}
