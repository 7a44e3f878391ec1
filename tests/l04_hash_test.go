package tests

import (
	"fmt"
	"math"
	"math/big"
	"slices"
	"strings"
	"testing"

	"loop.example/g00379/impl"
)

// expectedHash counts with numbers of any size and takes the rest once, at the end.
func expectedHash(s string) int64 {
	h := big.NewInt(29)
	for i := range len(s) {
		h.Mul(h, big.NewInt(1000003))
		h.Add(h, big.NewInt(int64(s[i])+1))
	}
	return h.Mod(h, big.NewInt(2147483647)).Int64()
}

// expectedClash holds each text against each other one.
func expectedClash(list []string) bool {
	for _, a := range list {
		for _, b := range list {
			if a != b && expectedHash(a) == expectedHash(b) {
				return true
			}
		}
	}
	return false
}

func expectedDigits(n int64) string {
	if n < 0 || n > 9999999999 {
		return ""
	}
	return fmt.Sprintf("%010d", n)
}

func expectedNumber(s string) (int64, bool) {
	n := int64(0)
	for i := range len(s) {
		at := strings.IndexByte("0123456789", s[i])
		if at < 0 || len(s) != 10 {
			return 0, false
		}
		n = n*10 + int64(at)
	}
	return n, len(s) == 10
}

// clashing are families of unlike texts, of one length and of several, each with one Hash.
func clashing() [][]string {
	return [][]string{
		{"x(\x03\x1ds", "x\x03_\x03\x03"},
		{"", "isydohq", "jjngxnf", "mcsgasdr", "nwusayjf"},
		{"ykvggri", "wwwzpfc", "sfgbvom", "ecpgvqs"},
		{"abc", "bsbpnqi", "nxxotlo"},
		{"sealed", "qlkqgxp", "citvgzv"},
		{"0000000029", "klcxcux", "jdpdqxd", "xhnzrvs"},
		{"\x00", "uygvgho", "vfzjmwv", "aqavvgy"},
		{"\xff", "jbcyday", "yluudts", "zcjxmzh", "bxtjram", "sgfpsqw"},
		{"ykvggrh", "wwwzpfb", "sfgbvol", "ecpgvqr"},
	}
}

func TestHashOfTexts(t *testing.T) {
	for _, c := range []struct {
		text string
		want int64
	}{
		{"", 29}, {"\x00", 29000088}, {"\x01", 29000089}, {"a", 29000185}, {"\xff", 29000343},
		{"ab", 652831566}, {"abc", 643290445}, {"isydohq", 29}, {"jjngxnf", 29},
		{"ykvggri", 0}, {"wwwzpfc", 0}, {"ykvggrh", 2147483646}, {"ecpgvqr", 2147483646},
	} {
		if got := impl.Hash(c.text); got != c.want {
			t.Errorf("Hash(%q) = %d, not %d", c.text, got, c.want)
		}
	}
}

func TestHashOfShortAndLongTexts(t *testing.T) {
	list := []string{allBytes(), allPlain(), "Ref=a1;Sum=0000000042", "ab", "ba", "\x00\x00", "\xff\xff", "a\x00", "\x00a", "ykvggri\x00", "ykvggri\xff", "ykvggrh\xff"}
	for a := range 256 {
		list = append(list, oneByte(a), "ab"+oneByte(a), oneByte(a)+"ab", strings.Repeat(oneByte(a), 2))
	}
	for size := range 40 {
		list = append(list, strings.Repeat("\x00", size), strings.Repeat("\xff", size), strings.Repeat("<seal/>\n", size), strings.Repeat("a", size))
	}
	for _, s := range append(list, strings.Repeat("\xff", 5000), strings.Repeat("\x00", 5000), strings.Repeat(allBytes(), 16)) {
		got := impl.Hash(s)
		if got != expectedHash(s) {
			t.Errorf("Hash(%q) = %d, not %d", s, got, expectedHash(s))
		}
		if got < 0 || got > 2147483646 {
			t.Errorf("Hash(%q) = %d is out of range", s, got)
		}
	}
}

// Promise 4: one sign changed is another Hash.
func TestOneSignChangedIsAnotherHash(t *testing.T) {
	texts := []string{"a", "ab", "x(\x03\x1ds", "ykvggri", "<c:Claim Id=\"a1\"/>", allPlain(), strings.Repeat("\xff", 70), strings.Repeat("\x00", 70), allBytes()}
	for _, text := range texts {
		for i := range len(text) {
			seen := map[int64]int{}
			for b := range 256 {
				h := impl.Hash(text[:i] + oneByte(b) + text[i+1:])
				if other, ok := seen[h]; ok {
					t.Fatalf("the bytes %d and %d at %d of %q have one Hash %d", other, b, i, text, h)
				}
				seen[h] = b
			}
		}
	}
}

func TestClashOfLists(t *testing.T) {
	for _, c := range []struct {
		list []string
		want bool
	}{
		{nil, false}, {[]string{}, false}, {[]string{""}, false}, {[]string{"a"}, false}, {[]string{"\x00"}, false},
		{[]string{"", ""}, false}, {[]string{"a", "a"}, false}, {[]string{"a", "b"}, false}, {[]string{"a", "b", "a"}, false}, {[]string{"isydohq", "isydohq", "isydohq"}, false},
		{[]string{"", "isydohq"}, true}, {[]string{"isydohq", ""}, true}, {[]string{"isydohq", "jjngxnf"}, true}, {[]string{"", "a", "b", "isydohq"}, true},
		{[]string{"x(\x03\x1ds", "x\x03_\x03\x03"}, true}, {[]string{"x\x03_\x03\x03", "x(\x03\x1ds"}, true}, {[]string{"x(\x03\x1ds", "x\x03_\x03\x04"}, false},
		{[]string{"a", "x(\x03\x1ds", "b", "c", "x\x03_\x03\x03", "d"}, true}, {[]string{"x(\x03\x1ds", "a", "a", "x\x03_\x03\x03"}, true},
		{[]string{"abc", "abc", "bsbpnqi"}, true}, {[]string{"abc", "bsbpnqi", "abc"}, true}, {[]string{"bsbpnqi", "abc", "abc"}, true}, {[]string{"abc", "x", "abc", "y", "nxxotlo"}, true},
		{[]string{"abc", "nxxotlo", "bsbpnqi"}, true}, {[]string{"ykvggri", "wwwzpfc"}, true}, {[]string{"ykvggri", "ykvggrh"}, false}, {[]string{"\xff", "sgfpsqw"}, true},
		{[]string{"abc", "sealed", "isydohq", "ykvggri", "abc", "sealed"}, false}, {[]string{"ab", "ba", "a", "b", "aab", "\x00", ""}, false},
	} {
		if got := impl.Clash(c.list); got != c.want {
			t.Errorf("Clash(%q) = %v", c.list, got)
		}
	}
}

// A text that looks like another one's written Hash is no clash.
func TestClashOfWrittenHashes(t *testing.T) {
	for _, s := range []string{"", "a", "abc", "ykvggri", "ykvggrh", "\x00", "\xff", "0000000029"} {
		h := expectedHash(s)
		for _, written := range []string{expectedDigits(h), fmt.Sprint(h), fmt.Sprintf("%x", h)} {
			for _, list := range [][]string{{s, written}, {written, s}, {written, s, written}, {s, written, s}} {
				if impl.Clash(list) != expectedClash(list) {
					t.Errorf("Clash(%q) = %v", list, impl.Clash(list))
				}
			}
		}
	}
}

// Each pair of each family, beside each other and with others between, twice and once.
func TestClashOfEachFamily(t *testing.T) {
	between := make([]string, 0, 256)
	for b := range 256 {
		between = append(between, "k"+oneByte(b))
	}
	for _, family := range clashing() {
		for _, a := range family {
			if list := slices.Concat([]string{a}, between, []string{a}); impl.Clash(list) {
				t.Errorf("%q twice is a clash", a)
			}
			for _, b := range family {
				for _, list := range [][]string{{a, b}, slices.Concat([]string{a}, between, []string{b}), slices.Concat(between, []string{a, a, b}, between), {a, b, a, b}, {b, a, a}} {
					if impl.Clash(list) != (a != b) {
						t.Errorf("%q and %q: Clash is %v", a, b, impl.Clash(list))
					}
				}
			}
		}
	}
}

// Short lists of some texts that clash and some that do not.
func TestClashOfShortLists(t *testing.T) {
	texts := []string{"", "isydohq", "jjngxnf", "0000000029", "klcxcux", "abc", "nxxotlo", "a"}
	for code := range len(texts) * len(texts) * len(texts) * len(texts) {
		list := []string{}
		for size := code; size > 0; size /= len(texts) {
			list = append(list, texts[size%len(texts)])
		}
		if impl.Clash(list) != expectedClash(list) {
			t.Fatalf("Clash(%q) = %v", list, impl.Clash(list))
		}
	}
}

func TestClashOfLongLists(t *testing.T) {
	list := make([]string, 0, 70000)
	for a := range 256 {
		for b := range 256 {
			list = append(list, oneByte(a)+oneByte(b))
		}
	}
	list = append(list, list[:1000]...)
	if impl.Clash(list) {
		t.Error("all texts of two bytes: a clash")
	}
	if !impl.Clash(slices.Concat([]string{"sealed"}, list, []string{"citvgzv"})) {
		t.Error("the first and the last of a long list: no clash")
	}
	if impl.Clash(slices.Repeat([]string{"sealed"}, 100000)) {
		t.Error("one text many times: a clash")
	}
}

func TestDigitsOfNumbers(t *testing.T) {
	for _, c := range []struct {
		number int64
		text   string
	}{
		{0, "0000000000"}, {1, "0000000001"}, {9, "0000000009"}, {10, "0000000010"}, {42, "0000000042"}, {99, "0000000099"}, {100, "0000000100"},
		{2147483646, "2147483646"}, {999999999, "0999999999"}, {1000000000, "1000000000"}, {9999999998, "9999999998"}, {9999999999, "9999999999"},
		{10000000000, ""}, {10000000001, ""}, {99999999999, ""}, {-1, ""}, {-9, ""}, {-9999999999, ""}, {math.MinInt64, ""}, {math.MaxInt64, ""}, {1 << 40, ""}, {1<<62 + 5, ""},
	} {
		if got := impl.Digits(c.number); got != c.text {
			t.Errorf("Digits(%d) = %q, not %q", c.number, got, c.text)
		}
	}
}

// turningNumbers are those beside each power of ten and of two, and numbers far out of range.
func turningNumbers() []int64 {
	list := farNumbers()
	for power := int64(1); power <= 100000000000; power *= 10 {
		list = append(list, power-1, power, power+1, 5*power, 9*power, -power)
	}
	for bit := range 62 {
		list = append(list, int64(1)<<bit-1, int64(1)<<bit, int64(1)<<bit+1)
	}
	return list
}

// Promise 4: Number of Digits is the number.
func TestNumberOfDigitsIsTheNumber(t *testing.T) {
	check := func(n int64) {
		text := impl.Digits(n)
		if text != expectedDigits(n) {
			t.Fatalf("Digits(%d) = %q", n, text)
		}
		got, ok := impl.Number(text)
		if right := n >= 0 && n <= 9999999999; ok != right || right && got != n || !right && got != 0 {
			t.Fatalf("Number(%q) = %d, %v, not %d", text, got, ok, n)
		}
	}
	for _, n := range turningNumbers() {
		check(n)
	}
	for n := int64(0); n <= 9999999999; n += 100003 {
		check(n)
	}
	for n := int64(-50); n < 20000; n++ {
		check(n)
		check(9999999999 - n)
	}
}

func TestNumberOfTexts(t *testing.T) {
	for _, c := range []struct {
		text string
		want int64
	}{{"0000000000", 0}, {"0000000001", 1}, {"0000000010", 10}, {"0000000042", 42}, {"1000000000", 1000000000}, {"0999999999", 999999999}, {"2147483646", 2147483646}, {"1234567890", 1234567890}, {"9999999999", 9999999999}} {
		if got, ok := impl.Number(c.text); got != c.want || !ok {
			t.Errorf("Number(%q) = %d, %v", c.text, got, ok)
		}
	}
}

func TestNumberOfWrongTexts(t *testing.T) {
	for _, s := range []string{
		"", "0", "42", "000000000", "999999999", "123456789", "00000000000", "99999999999", "10000000000", "12345678901", "01234567890",
		"+000000042", "-000000042", "-000000000", "+0000000042", "-0000000042", "-0000000000", "-1", "+1", " 000000042", "000000042 ", " 0000000042", "0000000042 ", "00000 0042",
		"000000042\n", "0000000042\n", "\n000000042", "0000000042\x00", "\x00000000042", "000000004\x00", "0x0000002a", "0b00000001", "0o00000042", "0000_00042", "00000000.0", "0000000.42", "1e00000002", "0,00000042",
		"00000000a2", "000000004A", "00000/0042", "00000:0042", "//////////", "::::::::::", "----------", "          ",
		"\xff000000042", "000000042\xff", "00000\x800042", "\xb0\xb0\xb0\xb0\xb0\xb0\xb0\xb0\xb0\xb0", "\xb9999999999", strings.Repeat("\xff", 10), strings.Repeat("\x00", 10), "\u0662\u0662\u0662\u0662\u0662", "\uff10\uff11\uff124",
		"18446744073709551616", "9223372036854775807", "00000000000000000042", strings.Repeat("0", 100000), strings.Repeat("9", 100000),
	} {
		if got, ok := impl.Number(s); got != 0 || ok {
			t.Errorf("Number(%q) = %d, %v", s, got, ok)
		}
	}
}

// Each byte in each of the ten places, each place left out, and each byte put in.
func TestNumberOfEachByte(t *testing.T) {
	check := func(s string) {
		want, right := expectedNumber(s)
		if got, ok := impl.Number(s); got != want || ok != right {
			t.Errorf("Number(%q) = %d, %v, not %d, %v", s, got, ok, want, right)
		}
	}
	for _, text := range []string{"0000000000", "9999999999", "1234567890", "0000000042"} {
		for i := range len(text) {
			for b := range 256 {
				check(text[:i] + oneByte(b) + text[i+1:])
				check(text[:i] + oneByte(b) + text[i:])
			}
			check(text[:i] + text[i+1:])
			check(text[:i])
		}
	}
}

// Promise 21 for chapter 4: a list, its spare room and its texts stay.
func TestClashLeavesItsList(t *testing.T) {
	for _, family := range append(clashing(), []string{"b", "a", "b"}, []string{"", "", "a"}, []string{"c", "b", "a"}) {
		whole := make([]string, 0, len(family)+3)
		buffers := [][]byte{}
		for _, s := range family {
			text, buffer := laid(s)
			whole, buffers = append(whole, text), append(buffers, buffer)
		}
		whole = append(whole, "spare", "more", "room")
		impl.Clash(whole[:len(family)])
		if !slices.Equal(whole[:len(family)], family) || !slices.Equal(whole[len(family):], []string{"spare", "more", "room"}) {
			t.Errorf("the list %q became %q", family, whole)
		}
		for i, s := range family {
			if string(buffers[i]) != s+"spare room" {
				t.Errorf("the text %q became %q", s, buffers[i])
			}
		}
	}
}

// Promise 21 for chapter 4.
func TestHashAnswersAreNewMemoryAndArgumentsStay(t *testing.T) {
	for _, s := range []string{"", "0000000000", "9999999999", "0000000042", "000000042", "a", "\xff", allBytes()} {
		text, buffer := laid(s)
		h := impl.Hash(text)
		n, ok := impl.Number(text)
		if string(buffer) != s+"spare room" {
			t.Errorf("the argument %q became %q", s, buffer)
		}
		if ok && sharesMemory(impl.Digits(n), text) {
			t.Errorf("the digits of %d lie in the text they were read from", n)
		}
		for _, number := range []int64{h, n, 0, 9, 99, 9999999999} {
			if sharesMemory(impl.Digits(number), impl.Digits(number)) {
				t.Errorf("two answers to %d share memory", number)
			}
		}
	}
}

// Promise 21 for chapter 4: an answer to short and long texts of every byte, and the same one each time.
func TestHashFunctionsAnswerEverywhere(t *testing.T) {
	check := func(s string) {
		h := impl.Hash(s)
		if h < 0 || h > 2147483646 || h != impl.Hash(s) {
			t.Fatalf("Hash(%q) = %d", s, h)
		}
		if n, ok := impl.Number(s); !ok && n != 0 || ok && impl.Digits(n) != s {
			t.Fatalf("Number(%q) = %d, %v", s, n, ok)
		}
		if impl.Clash([]string{s, s}) {
			t.Fatalf("Clash of %q with itself", s)
		}
	}
	check("")
	for a := range 256 {
		check(oneByte(a))
		check(strings.Repeat(oneByte(a), 10))
		check(strings.Repeat(oneByte(a), 1<<14))
		for b := range 256 {
			check(oneByte(a) + oneByte(b))
		}
	}
	for _, n := range turningNumbers() {
		if (impl.Digits(n) == "") != (n < 0 || n > 9999999999) {
			t.Fatalf("Digits(%d) = %q", n, impl.Digits(n))
		}
	}
}
