package tests

import (
	"math"
	"strings"
	"testing"
	"time"

	"loop.example/g00379/impl"
)

const timeLayout = "2006-01-02T15:04:05Z"

// beginning is the library's second at which the program's times begin.
var beginning = time.Date(2000, 1, 1, 0, 0, 0, 0, time.UTC).Unix()

func expectedTimeText(t int64) string {
	if t < 0 || t > 3155759999 {
		return ""
	}
	return time.Unix(beginning+t, 0).UTC().Format(timeLayout)
}

// expectedTimeOf asks the library, which reads more forms than the one it writes.
func expectedTimeOf(s string) (int64, bool) {
	read, err := time.Parse(timeLayout, s)
	if err != nil || read.Format(timeLayout) != s || read.Year() < 2000 || read.Year() > 2099 {
		return 0, false
	}
	return read.Unix() - beginning, true
}

func expectedDaysIn(year, month int64) int64 {
	if year < 2000 || year > 2099 || month < 1 || month > 12 {
		return 0
	}
	return int64(time.Date(int(year), time.Month(month+1), 0, 0, 0, 0, 0, time.UTC).Day())
}

// farNumbers are the ends of int64 and numbers that come to be in range where some of their bits are lost.
func farNumbers() []int64 {
	return []int64{
		math.MinInt64, math.MinInt64 + 1, math.MaxInt64 - 1, math.MaxInt64, math.MinInt32, math.MaxInt32, math.MaxUint32,
		1 << 32, 1<<32 + 1, 1<<32 + 2, 1<<32 + 12, 1<<32 + 2000, 1<<32 + 2004, -1 << 32, -1<<32 + 2, -1<<32 + 2000,
		1<<40 + 5, 1<<62 + 5, -1 << 62, 256 + 1, 65536 + 2000, math.MinInt64 + 5, math.MinInt64 + 2000, math.MinInt64 + 2004,
	}
}

// turningTimes are the last second of each minute, hour, day, month and year of a kind, and the first behind it.
func turningTimes() []int64 {
	list := []int64{0, 1, 59, 60, 61, 3599, 3600, 3601, 86399, 86400, 86401, 3155759998, 3155759999}
	for year := 2000; year < 2100; year++ {
		for month := range 12 {
			first := time.Date(year, time.Month(month+1), 1, 0, 0, 0, 0, time.UTC).Unix() - beginning
			list = append(list, first-1, first, first+59, first+60, first+3599, first+3600, first+86399, first+86400)
		}
		leap := time.Date(year, 2, 28, 23, 59, 59, 0, time.UTC).Unix() - beginning
		list = append(list, leap, leap+1, leap+86400, leap+86401)
	}
	return list
}

func TestDaysInMonths(t *testing.T) {
	for _, c := range []struct{ year, month, want int64 }{
		{1999, 1, 0}, {1999, 2, 0}, {1999, 12, 0}, {2100, 1, 0}, {2100, 2, 0}, {2100, 12, 0}, {1996, 2, 0}, {2104, 2, 0},
		{2000, 0, 0}, {2000, 1, 31}, {2000, 2, 29}, {2000, 3, 31}, {2000, 4, 30}, {2000, 12, 31}, {2000, 13, 0},
		{2001, 0, 0}, {2001, 1, 31}, {2001, 2, 28}, {2001, 3, 31}, {2001, 11, 30}, {2001, 12, 31}, {2001, 13, 0},
		{2004, 0, 0}, {2004, 1, 31}, {2004, 2, 29}, {2004, 8, 31}, {2004, 9, 30}, {2004, 12, 31}, {2004, 13, 0},
		{2002, 2, 28}, {2003, 2, 28}, {2096, 2, 29}, {2098, 2, 28},
		{2099, 0, 0}, {2099, 1, 31}, {2099, 2, 28}, {2099, 6, 30}, {2099, 7, 31}, {2099, 12, 31}, {2099, 13, 0},
		{0, 0, 0}, {-2000, 2, 0}, {2000, -1, 0}, {2000, -2, 0}, {4, 2, 0}, {0, 1, 0},
	} {
		if got := impl.DaysIn(c.year, c.month); got != c.want {
			t.Errorf("DaysIn(%d, %d) = %d", c.year, c.month, got)
		}
	}
}

func TestDaysInEachMonth(t *testing.T) {
	all := int64(0)
	for year := int64(1990); year < 2110; year++ {
		sum := int64(0)
		for month := int64(-3); month < 17; month++ {
			got := impl.DaysIn(year, month)
			if got != expectedDaysIn(year, month) {
				t.Errorf("DaysIn(%d, %d) = %d", year, month, got)
			}
			sum += got
		}
		if year >= 2000 && year < 2100 && year%4 == 0 && sum != 366 || year >= 2000 && year < 2100 && year%4 != 0 && sum != 365 {
			t.Errorf("%d has %d days", year, sum)
		}
		all += sum
	}
	if all*86400-1 != impl.MaxTime {
		t.Errorf("%d days in all", all)
	}
}

func TestDaysInFarMonths(t *testing.T) {
	for _, far := range farNumbers() {
		for _, c := range [][2]int64{{far, 1}, {far, 2}, {far, 12}, {far, 0}, {2000, far}, {2004, far}, {2001, far}, {far, far}} {
			if got := impl.DaysIn(c[0], c[1]); got != 0 {
				t.Errorf("DaysIn(%d, %d) = %d", c[0], c[1], got)
			}
		}
	}
}

type timeCase struct {
	time int64
	text string
}

func timeCases() []timeCase {
	return []timeCase{
		{0, "2000-01-01T00:00:00Z"}, {1, "2000-01-01T00:00:01Z"}, {59, "2000-01-01T00:00:59Z"}, {60, "2000-01-01T00:01:00Z"},
		{3599, "2000-01-01T00:59:59Z"}, {3600, "2000-01-01T01:00:00Z"}, {86399, "2000-01-01T23:59:59Z"}, {86400, "2000-01-02T00:00:00Z"},
		{2678399, "2000-01-31T23:59:59Z"}, {2678400, "2000-02-01T00:00:00Z"},
		{5097599, "2000-02-28T23:59:59Z"}, {5097600, "2000-02-29T00:00:00Z"}, {5183999, "2000-02-29T23:59:59Z"}, {5184000, "2000-03-01T00:00:00Z"},
		{31622399, "2000-12-31T23:59:59Z"}, {31622400, "2001-01-01T00:00:00Z"},
		{36719999, "2001-02-28T23:59:59Z"}, {36720000, "2001-03-01T00:00:00Z"}, {36723600, "2001-03-01T01:00:00Z"},
		{63158399, "2001-12-31T23:59:59Z"}, {63158400, "2002-01-01T00:00:00Z"},
		{126230399, "2003-12-31T23:59:59Z"}, {126230400, "2004-01-01T00:00:00Z"},
		{131327999, "2004-02-28T23:59:59Z"}, {131328000, "2004-02-29T00:00:00Z"}, {131414399, "2004-02-29T23:59:59Z"}, {131414400, "2004-03-01T00:00:00Z"},
		{157852799, "2004-12-31T23:59:59Z"}, {157852800, "2005-01-01T00:00:00Z"},
		{847494245, "2026-11-08T23:04:05Z"},
		{3155673599, "2099-12-30T23:59:59Z"}, {3155673600, "2099-12-31T00:00:00Z"}, {3155759998, "2099-12-31T23:59:58Z"}, {3155759999, "2099-12-31T23:59:59Z"},
	}
}

func TestTimesAndTheirTexts(t *testing.T) {
	if impl.MaxTime != 3155759999 {
		t.Fatal(int64(impl.MaxTime))
	}
	for _, c := range timeCases() {
		if got := impl.TimeText(c.time); got != c.text {
			t.Errorf("TimeText(%d) = %q, not %q", c.time, got, c.text)
		}
		if got, ok := impl.TimeOf(c.text); got != c.time || !ok {
			t.Errorf("TimeOf(%q) = %d, %v", c.text, got, ok)
		}
	}
}

func TestTimeTextOfNoTime(t *testing.T) {
	for _, n := range append([]int64{-1, -2, -59, -60, -86400, -3155759999, 3155760000, 3155760001, 3155846400, 3187296000}, farNumbers()...) {
		if got := impl.TimeText(n); got != expectedTimeText(n) {
			t.Errorf("TimeText(%d) = %q", n, got)
		}
	}
	for _, n := range []int64{-1, impl.MaxTime + 1, math.MinInt64, math.MaxInt64} {
		if got := impl.TimeText(n); got != "" {
			t.Errorf("TimeText(%d) = %q", n, got)
		}
	}
}

// Promise 3: TimeOf of TimeText is the time.
func TestTimeOfOfTimeTextIsTheTime(t *testing.T) {
	check := func(n int64) {
		text := impl.TimeText(n)
		if text != expectedTimeText(n) {
			t.Fatalf("TimeText(%d) = %q, not %q", n, text, expectedTimeText(n))
		}
		if got, ok := impl.TimeOf(text); !ok || got != n {
			t.Fatalf("TimeOf(%q) = %d, %v, not %d", text, got, ok, n)
		}
	}
	for _, n := range turningTimes() {
		if n >= 0 && n <= impl.MaxTime {
			check(n)
		}
	}
	for n := int64(0); n <= impl.MaxTime; n += 20011 {
		check(n)
	}
	for n := int64(0); n < 90000; n++ {
		check(n)
	}
}

// Promise 3: times rise as their texts do.
func TestTimesRiseAsTheirTexts(t *testing.T) {
	before := ""
	for n := int64(0); n <= impl.MaxTime; n += 20011 {
		text := impl.TimeText(n)
		if text <= before {
			t.Fatalf("%q is not above %q", text, before)
		}
		before = text
	}
	list := turningTimes()
	for i, a := range list {
		for _, b := range []int64{a - 1, a + 1, list[(i+1)%len(list)], list[(i*7+3)%len(list)], list[(i*31+5)%len(list)]} {
			if a < 0 || b < 0 || a > impl.MaxTime || b > impl.MaxTime {
				continue
			}
			if (a < b) != (impl.TimeText(a) < impl.TimeText(b)) {
				t.Fatalf("%d and %d do not rise as %q and %q", a, b, impl.TimeText(a), impl.TimeText(b))
			}
		}
	}
}

func TestTimeOfWrongTexts(t *testing.T) {
	for _, s := range []string{
		"", "Z", "T", "2000", "2000-01-01", "2000-01-01T00:00:00", "2000-01-01T00:00:00ZZ", "2000-01-01T00:00:00Z\n", "\n2000-01-01T00:00:00Z",
		" 2000-01-01T00:00:00Z", "2000-01-01T00:00:00Z ", "000-01-01T00:00:00Z", "02000-01-01T00:00:00Z", "+2000-01-01T00:00:00Z", "-2000-01-01T00:00:00Z",
		"2000-1-01T00:00:00Z", "2000-01-1T00:00:00Z", "2000-01-01T0:00:00Z", "2000-01-01T00:0:00Z", "2000-01-01T00:00:0Z",
		"2000-001-01T00:00:0Z", "2000-1-001T00:00:00Z", "200-001-01T00:00:00Z", "20000-1-01T00:00:00Z",
		"1999-12-31T23:59:59Z", "1999-01-01T00:00:00Z", "1996-02-29T00:00:00Z", "2100-01-01T00:00:00Z", "2100-02-28T00:00:00Z", "2100-02-29T00:00:00Z", "2100-12-31T23:59:59Z",
		"0000-01-01T00:00:00Z", "0004-02-29T00:00:00Z", "9999-12-31T23:59:59Z", "2200-01-01T00:00:00Z", "2104-02-29T00:00:00Z",
		"2000-00-01T00:00:00Z", "2000-13-01T00:00:00Z", "2001-00-31T00:00:00Z", "2001-13-31T00:00:00Z", "2000-99-01T00:00:00Z", "2099-13-01T00:00:00Z",
		"2000-01-00T00:00:00Z", "2000-02-00T00:00:00Z", "2000-03-00T00:00:00Z", "2001-01-00T00:00:00Z", "2099-12-00T00:00:00Z",
		"2000-01-32T00:00:00Z", "2000-02-30T00:00:00Z", "2004-02-30T00:00:00Z", "2001-02-30T00:00:00Z", "2001-02-29T00:00:00Z", "2002-02-29T00:00:00Z", "2003-02-29T00:00:00Z",
		"2099-02-29T00:00:00Z", "2000-02-31T00:00:00Z", "2000-04-31T00:00:00Z", "2000-06-31T00:00:00Z", "2000-09-31T00:00:00Z", "2000-11-31T00:00:00Z", "2000-12-32T00:00:00Z",
		"2099-12-32T00:00:00Z", "2000-01-99T00:00:00Z", "2099-12-99T23:59:59Z",
		"2000-01-01T24:00:00Z", "2000-01-01T24:59:59Z", "2000-01-01T25:00:00Z", "2000-01-01T99:00:00Z", "2099-12-31T24:00:00Z",
		"2000-01-01T00:60:00Z", "2000-01-01T00:99:00Z", "2000-01-01T23:60:00Z", "2099-12-31T23:60:00Z",
		"2000-01-01T00:00:60Z", "2000-01-01T00:00:61Z", "2000-01-01T23:59:60Z", "2000-12-31T23:59:60Z", "2000-01-01T00:00:99Z", "2099-12-31T23:59:60Z",
		"2000-01-01t00:00:00Z", "2000-01-01T00:00:00z", "2000-01-01 00:00:00Z", "2000/01/01T00:00:00Z", "2000-01-01T00.00.00Z", "2000-01-01T00:00:00A",
		"2000:01:01T00:00:00Z", "2000-01-01T00-00-00Z", "2000-01-01Z00:00:00T", "20000010010000000000", "2000001001T00:00:00Z",
		"2000-01-01T00:00:0aZ", "2000-01-01T00:0a:00Z", "2000-01-01T0a:00:00Z", "2000-01-0aT00:00:00Z", "2000-0a-01T00:00:00Z", "200a-01-01T00:00:00Z",
		"2000-01-01T00:00:-1Z", "2000-01-01T00:00:+1Z", "2000-01-01T-1:00:00Z", "2000-+1-01T00:00:00Z", "2000--1-01T00:00:00Z", "+200-01-01T00:00:00Z", "-200-01-01T00:00:00Z",
		"2000-01-01T00:00: 1Z", "2000- 1-01T00:00:00Z", " 200-01-01T00:00:00Z", "2_00-01-01T00:00:00Z", "2e03-01-01T00:00:00Z", "0x7d0-1-1T00:00:00Z", "0x7d-01-01T00:00:00Z",
		"2000-01-01T00:00:00+", "00-01-01T00:00:00.0Z", "2000-01-01T00:00:0.Z", "2000-01-01T00:00:00.0Z", "2000-01-01T00:00:00+00:00",
		"\xff000-01-01T00:00:00Z", "2000-01-01T00:00:00\xff", "2000\x8001-01T00:00:00Z", "2000-01-01T00:00:\xb0\xb0Z", "2000-\xb01-01T00:00:00Z", "\u0662000-01-01T00:00:0Z",
		"\x00\x00\x00\x00-\x00\x00-\x00\x00T\x00\x00:\x00\x00:\x00\x00Z", strings.Repeat("\xff", 20), strings.Repeat("0", 20), strings.Repeat("9", 20), strings.Repeat("-", 20),
		"2000-01-01T00:00:00Z2000-01-01T00:00:00Z", strings.Repeat("2", 100000),
	} {
		if got, ok := impl.TimeOf(s); got != 0 || ok {
			t.Errorf("TimeOf(%q) = %d, %v", s, got, ok)
		}
	}
}

// Each byte in place of each one of a time, each byte left out, and each byte put in.
func TestTimeOfEachByte(t *testing.T) {
	check := func(s string) {
		want, right := expectedTimeOf(s)
		if got, ok := impl.TimeOf(s); got != want || ok != right {
			t.Errorf("TimeOf(%q) = %d, %v, not %d, %v", s, got, ok, want, right)
		}
	}
	for _, text := range []string{"2000-01-01T00:00:00Z", "2004-02-29T23:59:59Z", "2011-11-11T11:11:11Z", "2099-12-31T23:59:59Z", "2022-10-20T20:22:22Z"} {
		for i := range len(text) {
			for b := range 256 {
				check(text[:i] + oneByte(b) + text[i+1:])
				check(text[:i] + oneByte(b) + text[i:])
			}
			check(text[:i] + text[i+1:])
			check(text[:i])
			check(text[i+1:])
		}
	}
}

// All numbers of two digits in place of each one of a time, and all years.
func TestTimeOfEachNumber(t *testing.T) {
	check := func(s string) {
		want, right := expectedTimeOf(s)
		if got, ok := impl.TimeOf(s); got != want || ok != right {
			t.Errorf("TimeOf(%q) = %d, %v, not %d, %v", s, got, ok, want, right)
		}
	}
	digits := "0123456789"
	for high := range digits {
		for low := range digits {
			n := digits[high:high+1] + digits[low:low+1]
			check("2000-01-01T00:00:" + n + "Z")
			check("2099-12-31T23:" + n + ":59Z")
			check("2001-02-28T" + n + ":59:59Z")
			for _, year := range []string{"1999", "2000", "2001", "2002", "2003", "2004", "2096", "2099", "2100"} {
				check(year + "-" + n + "-01T00:00:00Z")
				for _, month := range []string{"00", "01", "02", "03", "04", "05", "06", "07", "08", "09", "10", "11", "12", "13"} {
					check(year + "-" + month + "-" + n + "T00:00:00Z")
				}
			}
			for _, century := range []string{"00", "19", "20", "21", "99", "02"} {
				check(century + n + "-02-28T23:59:59Z")
				check(century + n + "-02-29T00:00:00Z")
				check(century + n + "-12-31T23:59:59Z")
			}
		}
	}
}

func TestLater(t *testing.T) {
	const last = 3155759999
	for _, c := range []struct{ time, by, want int64 }{
		{0, 0, 0}, {0, 1, 1}, {0, -1, 0}, {5, 9, 14}, {5, -5, 0}, {5, -4, 1}, {5, -6, 0}, {5, -9, 0}, {60, -1, 59}, {86399, 1, 86400},
		{last, 0, last}, {last, 1, last}, {last, -1, last - 1}, {last - 1, 1, last}, {last - 1, 2, last}, {last - 1, 0, last - 1}, {last - 5, 4, last - 1},
		{0, last, last}, {0, -last, 0}, {last, last, last}, {last, -last, 0}, {1, last, last}, {1, -last, 0}, {last - 1, -last, 0}, {1, last - 1, last}, {last, 1 - last, 1},
		{0, last + 1, -1}, {0, -last - 1, -1}, {last, last + 1, -1}, {last, -last - 1, -1}, {5, last + 1, -1}, {5, -last - 1, -1},
		{-1, 0, -1}, {-1, 1, -1}, {-1, 5, -1}, {-1, -1, -1}, {last + 1, 0, -1}, {last + 1, -1, -1}, {last + 1, -5, -1}, {last + 1, 1, -1}, {-1, last + 1, -1}, {last + 1, -last - 1, -1},
		{math.MinInt64, 0, -1}, {math.MaxInt64, 0, -1}, {0, math.MinInt64, -1}, {0, math.MaxInt64, -1}, {last, math.MaxInt64, -1}, {last, math.MinInt64, -1},
		{math.MinInt64, math.MinInt64, -1}, {math.MaxInt64, math.MaxInt64, -1}, {math.MinInt64, math.MaxInt64, -1}, {math.MaxInt64, math.MinInt64, -1},
		{math.MaxInt64, last, -1}, {math.MaxInt64, -last, -1}, {math.MinInt64, last, -1}, {math.MinInt64, -last, -1},
	} {
		if got := impl.Later(c.time, c.by); got != c.want {
			t.Errorf("Later(%d, %d) = %d, not %d", c.time, c.by, got, c.want)
		}
	}
}

// expectedLater asks for the room that is left ahead of adding, so that no sum leaves the times.
func expectedLater(n, by int64) int64 {
	const last = 3155759999
	if n < 0 || n > last || by > last || by < -last {
		return -1
	}
	if by >= 0 {
		if by > last-n {
			return last
		}
		return n + by
	}
	if n < -by {
		return 0
	}
	return n + by
}

func TestLaterOfManyTimes(t *testing.T) {
	const last = 3155759999
	numbers := append([]int64{-last - 1, -last, 1 - last, -last / 2, -86400, -2, -1, 0, 1, 2, 60, 86400, last / 2, last/2 + 1, last - 1, last, last + 1, 2 * last}, farNumbers()...)
	for _, n := range numbers {
		for _, by := range numbers {
			if got := impl.Later(n, by); got != expectedLater(n, by) {
				t.Errorf("Later(%d, %d) = %d, not %d", n, by, got, expectedLater(n, by))
			}
		}
	}
}

// Promise 21 for chapter 3.
func TestTimeAnswersAreNewMemoryAndArgumentsStay(t *testing.T) {
	for _, s := range []string{"", "2000-01-01T00:00:00Z", "2099-12-31T23:59:59Z", "2001-02-29T00:00:00Z", "2000-01-01T00:00:00", "\xff"} {
		text, buffer := laid(s)
		n, ok := impl.TimeOf(text)
		if string(buffer) != s+"spare room" {
			t.Errorf("the argument %q became %q", s, buffer)
		}
		if ok && sharesMemory(impl.TimeText(n), text) {
			t.Errorf("the text of %d lies in the text it was read from", n)
		}
		if ok && sharesMemory(impl.TimeText(n), impl.TimeText(n)) {
			t.Errorf("two answers to %d share memory", n)
		}
	}
}

// Promise 21 for chapter 3: an answer to short and long texts of every byte, and to numbers far out of range.
func TestTimeFunctionsAnswerEverywhere(t *testing.T) {
	check := func(s string) {
		n, ok := impl.TimeOf(s)
		if !ok && n != 0 || ok && impl.TimeText(n) != s {
			t.Fatalf("TimeOf(%q) = %d, %v", s, n, ok)
		}
	}
	check("")
	for a := range 256 {
		check(oneByte(a))
		check(strings.Repeat(oneByte(a), 20))
		check(strings.Repeat(oneByte(a), 1<<16))
		for b := range 256 {
			check(oneByte(a) + oneByte(b))
		}
	}
	numbers := append(farNumbers(), -1, 0, 1, 2, 12, 13, 1999, 2000, 2001, 2004, 2099, 2100, impl.MaxTime, impl.MaxTime+1)
	for _, a := range numbers {
		text := impl.TimeText(a)
		if (text == "") != (a < 0 || a > impl.MaxTime) {
			t.Fatalf("TimeText(%d) = %q", a, text)
		}
		for _, b := range numbers {
			if later := impl.Later(a, b); later < -1 || later > impl.MaxTime {
				t.Fatalf("Later(%d, %d) = %d", a, b, later)
			}
			if days := impl.DaysIn(a, b); days != expectedDaysIn(a, b) {
				t.Fatalf("DaysIn(%d, %d) = %d", a, b, days)
			}
		}
	}
}
