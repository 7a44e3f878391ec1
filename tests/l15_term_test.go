package tests

import (
	"math"
	"testing"

	"loop.example/g00379/impl"
)

const maxSkew = 86400

func expectedTermOk(skew int64, times ...int64) bool {
	ok := skew >= 0 && skew <= maxSkew
	for _, n := range times {
		ok = ok && n >= 0 && n <= lastTime
	}
	return ok
}

func expectedWidened(from, to, skew int64) (int64, int64) {
	if !expectedTermOk(skew, from, to) {
		return -1, -1
	}
	return expectedLater(from, -skew), expectedLater(to, skew)
}

// expectedWithin asks how far now is from both ends, and moves none of them: behind the last time no end can be.
func expectedWithin(from, to, now, skew int64) bool {
	return expectedTermOk(skew, from, to, now) && from-now <= skew && now-to < skew && now != lastTime
}

func expectedPast(to, now, skew int64) bool {
	return expectedTermOk(skew, to, now) && (now-to >= skew || now == lastTime)
}

func wantWidened(t *testing.T, from, to, skew, first, end int64) {
	t.Helper()
	if a, b := impl.Widened(from, to, skew); a != first || b != end {
		t.Errorf("Widened(%d, %d, %d) = %d, %d, not %d, %d", from, to, skew, a, b, first, end)
	}
}

func wantWithin(t *testing.T, from, to, now, skew int64, want bool) {
	t.Helper()
	if impl.Within(from, to, now, skew) != want {
		t.Errorf("Within(%d, %d, %d, %d) = %v", from, to, now, skew, !want)
	}
}

func wantPast(t *testing.T, to, now, skew int64, want bool) {
	t.Helper()
	if impl.Past(to, now, skew) != want {
		t.Errorf("Past(%d, %d, %d) = %v", to, now, skew, !want)
	}
}

// termTimes are times by both ends, by a skew from them, and between.
func termTimes() []int64 {
	return []int64{
		0, 1, 59, 60, 61, 120, 200, maxSkew - 1, maxSkew, maxSkew + 1, 2 * maxSkew, 2*maxSkew + 1, 1 << 30, 1<<31 - 1, 1 << 31,
		lastTime - 2*maxSkew, lastTime - maxSkew - 1, lastTime - maxSkew, lastTime - maxSkew + 1, lastTime - 61, lastTime - 60, lastTime - 59, lastTime - 1, lastTime,
	}
}

func termSkews() []int64 { return []int64{0, 1, 59, 60, 61, maxSkew - 1, maxSkew} }

// noTimes are the nearest and the farthest that are no time, and some that come to be one where a sum or a bit is lost.
func noTimes() []int64 {
	return []int64{
		-1, -2, -60, -maxSkew, -lastTime, lastTime + 1, lastTime + 2, lastTime + 60, lastTime + maxSkew, 1 << 32, 1<<32 + 150, 1<<62 + 150, -1<<62 + 150,
		math.MinInt64, math.MinInt64 + 1, math.MinInt64 + 150, math.MinInt64 + maxSkew, math.MaxInt64 - maxSkew, math.MaxInt64 - 1, math.MaxInt64,
	}
}

func noSkews() []int64 {
	return []int64{
		-1, -2, -60, -maxSkew, -maxSkew - 1, maxSkew + 1, maxSkew + 2, 2 * maxSkew, lastTime, -lastTime, 1<<32 + 60, -1<<32 + 60, 1<<62 + 60,
		math.MinInt64, math.MinInt64 + 1, math.MinInt64 + 60, math.MaxInt64 - maxSkew, math.MaxInt64 - 1, math.MaxInt64,
	}
}

func TestWidenedOfTerms(t *testing.T) {
	if impl.MaxSkew != maxSkew {
		t.Fatal(int64(impl.MaxSkew))
	}
	for _, c := range []struct{ from, to, skew, first, end int64 }{
		{100, 200, 0, 100, 200}, {100, 200, 1, 99, 201}, {100, 200, 60, 40, 260}, {100, 200, 99, 1, 299}, {100, 200, 100, 0, 300}, {100, 200, 101, 0, 301},
		{30, 200, 60, 0, 260}, {100, 200, maxSkew, 0, 86600}, {86400, 200000, maxSkew, 0, 286400}, {86401, 200000, maxSkew, 1, 286400}, {100000, 200000, maxSkew, 13600, 286400},
		{0, 0, 0, 0, 0}, {0, 0, 60, 0, 60}, {0, 0, maxSkew, 0, maxSkew}, {0, lastTime, 0, 0, lastTime}, {0, lastTime, maxSkew, 0, lastTime}, {1, lastTime - 1, 1, 0, lastTime}, {1, lastTime - 1, 2, 0, lastTime},
		{lastTime, lastTime, 0, lastTime, lastTime}, {lastTime, lastTime, 60, 3155759939, lastTime}, {lastTime, lastTime, maxSkew, 3155673599, lastTime},
		{100, lastTime - 60, 60, 40, lastTime}, {100, lastTime - 61, 60, 40, lastTime - 1}, {100, lastTime - 59, 60, 40, lastTime},
		{100, lastTime - maxSkew, maxSkew, 0, lastTime}, {100, lastTime - maxSkew - 1, maxSkew, 0, lastTime - 1},
		// From after to: each end is moved for itself.
		{200, 100, 0, 200, 100}, {200, 100, 50, 150, 150}, {200, 100, 60, 140, 160}, {lastTime, 0, 0, lastTime, 0}, {lastTime, 0, 60, 3155759939, 60}, {lastTime, 0, maxSkew, 3155673599, maxSkew},
	} {
		wantWidened(t, c.from, c.to, c.skew, c.first, c.end)
	}
}

func TestWithinATerm(t *testing.T) {
	for _, c := range []struct {
		from, to, now, skew int64
		want                bool
	}{
		{100, 200, 99, 0, false}, {100, 200, 100, 0, true}, {100, 200, 150, 0, true}, {100, 200, 199, 0, true}, {100, 200, 200, 0, false}, {100, 200, 201, 0, false},
		{100, 200, 39, 60, false}, {100, 200, 40, 60, true}, {100, 200, 150, 60, true}, {100, 200, 259, 60, true}, {100, 200, 260, 60, false}, {100, 200, 261, 60, false},
		{100000, 200000, 13599, maxSkew, false}, {100000, 200000, 13600, maxSkew, true}, {100000, 200000, 150000, maxSkew, true},
		{100000, 200000, 286399, maxSkew, true}, {100000, 200000, 286400, maxSkew, false}, {100000, 200000, 286401, maxSkew, false},
		// A term without a second in it has what the skew gives it.
		{150, 150, 149, 0, false}, {150, 150, 150, 0, false}, {150, 150, 151, 0, false}, {150, 150, 149, 1, true}, {150, 150, 150, 1, true}, {150, 150, 148, 1, false}, {150, 150, 151, 1, false},
		// The first time and the last one.
		{0, 0, 0, 0, false}, {0, 0, 0, 1, true}, {0, 0, 1, 1, false}, {0, 1, 0, 0, true}, {0, 1, 1, 0, false}, {30, 200, 0, 60, true}, {60, 200, 0, 60, true}, {61, 200, 0, 60, false},
		{maxSkew, 200000, 0, maxSkew, true}, {maxSkew + 1, 200000, 0, maxSkew, false}, {0, 0, maxSkew - 1, maxSkew, true}, {0, 0, maxSkew, maxSkew, false},
		{0, lastTime, 0, 0, true}, {0, lastTime, lastTime - 1, 0, true}, {0, lastTime, lastTime, 0, false}, {0, lastTime, lastTime, 60, false}, {0, lastTime, lastTime, maxSkew, false},
		{lastTime, lastTime, lastTime, 0, false}, {lastTime, lastTime, lastTime, maxSkew, false}, {lastTime, lastTime, lastTime - 1, 0, false}, {lastTime, lastTime, lastTime - 1, 1, true},
		{lastTime, lastTime, lastTime - maxSkew, maxSkew, true}, {lastTime, lastTime, lastTime - maxSkew - 1, maxSkew, false},
		{100, lastTime - 60, lastTime - 1, 60, true}, {100, lastTime - 60, lastTime, 60, false}, {100, lastTime - 30, lastTime, 60, false}, {100, lastTime - 61, lastTime - 1, 60, false},
		// From after to: within where the skew makes both ends pass each other, and nowhere else.
		{200, 100, 150, 0, false}, {200, 100, 100, 0, false}, {200, 100, 200, 0, false}, {200, 100, 150, 50, false}, {200, 100, 149, 51, true}, {200, 100, 150, 51, true}, {200, 100, 148, 51, false}, {200, 100, 151, 51, false},
		{lastTime, 0, 0, maxSkew, false}, {lastTime, 0, lastTime, maxSkew, false}, {lastTime, 0, lastTime / 2, maxSkew, false}, {1, 0, 0, 1, true}, {1, 0, 0, 0, false},
	} {
		wantWithin(t, c.from, c.to, c.now, c.skew, c.want)
	}
}

func TestPastATerm(t *testing.T) {
	for _, c := range []struct {
		to, now, skew int64
		want          bool
	}{
		{200, 0, 0, false}, {200, 199, 0, false}, {200, 200, 0, true}, {200, 201, 0, true}, {200, lastTime, 0, true},
		{200, 0, 60, false}, {200, 140, 60, false}, {200, 200, 60, false}, {200, 259, 60, false}, {200, 260, 60, true}, {200, 261, 60, true}, {200, lastTime, 60, true},
		{200, 200, maxSkew, false}, {200, 86599, maxSkew, false}, {200, 86600, maxSkew, true}, {200, 86601, maxSkew, true},
		{0, 0, 0, true}, {0, 1, 0, true}, {0, 0, 1, false}, {0, 1, 1, true}, {0, maxSkew - 1, maxSkew, false}, {0, maxSkew, maxSkew, true}, {0, lastTime, maxSkew, true},
		{1, 0, 0, false}, {lastTime, 0, 0, false}, {lastTime, 0, maxSkew, false}, {lastTime, lastTime - 1, 0, false}, {lastTime, lastTime - 1, maxSkew, false},
		// No end is behind the last time, so that time is past any term.
		{lastTime, lastTime, 0, true}, {lastTime, lastTime, 1, true}, {lastTime, lastTime, maxSkew, true}, {lastTime - 1, lastTime, 0, true}, {lastTime - 1, lastTime, maxSkew, true},
		{lastTime - 60, lastTime - 1, 60, false}, {lastTime - 61, lastTime - 1, 60, true}, {lastTime - maxSkew, lastTime - 1, maxSkew, false}, {lastTime - maxSkew - 1, lastTime - 1, maxSkew, true},
	} {
		wantPast(t, c.to, c.now, c.skew, c.want)
	}
}

// One thing that is out of range, all others right, and in such a way that nothing else speaks against it.
func TestTermsWithOneWrongNumber(t *testing.T) {
	for _, skew := range noSkews() {
		for _, to := range termTimes() {
			wantWidened(t, 100, to, skew, -1, -1)
			wantWidened(t, to, 200, skew, -1, -1)
			for _, now := range termTimes() {
				wantWithin(t, 100, to, now, skew, false)
				wantWithin(t, 0, lastTime, now, skew, false)
				wantPast(t, to, now, skew, false)
			}
		}
	}
	for _, no := range noTimes() {
		for _, skew := range termSkews() {
			for _, n := range termTimes() {
				wantWidened(t, no, n, skew, -1, -1)
				wantWidened(t, n, no, skew, -1, -1)
				for _, other := range termTimes() {
					wantWithin(t, no, n, other, skew, false)
					wantWithin(t, n, no, other, skew, false)
					wantWithin(t, n, other, no, skew, false)
				}
				wantPast(t, no, n, skew, false)
				wantPast(t, n, no, skew, false)
			}
		}
	}
}

func TestTermsWithSeveralWrongNumbers(t *testing.T) {
	for _, a := range noTimes() {
		for _, b := range noTimes() {
			for _, skew := range append(termSkews(), noSkews()...) {
				wantWidened(t, a, b, skew, -1, -1)
				wantPast(t, a, b, skew, false)
				for _, n := range []int64{0, 150, lastTime, -1, lastTime + 1, a, b} {
					wantWithin(t, a, b, n, skew, false)
					wantWithin(t, a, n, b, skew, false)
					wantWithin(t, n, a, b, skew, false)
				}
			}
		}
	}
	for _, no := range noTimes() {
		for _, skew := range noSkews() {
			for _, n := range termTimes() {
				wantWidened(t, no, n, skew, -1, -1)
				wantWidened(t, n, no, skew, -1, -1)
				wantPast(t, no, n, skew, false)
				wantPast(t, n, no, skew, false)
			}
		}
	}
}

// Each second around both ends of short terms, also of those whose from is after to.
func TestTermsSecondBySecond(t *testing.T) {
	for _, base := range []int64{0, 1000, lastTime - 14} {
		for from := base - 1; from <= base+15; from++ {
			for to := base - 1; to <= base+15; to++ {
				for skew := int64(-1); skew <= 9; skew++ {
					first, end := expectedWidened(from, to, skew)
					wantWidened(t, from, to, skew, first, end)
					for now := base - 12; now <= base+27; now++ {
						wantWithin(t, from, to, now, skew, expectedWithin(from, to, now, skew))
						wantPast(t, to, now, skew, expectedPast(to, now, skew))
					}
				}
			}
		}
	}
}

// wantPromise15 also asks what makes it so: from its first second on a term is Within or Past, never both, and more skew takes nothing away.
func wantPromise15(t *testing.T, from, to, now int64) {
	t.Helper()
	before := false
	for _, skew := range termSkews() {
		within, past := impl.Within(from, to, now, skew), impl.Past(to, now, skew)
		if within && past {
			t.Fatalf("%d is Within and Past %d to %d by %d", now, from, to, skew)
		}
		if before && !within {
			t.Fatalf("%d is not Within %d to %d by %d, but by less", now, from, to, skew)
		}
		first, end := impl.Widened(from, to, skew)
		if within != (now >= first && now < end) || past != (now >= end) {
			t.Fatalf("%d is %v, %v of %d to %d by %d, Widened %d to %d", now, within, past, from, to, skew, first, end)
		}
		before = within
	}
}

// Promise 15: what is Within is not Past.
func TestWhatIsWithinIsNotPast(t *testing.T) {
	for _, from := range termTimes() {
		for _, to := range termTimes() {
			for _, now := range termTimes() {
				wantPromise15(t, from, to, now)
			}
		}
	}
	within, past := 0, 0
	for seed := range 100000 {
		next := dice(seed)
		from := int64(next(1 << 31))
		to := from + int64(next(2*maxSkew))
		now := max(0, from-2*maxSkew+int64(next(6*maxSkew)))
		wantPromise15(t, from, to, now)
		wantPromise15(t, to, from, now)
		if impl.Within(from, to, now, 60) {
			within++
		}
		if impl.Past(to, now, 60) {
			past++
		}
	}
	if within < 5000 || past < 5000 {
		t.Errorf("only %d were Within, %d Past", within, past)
	}
}

// Promise 21 for chapter 15: an answer to all numbers in all places, those far out of range among them, and the same one each time.
func TestTermFunctionsAnswerEverywhere(t *testing.T) {
	list := append(farNumbers(), -lastTime, -maxSkew-1, -maxSkew, -60, -1, 0, 1, 60, 150, maxSkew-1, maxSkew, maxSkew+1, 2*maxSkew, lastTime-maxSkew, lastTime-60, lastTime-1, lastTime, lastTime+1, 2*lastTime)
	for _, a := range list {
		for _, b := range list {
			for _, c := range list {
				first, end := expectedWidened(a, b, c)
				wantWidened(t, a, b, c, first, end)
				wantWidened(t, a, b, c, first, end)
				wantPast(t, a, b, c, expectedPast(a, b, c))
				wantPast(t, a, b, c, expectedPast(a, b, c))
				for _, d := range list {
					wantWithin(t, a, b, c, d, expectedWithin(a, b, c, d))
					wantWithin(t, a, b, c, d, expectedWithin(a, b, c, d))
				}
				if t.Failed() {
					t.FailNow()
				}
			}
		}
	}
}
