package tests

import (
	"math"
	"math/big"
	"testing"

	"loop.example/g00379/impl"
)

const minModulus = 2147483648

// keyFrom takes N, E and D.
func keyFrom(c [3]int64) impl.Key { return impl.Key{N: c[0], E: c[1], D: c[2]} }

func modulusOk(n int64) bool { return n >= minModulus && n <= maxModulus }

// publicOk asks for N and E alone.
func publicOk(k impl.Key) bool { return modulusOk(k.N) && k.E >= 3 && k.E < k.N }

func lockerOk(k impl.Key) bool { return k.D >= 3 && k.D < k.N }

func expectedKeyOk(k impl.Key) bool { return publicOk(k) && (lockerOk(k) || k.D == 0) }

func expectedPublic(k impl.Key) impl.Key {
	if !publicOk(k) {
		return impl.Key{}
	}
	return impl.Key{N: k.N, E: k.E}
}

func expectedLocked(k impl.Key, h int64) int64 {
	if !publicOk(k) || !lockerOk(k) {
		return -1
	}
	return expectedPower(h, k.D, k.N)
}

func expectedOpened(k impl.Key, v int64) int64 {
	if !expectedKeyOk(k) {
		return -1
	}
	return expectedPower(v, k.E, k.N)
}

// keyPrimes are struck out once, as they are asked for often.
var keyPrimes = expectedPrimes()

func isPrime(n int64) bool { return n >= 0 && n < int64(len(keyPrimes)) && keyPrimes[n] }

func expectedKeyOf(p, q, e int64) (impl.Key, bool) {
	if p == q || !isPrime(p) || !isPrime(q) || !modulusOk(p*q) || e < 3 || e > 65537 || e%2 == 0 {
		return impl.Key{}, false
	}
	d := new(big.Int).ModInverse(big.NewInt(e), big.NewInt((p-1)*(q-1)))
	if d == nil || d.Int64() < 3 {
		return impl.Key{}, false
	}
	return impl.Key{N: p * q, E: e, D: d.Int64()}, true
}

// keyCases are two primes and an E, and the N and D that they make.
func keyCases() [][5]int64 {
	return [][5]int64{
		{65521, 40009, 17, 2621429689, 925173233}, {40009, 65521, 17, 2621429689, 925173233}, {65521, 40009, 65537, 2621429689, 599604353},
		{46337, 46349, 3, 2147673613, 1431720619}, {46337, 46349, 65537, 2147673613, 1261310977}, {46349, 46351, 7, 2148322499, 613779943},
		{65521, 32779, 11, 2147712859, 1366663811}, {65519, 45767, 3, 2998608073, 1998997859}, {65519, 45767, 9, 2998608073, 1665831549}, {65521, 45767, 11, 2998699607, 1362994691},
		{37369, 57467, 5, 2147484323, 1288433693}, {37369, 57467, 65537, 2147484323, 341324081}, {48661, 61651, 7, 2999999311, 857111143}, {48661, 61651, 65537, 2999999311, 529284473},
	}
}

func madeKey(t *testing.T, p, q, e int64) impl.Key {
	t.Helper()
	k, ok := impl.KeyOf(p, q, e)
	if !ok {
		t.Fatalf("KeyOf(%d, %d, %d) is refused", p, q, e)
	}
	return k
}

func TestKeyOfPrimes(t *testing.T) {
	if impl.MinModulus != 2147483648 {
		t.Fatal(int64(impl.MinModulus))
	}
	for _, c := range keyCases() {
		want := impl.Key{N: c[3], E: c[2], D: c[4]}
		if k, ok := impl.KeyOf(c[0], c[1], c[2]); !ok || k != want || !impl.KeyOk(k) {
			t.Errorf("KeyOf(%d, %d, %d) = %v, %v, not %v", c[0], c[1], c[2], k, ok, want)
		}
		if k, ok := impl.KeyOf(c[1], c[0], c[2]); !ok || k != want {
			t.Errorf("KeyOf(%d, %d, %d) = %v, %v, not %v", c[1], c[0], c[2], k, ok, want)
		}
	}
}

// nearestPair tells the two unlike primes whose product is the least, or the greatest, of those between both ends, by trying all.
func nearestPair(from, to int64, least bool) (int64, int64) {
	last, bestP, bestQ := int64(len(keyPrimes)-1), int64(0), int64(0)
	for p := int64(2); p <= last; p++ {
		if !isPrime(p) {
			continue
		}
		for q := max(p+1, (from+p-1)/p); q <= last && p*q <= to; q++ {
			better := bestP == 0 || least && p*q < bestP*bestQ || !least && p*q > bestP*bestQ
			if isPrime(q) && better {
				bestP, bestQ = p, q
			}
		}
	}
	return bestP, bestQ
}

func TestKeyOfTheNearestProducts(t *testing.T) {
	const near = 5000
	for _, c := range []struct {
		from, to int64
		least    bool
		p, q     int64
		want     bool
	}{
		{minModulus, minModulus + near, true, 37369, 57467, true},
		{minModulus - near, minModulus - 1, false, 46271, 46411, false},
		{maxModulus - near, maxModulus, false, 48661, 61651, true},
		{maxModulus + 1, maxModulus + near, true, 52253, 57413, false},
	} {
		if p, q := nearestPair(c.from, c.to, c.least); p != c.p || q != c.q {
			t.Fatalf("nearest are %d and %d, not %d and %d", p, q, c.p, c.q)
		}
		for e := int64(3); e <= 65537; e += 2 {
			if e > 99 && e < 65500 {
				continue
			}
			want, wanted := expectedKeyOf(c.p, c.q, e)
			if k, ok := impl.KeyOf(c.p, c.q, e); ok != wanted || k != want || ok && !c.want {
				t.Errorf("KeyOf(%d, %d, %d) = %v, %v", c.p, c.q, e, k, ok)
			}
		}
		if _, ok := impl.KeyOf(c.p, c.q, 65537); ok != c.want {
			t.Errorf("KeyOf(%d, %d, 65537): %v", c.p, c.q, ok)
		}
	}
}

func TestKeyOfEachPower(t *testing.T) {
	for _, pair := range [][2]int64{{65521, 40009}, {46337, 46349}, {65519, 45767}} {
		for e := int64(-20); e < 65560; e++ {
			want, wanted := expectedKeyOf(pair[0], pair[1], e)
			if k, ok := impl.KeyOf(pair[0], pair[1], e); ok != wanted || k != want {
				t.Fatalf("KeyOf(%d, %d, %d) = %v, %v, not %v, %v", pair[0], pair[1], e, k, ok, want, wanted)
			}
		}
	}
}

func TestKeyOfManyPairs(t *testing.T) {
	made := 0
	for i, n := range strewn(6000, 1<<40) {
		p, q, e := n%65700, n/65700%65700, n/7%65540|1
		// Two strewn numbers are seldom both prime.
		for i%3 != 0 && !isPrime(p) {
			p = (p + 1) % 65700
		}
		for i%3 != 0 && !isPrime(q) {
			q = (q + 1) % 65700
		}
		want, wanted := expectedKeyOf(p, q, e)
		k, ok := impl.KeyOf(p, q, e)
		if ok != wanted || k != want {
			t.Fatalf("KeyOf(%d, %d, %d) = %v, %v, not %v, %v", p, q, e, k, ok, want, wanted)
		}
		if ok {
			made++
			if !impl.KeyOk(k) || impl.Times(k.E, k.D, (p-1)*(q-1)) != 1 {
				t.Fatalf("KeyOf(%d, %d, %d) = %v is no key", p, q, e, k)
			}
		}
	}
	if made < 100 {
		t.Fatalf("only %d keys", made)
	}
}

func TestKeyOfWrongNumbers(t *testing.T) {
	const low, high = math.MinInt64, math.MaxInt64
	for _, c := range [][3]int64{
		{46349, 46349, 65537}, {46351, 46351, 65537}, {54767, 54767, 65537}, {65521, 65521, 17}, {2, 2, 3},
		{65520, 40009, 17}, {65521, 40010, 17}, {40009, 65520, 17}, {65535, 40009, 65537}, {40009, 65535, 65537}, {63001, 40009, 65537}, {40009, 63001, 65537}, {65521, 40011, 65537}, {40011, 65521, 65537}, {60000, 50000, 65537}, {65536, 32771, 3}, {65536, 32768, 3},
		{65537, 40009, 17}, {40009, 65537, 17}, {65539, 40009, 17}, {40009, 65539, 17}, {65537, 65539, 17}, {2, 1073741827, 65537}, {1073741827, 2, 65537}, {1, 2147483659, 65537}, {2147483659, 1, 65537}, {1, maxModulus, 7},
		{-65521, -40009, 17}, {-65521, 40009, 17}, {65521, -40009, 17}, {0, 40009, 17}, {65521, 0, 17}, {1, 40009, 17}, {65521, 1, 17}, {0, 0, 17}, {1, 1, 17}, {-1, -1, 17},
		{65521, 40009, 16}, {65521, 40009, 18}, {65521, 40009, 4}, {65521, 40009, 2}, {65521, 40009, 0}, {65521, 40009, 65536}, {65521, 40009, 65538}, {65519, 45767, 65534},
		{65521, 40009, 1}, {65519, 45767, 1}, {65521, 40009, 65539}, {65521, 40009, 65541}, {65521, 40009, 65543}, {65521, 40009, 1<<32 + 17}, {65521, 40009, 2621429689},
		{65521, 40009, -1}, {65521, 40009, -2}, {65521, 40009, -3}, {65521, 40009, -17}, {65521, 40009, -65537}, {65519, 45767, -3},
		{65521, 40009, 3}, {65521, 40009, 5}, {65521, 40009, 7}, {65521, 40009, 9}, {65521, 40009, 13}, {65521, 40009, 1667}, {40009, 65521, 5}, {40009, 65521, 1667}, {46337, 46349, 181}, {46337, 46349, 11587}, {46349, 46337, 11587}, {65519, 45767, 17}, {65519, 45767, 49}, {65519, 45767, 65535},
		{2, 3, 5}, {61, 53, 17}, {2, 65521, 11}, {3, 65521, 11}, {65521, 32749, 11}, {46337, 46327, 65537}, {65519, 32771, 3}, {65521, 65519, 11}, {65521, 65519, 65537}, {65519, 65521, 65537}, {65521, 45817, 11}, {54767, 54779, 65537},
		{low, 40009, 17}, {high, 40009, 17}, {65521, low, 17}, {65521, high, 17}, {65521, 40009, low}, {65521, 40009, high}, {65521, 40009, low + 1}, {65521, 40009, high - 1}, {low, low, low}, {high, high, high}, {low, high, 17}, {high, low, 17}, {high - 24, 2, 65537},
		{1<<32 + 65521, 40009, 17}, {65521, 1<<32 + 40009, 17}, {1<<62 + 65521, 40009, 17}, {1<<32 + 65521, 1<<32 + 40009, 17},
	} {
		if k, ok := impl.KeyOf(c[0], c[1], c[2]); ok || k != (impl.Key{}) {
			t.Errorf("KeyOf(%d, %d, %d) = %v, %v", c[0], c[1], c[2], k, ok)
		}
	}
}

// keyModuli are the ends of those in range, one beyond each, and what is made of primes.
func keyModuli() []int64 {
	return []int64{
		minModulus, minModulus + 1, 2147484323, 2621429689, 2999999311, maxModulus - 1, maxModulus,
		minModulus - 1, minModulus - 2, maxModulus + 1, maxModulus + 2, 0, 1, 2, 3, 4, 3233, -1, -minModulus, -2621429689, -maxModulus, 2 * maxModulus, 1<<32 + 2621429689, 1 << 62, math.MinInt64, math.MinInt64 + 1, math.MaxInt64 - 1, math.MaxInt64,
	}
}

// keyPowers are the ends of those in range for an E or a D by this N, and one beyond each.
func keyPowers(n int64) []int64 {
	return []int64{
		3, 4, 5, 17, 65537, 65539, minModulus - 1, n - 2, n - 1,
		0, 1, 2, -1, -2, -3, -17, n, n + 1, -n, 1<<32 + 17, 1 << 62, math.MinInt64, math.MinInt64 + 3, math.MaxInt64 - 1, math.MaxInt64,
	}
}

// edgeKeys are all keys of these.
func edgeKeys() []impl.Key {
	list := []impl.Key{}
	for _, n := range keyModuli() {
		for _, e := range keyPowers(n) {
			for _, d := range keyPowers(n) {
				list = append(list, impl.Key{N: n, E: e, D: d})
			}
		}
	}
	return list
}

func TestKeyOkOfKeys(t *testing.T) {
	const n, low, high = 2621429689, math.MinInt64, math.MaxInt64
	for _, c := range [][3]int64{
		{n, 17, 925173233}, {n, 17, 0}, {minModulus, 3, 3}, {minModulus, 3, 0}, {maxModulus, 3, 3}, {maxModulus, 3, 0}, {n, 3, 3}, {n, n - 1, n - 1}, {n, 3, n - 1}, {n, n - 1, 3}, {n, n - 1, 0}, {n, 4, 6}, {n, 65539, 65540},
		{minModulus, minModulus - 1, 0}, {minModulus, minModulus - 1, minModulus - 1}, {maxModulus, maxModulus - 1, 0}, {maxModulus, maxModulus - 1, maxModulus - 1},
	} {
		if k := keyFrom(c); !impl.KeyOk(k) || !expectedKeyOk(k) {
			t.Errorf("%v is not right", k)
		}
	}
	for _, c := range [][3]int64{
		{}, {0, 17, 0}, {n, 0, 0}, {minModulus - 1, 3, 3}, {minModulus - 1, 3, 0}, {maxModulus + 1, 3, 3}, {maxModulus + 1, 3, 0}, {low, 3, 3}, {high, 3, 3}, {low, 3, 0}, {high, 3, 0}, {-n, 17, 0},
		{n, 2, 3}, {n, 2, 0}, {n, 1, 3}, {n, 0, 3}, {n, -1, 3}, {n, -17, 0}, {n, n, 3}, {n, n, 0}, {n, n + 1, 0}, {n, low, 3}, {n, high, 0},
		{n, 17, 1}, {n, 17, 2}, {n, 17, n}, {n, 17, n + 1}, {n, 17, -1}, {n, 17, -3}, {n, 17, low}, {n, 17, high}, {minModulus, 3, minModulus}, {maxModulus, 3, maxModulus}, {minModulus, minModulus, 0}, {maxModulus, maxModulus, 0}, {low, low, low}, {high, high, high},
	} {
		if k := keyFrom(c); impl.KeyOk(k) || expectedKeyOk(k) {
			t.Errorf("%v is right", k)
		}
	}
	for _, k := range edgeKeys() {
		if impl.KeyOk(k) != expectedKeyOk(k) {
			t.Errorf("KeyOk(%v) = %v", k, impl.KeyOk(k))
		}
	}
}

func TestPublicOfKeys(t *testing.T) {
	const n = 2621429689
	for _, c := range [][2][3]int64{
		{{n, 17, 925173233}, {n, 17, 0}}, {{n, 17, 0}, {n, 17, 0}}, {{minModulus, 3, 3}, {minModulus, 3, 0}}, {{maxModulus, 3, 3}, {maxModulus, 3, 0}},
		{{minModulus, minModulus - 1, 0}, {minModulus, minModulus - 1, 0}}, {{maxModulus, maxModulus - 1, maxModulus - 1}, {maxModulus, maxModulus - 1, 0}},
		// Of D nothing is asked.
		{{n, 17, 1}, {n, 17, 0}}, {{n, 17, 2}, {n, 17, 0}}, {{n, 17, n}, {n, 17, 0}}, {{n, 17, -1}, {n, 17, 0}}, {{n, 17, math.MinInt64}, {n, 17, 0}}, {{n, 17, math.MaxInt64}, {n, 17, 0}},
		{{minModulus - 1, 3, 3}, {}}, {{maxModulus + 1, 3, 3}, {}}, {{n, 2, 3}, {}}, {{n, 0, 3}, {}}, {{n, n, 3}, {}}, {{n, -1, 3}, {}}, {{n, 2, 0}, {}}, {{n, math.MinInt64, 3}, {}}, {{n, math.MaxInt64, 3}, {}}, {{math.MinInt64, 3, 3}, {}}, {{math.MaxInt64, 3, 3}, {}}, {{}, {}},
	} {
		if got := impl.Public(keyFrom(c[0])); got != keyFrom(c[1]) || got != expectedPublic(keyFrom(c[0])) {
			t.Errorf("Public(%v) = %v, not %v", c[0], got, c[1])
		}
	}
	for _, k := range edgeKeys() {
		got := impl.Public(k)
		if got != expectedPublic(k) || impl.Public(got) != got || (got != impl.Key{}) != impl.KeyOk(got) {
			t.Errorf("Public(%v) = %v, not %v", k, got, expectedPublic(k))
		}
	}
}

func TestLockedAndOpenedOfNumbers(t *testing.T) {
	k := impl.Key{N: 2621429689, E: 17, D: 925173233}
	for _, c := range []struct{ h, locked, opened int64 }{
		{0, 0, 0}, {1, 1, 1}, {2, 2330149012, 131072}, {12345, 1525863316, 1965279781}, {2147483646, 302536830, 2139220784}, {2621429687, 291280677, 2621298617}, {2621429688, 2621429688, 2621429688},
		{65521, 1976375444, 1049908504}, {40009, 2254467141, 25125652}, {131042, 1775881184, 1655912233}, {2621364168, 645054245, 1571521185}, {2621389680, 366962548, 2596304037},
	} {
		if got := impl.Locked(k, c.h); got != c.locked {
			t.Errorf("Locked(%v, %d) = %d, not %d", k, c.h, got, c.locked)
		}
		if got := impl.Opened(k, c.h); got != c.opened || got != impl.Opened(impl.Public(k), c.h) {
			t.Errorf("Opened(%v, %d) = %d, not %d", k, c.h, got, c.opened)
		}
	}
	for _, c := range []struct {
		n, power, h, want int64
	}{
		{minModulus, 3, 0, 0}, {minModulus, 3, 1, 1}, {minModulus, 3, 2, 8}, {minModulus, 3, minModulus - 2, 2147483640}, {minModulus, 3, minModulus - 1, 2147483647}, {minModulus, minModulus - 1, 7, 920350135}, {minModulus, minModulus - 1, minModulus - 1, minModulus - 1},
		{maxModulus, 3, 0, 0}, {maxModulus, 3, 1, 1}, {maxModulus, 3, 7, 343}, {maxModulus, 3, maxModulus - 2, 2999999992}, {maxModulus, 3, maxModulus - 1, 2999999999}, {maxModulus, maxModulus - 1, 7, 2142857143}, {maxModulus, maxModulus - 1, 2, 893554688}, {maxModulus, maxModulus - 1, maxModulus - 2, 2106445312},
		{2621429689, 2621429688, 2, 1010627969}, {2621429689, 2621429688, 2621429688, 1},
	} {
		// What the other power is, is not asked.
		if got := impl.Locked(impl.Key{N: c.n, E: 5, D: c.power}, c.h); got != c.want {
			t.Errorf("Locked of %d to %d modulo %d is %d, not %d", c.h, c.power, c.n, got, c.want)
		}
		if got := impl.Opened(impl.Key{N: c.n, E: c.power, D: 5}, c.h); got != c.want {
			t.Errorf("Opened of %d to %d modulo %d is %d, not %d", c.h, c.power, c.n, got, c.want)
		}
		if got := impl.Opened(impl.Key{N: c.n, E: c.power}, c.h); got != c.want {
			t.Errorf("Opened of %d to %d modulo %d by a public key is %d, not %d", c.h, c.power, c.n, got, c.want)
		}
	}
}

func TestLockedAndOpenedOfEachKey(t *testing.T) {
	for _, k := range edgeKeys() {
		for _, h := range []int64{0, 1, 2, 12345, k.N - 2, k.N - 1, k.N, -1, maxModulus, math.MinInt64, math.MaxInt64} {
			if got := impl.Locked(k, h); got != expectedLocked(k, h) {
				t.Errorf("Locked(%v, %d) = %d, not %d", k, h, got, expectedLocked(k, h))
			}
			if got := impl.Opened(k, h); got != expectedOpened(k, h) {
				t.Errorf("Opened(%v, %d) = %d, not %d", k, h, got, expectedOpened(k, h))
			}
		}
	}
}

func TestLockedAndOpenedOfWrongNumbers(t *testing.T) {
	const n, low, high = 2621429689, math.MinInt64, math.MaxInt64
	for _, c := range [][3]int64{
		{minModulus - 1, 3, 3}, {maxModulus + 1, 3, 3}, {low, 3, 3}, {high, 3, 3}, {}, {-n, 17, 5}, {n, 2, 3}, {n, 0, 3}, {n, n, 3}, {n, -1, 3}, {n, low, 3}, {n, high, 3},
		{n, 17, 1}, {n, 17, 2}, {n, 17, n}, {n, 17, -1}, {n, 17, low}, {n, 17, high}, {n, 2, 0}, {n, n, 0}, {minModulus - 1, 3, 0}, {maxModulus + 1, 3, 0},
	} {
		k := keyFrom(c)
		for _, h := range []int64{0, 1, 5, 12345, k.N - 1} {
			if got := impl.Locked(k, h); got != -1 {
				t.Errorf("Locked(%v, %d) = %d", k, h, got)
			}
			if got := impl.Opened(k, h); got != -1 {
				t.Errorf("Opened(%v, %d) = %d", k, h, got)
			}
		}
	}
	for _, c := range [][3]int64{{n, 17, 925173233}, {minModulus, 3, 3}, {maxModulus, 3, 3}, {maxModulus, maxModulus - 1, maxModulus - 1}} {
		k := keyFrom(c)
		for _, h := range []int64{-1, -2, -12345, -k.N, k.N, k.N + 1, 2 * k.N, 1<<32 + 5, 1<<62 + 5, low, low + 1, high - 1, high} {
			if impl.Locked(k, h) != -1 || impl.Opened(k, h) != -1 || impl.Opened(impl.Public(k), h) != -1 {
				t.Errorf("%v locks or opens %d", k, h)
			}
		}
		for _, h := range []int64{0, 1, 5, 12345, k.N - 1, k.N, -1, low, high} {
			if got := impl.Locked(impl.Public(k), h); got != -1 {
				t.Errorf("%v is public and locks %d: %d", k, h, got)
			}
		}
	}
}

// lockable are the ends of what a key of these primes can lock, what one of both goes into, and some strewn between.
func lockable(p, q int64) []int64 {
	n := p * q
	list := append(restsOf(n), p, q, 2*p, 2*q, p*(q-1), q*(p-1), p*(q/2), q*(p/2), p*p%n, q*q%n, 12345, 2147483646)
	return append(list, strewn(150, n)...)
}

// Promise 6: Opened of Locked is what was locked, by the key and by its Public; and Locked of Opened what was opened.
func TestOpenedOfLockedIsWhatWasLocked(t *testing.T) {
	check := func(p, q, e int64) {
		k := madeKey(t, p, q, e)
		for _, h := range lockable(p, q) {
			v := impl.Locked(k, h)
			if v < 0 || v >= k.N || v != expectedLocked(k, h) {
				t.Fatalf("Locked(%v, %d) = %d, not %d", k, h, v, expectedLocked(k, h))
			}
			if own, all := impl.Opened(k, v), impl.Opened(impl.Public(k), v); own != h || all != h {
				t.Fatalf("%d is locked by %v, %d and %d opened", h, k, own, all)
			}
			if got := impl.Locked(k, impl.Opened(k, h)); got != h {
				t.Fatalf("%d is opened by %v, %d locked", h, k, got)
			}
		}
	}
	for _, c := range keyCases() {
		check(c[0], c[1], c[2])
	}
	for _, e := range []int64{3, 5, 9, 11, 13, 15, 19, 257, 4097, 65533, 65537} {
		if _, ok := expectedKeyOf(65519, 45767, e); ok {
			check(65519, 45767, e)
		}
	}
	for e := int64(3); e < 65538; e += 1234 {
		if _, ok := expectedKeyOf(46337, 46349, e); ok {
			check(46337, 46349, e)
		}
	}
}

// Promise 21 for chapter 6: an answer to all numbers in all places, those far out of range among them, and the same one each time; the key stays.
func TestKeyFunctionsAnswerEverywhere(t *testing.T) {
	list := append(farNumbers(), -3, -1, 0, 1, 2, 3, 17, 40009, 65521, 65537, minModulus-1, minModulus, 2621429689, maxModulus-1, maxModulus, maxModulus+1, -maxModulus)
	for _, a := range list {
		for _, b := range list {
			for _, c := range list {
				made, ok := impl.KeyOf(a, b, c)
				if want, wanted := expectedKeyOf(a, b, c); made != want || ok != wanted {
					t.Fatalf("KeyOf(%d, %d, %d) = %v, %v, not %v, %v", a, b, c, made, ok, want, wanted)
				}
				k := impl.Key{N: a, E: b, D: c}
				if impl.KeyOk(k) != expectedKeyOk(k) || impl.Public(k) != expectedPublic(k) {
					t.Fatalf("%v: %v, Public %v", k, impl.KeyOk(k), impl.Public(k))
				}
				for _, h := range []int64{math.MinInt64, -1, 0, 2, a - 1, a, math.MaxInt64} {
					if got := impl.Locked(k, h); got != expectedLocked(k, h) || got != impl.Locked(k, h) {
						t.Fatalf("Locked(%v, %d) = %d, not %d", k, h, got, expectedLocked(k, h))
					}
					if got := impl.Opened(k, h); got != expectedOpened(k, h) || got != impl.Opened(k, h) {
						t.Fatalf("Opened(%v, %d) = %d, not %d", k, h, got, expectedOpened(k, h))
					}
				}
				if k != (impl.Key{N: a, E: b, D: c}) {
					t.Fatalf("%v was changed", k)
				}
			}
		}
	}
}
