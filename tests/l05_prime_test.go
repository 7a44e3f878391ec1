package tests

import (
	"math"
	"math/big"
	"testing"

	"loop.example/g00379/impl"
)

const maxModulus = 3000000000

// restOk asks whether a is a rest of a modulus that is in range.
func restOk(a, n int64) bool { return n >= 2 && n <= maxModulus && a >= 0 && a < n }

// expectedTimes counts with numbers of any size.
func expectedTimes(a, b, n int64) int64 {
	if !restOk(a, n) || !restOk(b, n) {
		return -1
	}
	p := new(big.Int).Mul(big.NewInt(a), big.NewInt(b))
	return p.Mod(p, big.NewInt(n)).Int64()
}

func expectedPower(a, e, n int64) int64 {
	if !restOk(a, n) || e < 0 {
		return -1
	}
	return new(big.Int).Exp(big.NewInt(a), big.NewInt(e), big.NewInt(n)).Int64()
}

func expectedGcd(a, b int64) int64 {
	if a < 0 || b < 0 || a > maxModulus || b > maxModulus {
		return -1
	}
	return new(big.Int).GCD(nil, nil, big.NewInt(a), big.NewInt(b)).Int64()
}

// expectedInverse is 0 out of range too: Times tells -1 there, by whatever number.
func expectedInverse(a, n int64) int64 {
	if !restOk(a, n) {
		return 0
	}
	x := new(big.Int).ModInverse(big.NewInt(a), big.NewInt(n))
	if x == nil {
		return 0
	}
	return x.Int64()
}

// expectedPrimes strikes out what is a product; what is left of 2 to 65535 is prime.
func expectedPrimes() []bool {
	prime := make([]bool, 65536)
	for n := 2; n < len(prime); n++ {
		prime[n] = true
	}
	for d := 2; d < len(prime); d++ {
		for n := 2 * d; n < len(prime); n += d {
			prime[n] = false
		}
	}
	return prime
}

// moduli are the ends of those in range, primes, powers, products, and some for which a product of two rests nearly fills an int64.
func moduli() []int64 {
	return []int64{
		2, 3, 4, 5, 6, 7, 8, 9, 10, 12, 16, 97, 100, 255, 256, 257, 1000, 65520, 65521, 65535, 65536, 65537, 1000003,
		math.MaxInt32 - 1, math.MaxInt32, math.MaxInt32 + 1, math.MaxInt32 + 2, 65521 * 40009, 65520 * 40008, 65521 * 45767,
		2999999929, 2999999997, 2999999998, maxModulus - 1, maxModulus,
	}
}

// restsOf are the first and last rests of n, some by its half and its root, and some strewn between.
func restsOf(n int64) []int64 {
	list := []int64{}
	root := int64(math.Sqrt(float64(n)))
	for _, a := range []int64{0, 1, 2, 3, 17, root - 1, root, root + 1, n / 3, n/2 - 1, n / 2, n/2 + 1, n / 7 * 5, n - 3, n - 2, n - 1, 1234567890 % n, 2147483646 % n, 2718281828 % n} {
		if a >= 0 && a < n {
			list = append(list, a)
		}
	}
	return list
}

// exponents are small ones, those by each power of two, and the greatest.
func exponents() []int64 {
	list := []int64{0, 1, 2, 3, 5, 17, 100, 65536, 65537, maxModulus, math.MaxInt64 - 2, math.MaxInt64 - 1, math.MaxInt64, math.MaxInt64/2 + 1, 6148914691236517205}
	for bit := 2; bit < 63; bit += 3 {
		list = append(list, int64(1)<<bit-1, int64(1)<<bit, int64(1)<<bit+1)
	}
	return list
}

// strewn tells count numbers from 0 to below-1, the same ones each time.
func strewn(count int, below int64) []int64 {
	list, state := make([]int64, 0, count), uint64(88172645463325252)
	for range count {
		state ^= state << 13
		state ^= state >> 7
		state ^= state << 17
		list = append(list, int64(state%uint64(below)))
	}
	return list
}

func TestTimesOfNumbers(t *testing.T) {
	if impl.MaxModulus != 3000000000 {
		t.Fatal(int64(impl.MaxModulus))
	}
	for _, c := range []struct{ a, b, n, want int64 }{
		{7, 8, 10, 6}, {0, 0, 2, 0}, {0, 1, 2, 0}, {1, 0, 2, 0}, {1, 1, 2, 1}, {2, 2, 3, 1}, {3, 4, 6, 0}, {9, 9, 10, 1}, {5, 5, 25, 0}, {65536, 65536, 65537, 1},
		{0, 0, maxModulus, 0}, {0, 2999999999, maxModulus, 0}, {2999999999, 0, maxModulus, 0}, {1, 2999999999, maxModulus, 2999999999}, {2999999999, 1, maxModulus, 2999999999},
		{2999999999, 2999999999, maxModulus, 1}, {2999999999, 2999999998, maxModulus, 2}, {2999999998, 2999999999, maxModulus, 2}, {2999999999, 2, maxModulus, 2999999998}, {54773, 54773, maxModulus, 81529},
		{2999999998, 2999999998, 2999999999, 1}, {1500000000, 2, maxModulus, 0}, {1500000000, 1500000000, maxModulus, 0}, {2147483647, 2147483648, maxModulus, 279904256},
	} {
		if got := impl.Times(c.a, c.b, c.n); got != c.want || got != expectedTimes(c.a, c.b, c.n) {
			t.Errorf("Times(%d, %d, %d) = %d, not %d", c.a, c.b, c.n, got, c.want)
		}
	}
}

func TestTimesOfEachModulus(t *testing.T) {
	for _, n := range moduli() {
		for _, a := range restsOf(n) {
			for _, b := range restsOf(n) {
				if got := impl.Times(a, b, n); got != expectedTimes(a, b, n) {
					t.Errorf("Times(%d, %d, %d) = %d, not %d", a, b, n, got, expectedTimes(a, b, n))
				}
			}
		}
	}
	for n := int64(2); n < 40; n++ {
		for a := int64(-2); a < n+2; a++ {
			for b := int64(-2); b < n+2; b++ {
				if got := impl.Times(a, b, n); got != expectedTimes(a, b, n) {
					t.Errorf("Times(%d, %d, %d) = %d, not %d", a, b, n, got, expectedTimes(a, b, n))
				}
			}
		}
	}
}

func TestTimesOfWrongNumbers(t *testing.T) {
	const low, high = math.MinInt64, math.MaxInt64
	for _, c := range [][3]int64{
		{0, 0, 1}, {0, 0, 0}, {0, 0, -1}, {0, 0, -2}, {1, 1, 1}, {1, 1, 0}, {1, 1, -7}, {-1, -1, -7}, {-3, -3, -2}, {0, 0, -maxModulus},
		{0, 0, maxModulus + 1}, {1, 1, maxModulus + 1}, {maxModulus, maxModulus, maxModulus + 1}, {0, 0, low}, {0, 0, high}, {1, 1, low}, {1, 1, high}, {low, low, low}, {high, high, high}, {high, low, high}, {high - 1, high - 1, high},
		{-1, 0, 2}, {0, -1, 2}, {-1, 1, 7}, {1, -1, 7}, {-1, -1, 7}, {2, 0, 2}, {0, 2, 2}, {10, 1, 10}, {1, 10, 10}, {10, 10, 10}, {11, 1, 10}, {1, 11, 10},
		{maxModulus, 0, maxModulus}, {0, maxModulus, maxModulus}, {maxModulus, maxModulus, maxModulus}, {-1, maxModulus - 1, maxModulus}, {maxModulus - 1, -1, maxModulus},
		{low, 1, 7}, {1, low, 7}, {high, 1, 7}, {1, high, 7}, {low, 0, maxModulus}, {0, high, maxModulus}, {high, high, maxModulus}, {low, low, maxModulus}, {1<<32 + 1, 1, 7}, {1, 1<<32 + 1, 7}, {1, 1, 1<<32 + 7},
	} {
		if got := impl.Times(c[0], c[1], c[2]); got != -1 {
			t.Errorf("Times(%d, %d, %d) = %d", c[0], c[1], c[2], got)
		}
	}
}

func TestPowerOfNumbers(t *testing.T) {
	const high = math.MaxInt64
	for _, c := range []struct{ a, e, n, want int64 }{
		{3, 5, 100, 43}, {3, 0, 7, 1}, {3, 1, 7, 3}, {3, 2, 7, 2}, {3, 6, 7, 1}, {2, 10, 1000, 24}, {2, 10, 1024, 0}, {2, 9, 1024, 512}, {2, 11, 1024, 0}, {6, 2, 36, 0}, {10, 9, maxModulus, 1000000000}, {10, 10, maxModulus, 1000000000},
		{0, 0, 2, 1}, {0, 1, 2, 0}, {0, high, 2, 0}, {1, 0, 2, 1}, {1, 1, 2, 1}, {1, high, 2, 1}, {0, 0, 7, 1}, {0, 2, 7, 0},
		{0, 0, maxModulus, 1}, {0, 1, maxModulus, 0}, {0, high, maxModulus, 0}, {1, 0, maxModulus, 1}, {1, high, maxModulus, 1}, {2999999999, 0, maxModulus, 1}, {2999999999, 1, maxModulus, 2999999999}, {2999999999, 2, maxModulus, 1},
		{2999999999, high, maxModulus, 2999999999}, {2999999999, high - 1, maxModulus, 1}, {6, high, 7, 6}, {6, high - 1, 7, 1}, {2, 65520, 65521, 1}, {2, 65521, 65521, 2}, {65520, 65520, 65521, 1},
	} {
		if got := impl.Power(c.a, c.e, c.n); got != c.want || got != expectedPower(c.a, c.e, c.n) {
			t.Errorf("Power(%d, %d, %d) = %d, not %d", c.a, c.e, c.n, got, c.want)
		}
	}
}

func TestPowerOfEachModulus(t *testing.T) {
	for _, n := range moduli() {
		for _, a := range restsOf(n) {
			for _, e := range exponents() {
				if got := impl.Power(a, e, n); got != expectedPower(a, e, n) {
					t.Errorf("Power(%d, %d, %d) = %d, not %d", a, e, n, got, expectedPower(a, e, n))
				}
			}
		}
	}
}

// Each power of a small number is Times of the one ahead of it.
func TestPowersOneByOne(t *testing.T) {
	for n := int64(2); n < 30; n++ {
		for a := range n {
			want := int64(1)
			for e := int64(0); e < 70; e++ {
				if got := impl.Power(a, e, n); got != want {
					t.Fatalf("Power(%d, %d, %d) = %d, not %d", a, e, n, got, want)
				}
				want = want * a % n
			}
		}
	}
}

func TestPowerOfWrongNumbers(t *testing.T) {
	const low, high = math.MinInt64, math.MaxInt64
	for _, c := range [][3]int64{
		{2, -1, 7}, {2, -2, 7}, {0, -1, 2}, {1, -1, 2}, {1, -1, 7}, {1, low, 7}, {0, low, maxModulus}, {2999999999, -1, maxModulus}, {2, low + 1, 7}, {1, -1, 1}, {-1, -1, -1},
		{0, 0, 1}, {0, 1, 1}, {1, 0, 1}, {0, 0, 0}, {1, 1, 0}, {1, 0, -1}, {0, 0, -7}, {3, 5, -100}, {1, 1, maxModulus + 1}, {1, 0, maxModulus + 1}, {maxModulus, high, maxModulus + 1}, {1, 1, low}, {1, 1, high}, {high, high, high}, {low, low, low}, {high - 1, 2, high},
		{-1, 0, 7}, {-1, 1, 7}, {-1, 2, 7}, {7, 0, 7}, {7, 1, 7}, {8, 0, 7}, {2, 0, 2}, {maxModulus, 0, maxModulus}, {maxModulus, 1, maxModulus}, {maxModulus, high, maxModulus}, {-1, high, maxModulus},
		{low, 0, 7}, {high, 0, 7}, {low, 1, maxModulus}, {high, 1, maxModulus}, {low, high, 2}, {high, high, 2}, {1<<32 + 1, 1, 7}, {1, 1, 1<<32 + 7},
	} {
		if got := impl.Power(c[0], c[1], c[2]); got != -1 {
			t.Errorf("Power(%d, %d, %d) = %d", c[0], c[1], c[2], got)
		}
	}
}

// Promise 5: Power of a sum is Times of both.
func TestPowerOfASumIsTimesOfBoth(t *testing.T) {
	for _, n := range moduli() {
		for _, a := range restsOf(n) {
			for i, e := range exponents() {
				for _, f := range exponents()[i%5:] {
					if e > math.MaxInt64-f {
						f = math.MaxInt64 - e
					}
					sum, both := impl.Power(a, e+f, n), impl.Times(impl.Power(a, e, n), impl.Power(a, f, n), n)
					if sum != both || sum < 0 || sum >= n {
						t.Fatalf("%d to the power of %d and %d modulo %d: %d, not %d", a, e, f, n, sum, both)
					}
				}
			}
		}
	}
}

func TestGcdOfNumbers(t *testing.T) {
	for _, c := range [][3]int64{
		{12, 18, 6}, {18, 12, 6}, {0, 0, 0}, {0, 1, 1}, {1, 0, 1}, {0, 5, 5}, {5, 0, 5}, {1, 1, 1}, {7, 7, 7}, {7, 5, 1}, {4, 8, 4}, {8, 4, 4}, {9, 6, 3}, {17, 65520, 1}, {65521, 40009, 1},
		{0, maxModulus, maxModulus}, {maxModulus, 0, maxModulus}, {maxModulus, maxModulus, maxModulus}, {maxModulus, 1, 1}, {1, maxModulus, 1}, {maxModulus, maxModulus - 1, 1}, {maxModulus - 1, maxModulus, 1}, {maxModulus, 2, 2},
		{maxModulus, 1500000000, 1500000000}, {2000000000, maxModulus, 1000000000}, {1836311903, 2971215073, 1}, {2971215073, 1836311903, 1}, {2147483648, maxModulus, 512}, {2147483647, 2147483647, 2147483647},
	} {
		if got := impl.Gcd(c[0], c[1]); got != c[2] || got != expectedGcd(c[0], c[1]) {
			t.Errorf("Gcd(%d, %d) = %d, not %d", c[0], c[1], got, c[2])
		}
	}
}

// The greatest that goes into both, by trying all.
func TestGcdOfSmallNumbers(t *testing.T) {
	for a := int64(-3); a < 90; a++ {
		for b := int64(-3); b < 90; b++ {
			want := int64(0)
			for d := int64(1); d < 90; d++ {
				if a%d == 0 && b%d == 0 && a+b > 0 {
					want = d
				}
			}
			if a < 0 || b < 0 {
				want = -1
			}
			if got := impl.Gcd(a, b); got != want {
				t.Errorf("Gcd(%d, %d) = %d, not %d", a, b, got, want)
			}
		}
	}
}

func TestGcdOfGreatNumbers(t *testing.T) {
	list := append(moduli(), strewn(300, maxModulus+1)...)
	for _, a := range list {
		for _, b := range list {
			if got := impl.Gcd(a, b); got != expectedGcd(a, b) {
				t.Errorf("Gcd(%d, %d) = %d, not %d", a, b, got, expectedGcd(a, b))
			}
		}
	}
}

func TestGcdOfWrongNumbers(t *testing.T) {
	const low, high = math.MinInt64, math.MaxInt64
	for _, wrong := range []int64{-1, -2, -12, -maxModulus, maxModulus + 1, maxModulus + 2, 2 * maxModulus, 1<<32 + 12, 1<<40 + 6, low, low + 1, high, high - 1} {
		for _, other := range []int64{0, 1, 2, 6, 12, maxModulus, wrong, -1, maxModulus + 1, low, high} {
			if got := impl.Gcd(wrong, other); got != -1 {
				t.Errorf("Gcd(%d, %d) = %d", wrong, other, got)
			}
			if got := impl.Gcd(other, wrong); got != -1 {
				t.Errorf("Gcd(%d, %d) = %d", other, wrong, got)
			}
		}
	}
}

func TestInverseOfNumbers(t *testing.T) {
	for _, c := range [][3]int64{
		{3, 7, 5}, {5, 7, 3}, {1, 7, 1}, {6, 7, 6}, {0, 7, 0}, {4, 8, 0}, {3, 8, 3}, {5, 8, 5}, {7, 8, 7}, {2, 8, 0}, {6, 8, 0}, {0, 8, 0}, {1, 8, 1}, {2, 9, 5}, {3, 9, 0}, {6, 9, 0},
		{0, 2, 0}, {1, 2, 1}, {0, 3, 0}, {1, 3, 1}, {2, 3, 2}, {2, 4, 0}, {3, 4, 3}, {2, 65521, 32761}, {65520, 65521, 65520}, {17, 3120, 2753}, {2753, 3120, 17},
		{0, maxModulus, 0}, {1, maxModulus, 1}, {maxModulus - 1, maxModulus, maxModulus - 1}, {2, maxModulus, 0}, {3, maxModulus, 0}, {5, maxModulus, 0}, {7, maxModulus, 2142857143}, {1500000000, maxModulus, 0}, {maxModulus - 2, maxModulus, 0},
		{2, maxModulus - 1, 1500000000}, {1500000000, maxModulus - 1, 2}, {maxModulus - 2, maxModulus - 1, maxModulus - 2}, {1836311903, 2971215073, 1134903170},
	} {
		if got := impl.Inverse(c[0], c[1]); got != c[2] || got != expectedInverse(c[0], c[1]) {
			t.Errorf("Inverse(%d, %d) = %d, not %d", c[0], c[1], got, c[2])
		}
	}
}

// The one by which Times tells 1, by trying all.
func TestInverseOfSmallNumbers(t *testing.T) {
	for n := int64(2); n < 120; n++ {
		for a := range n {
			want := int64(0)
			for b := int64(1); b < n; b++ {
				if a*b%n == 1 {
					want = b
				}
			}
			if got := impl.Inverse(a, n); got != want {
				t.Errorf("Inverse(%d, %d) = %d, not %d", a, n, got, want)
			}
		}
	}
}

// Promise 5: Inverse is one.
func TestInverseIsOne(t *testing.T) {
	check := func(a, n int64) {
		got := impl.Inverse(a, n)
		if got != expectedInverse(a, n) || got < 0 || got >= n {
			t.Fatalf("Inverse(%d, %d) = %d, not %d", a, n, got, expectedInverse(a, n))
		}
		if has := impl.Gcd(a, n) == 1; has != (got != 0) || has && impl.Times(a, got, n) != 1 || has && impl.Inverse(got, n) != a {
			t.Fatalf("%d modulo %d: %d is no Inverse", a, n, got)
		}
	}
	for _, n := range moduli() {
		for _, a := range append(restsOf(n), strewn(200, n)...) {
			check(a, n)
		}
	}
	for _, n := range strewn(500, maxModulus-1) {
		for _, a := range restsOf(n + 2) {
			check(a, n+2)
		}
	}
}

// Where a or n is out of range, Times tells -1 by whatever number, so there is no Inverse.
func TestInverseOfWrongNumbers(t *testing.T) {
	const low, high = math.MinInt64, math.MaxInt64
	for _, c := range [][2]int64{
		{0, 1}, {1, 1}, {0, 0}, {1, 0}, {0, -1}, {1, -1}, {-1, -1}, {3, -7}, {-3, -7}, {1, -maxModulus}, {1, maxModulus + 1}, {0, maxModulus + 1}, {2, maxModulus + 1}, {maxModulus, maxModulus + 1}, {1, low}, {1, high}, {2, high}, {low, low}, {high, high}, {high - 1, high},
		{-1, 2}, {2, 2}, {3, 2}, {-1, 7}, {-3, 7}, {7, 7}, {8, 7}, {10, 7}, {-4, 8}, {8, 8}, {12, 8}, {-1, maxModulus}, {maxModulus, maxModulus}, {maxModulus + 1, maxModulus}, {low, 7}, {high, 7}, {low, maxModulus}, {high, maxModulus}, {1<<32 + 3, 7}, {3, 1<<32 + 7}, {low, high}, {high, low},
	} {
		if got := impl.Inverse(c[0], c[1]); got != 0 {
			t.Errorf("Inverse(%d, %d) = %d, not 0", c[0], c[1], got)
		}
		for _, b := range []int64{low, -1, 0, 1, 2, 3, 5, 6, c[0], c[1] - 1, c[1], maxModulus - 1, high} {
			if got := impl.Times(c[0], b, c[1]); got != -1 {
				t.Errorf("Times(%d, %d, %d) = %d, not -1", c[0], b, c[1], got)
			}
		}
	}
}

func TestPrimeOfNumbers(t *testing.T) {
	for _, n := range []int64{2, 3, 5, 7, 11, 13, 97, 251, 257, 40009, 65497, 65519, 65521} {
		if !impl.Prime(n) {
			t.Errorf("%d is no prime", n)
		}
	}
	for _, n := range []int64{
		4, 6, 8, 9, 10, 15, 21, 25, 49, 121, 169, 289, 63001, 62 * 62, 251 * 257, 239 * 241, 65520, 65522, 65523, 65533, 65534, 65535,
		65536, 65537, 65539, 66049, 131071, maxModulus, math.MaxInt32, 1<<32 + 2, 1<<32 + 3, 1<<40 + 7, 1<<62 + 5, math.MaxInt64, math.MaxInt64 - 1, math.MaxInt64 - 24,
		1, 0, -1, -2, -3, -5, -7, -65521, math.MinInt32, math.MinInt64, math.MinInt64 + 1, math.MinInt64 + 2, math.MinInt64 + 3,
	} {
		if impl.Prime(n) {
			t.Errorf("%d is prime", n)
		}
	}
}

func TestPrimeOfEachNumber(t *testing.T) {
	primes := expectedPrimes()
	for n := int64(-70000); n < 140000; n++ {
		want := n >= 0 && n < int64(len(primes)) && primes[n]
		if impl.Prime(n) != want {
			t.Errorf("Prime(%d) = %v", n, !want)
		}
		if want && impl.Prime(n*n) {
			t.Errorf("the square of %d is prime", n)
		}
	}
}

// Promise 21 for chapter 5: an answer to all numbers in all places, those far out of range among them, and the same one each time.
func TestPowerFunctionsAnswerEverywhere(t *testing.T) {
	list := append(farNumbers(), -2, -1, 0, 1, 2, 3, 4, 7, 8, 65521, 65535, 65536, maxModulus-2, maxModulus-1, maxModulus, maxModulus+1, maxModulus+2, -maxModulus, 2*maxModulus, math.MaxInt64/2, math.MaxInt64/maxModulus)
	for _, a := range list {
		for _, b := range list {
			if got := impl.Gcd(a, b); got != expectedGcd(a, b) || got != impl.Gcd(a, b) {
				t.Fatalf("Gcd(%d, %d) = %d, not %d", a, b, got, expectedGcd(a, b))
			}
			if got := impl.Inverse(a, b); got != expectedInverse(a, b) || got != impl.Inverse(a, b) {
				t.Fatalf("Inverse(%d, %d) = %d, not %d", a, b, got, expectedInverse(a, b))
			}
			for _, n := range list {
				if got := impl.Times(a, b, n); got != expectedTimes(a, b, n) || got != impl.Times(a, b, n) {
					t.Fatalf("Times(%d, %d, %d) = %d, not %d", a, b, n, got, expectedTimes(a, b, n))
				}
				if got := impl.Power(a, b, n); got != expectedPower(a, b, n) || got != impl.Power(a, b, n) {
					t.Fatalf("Power(%d, %d, %d) = %d, not %d", a, b, n, got, expectedPower(a, b, n))
				}
			}
		}
		if impl.Prime(a) != (a == 2 || a == 3 || a == 7 || a == 257 || a == 65521) {
			t.Fatalf("Prime(%d) = %v", a, impl.Prime(a))
		}
	}
}
