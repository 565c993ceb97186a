package tests

import (
	"math"
	"math/big"
	"testing"

	"loop.example/g00477/impl"
)

// Promise 4: more weight makes no bound greater, more surety none smaller.

const (
	lastSurety = 9
	lastRoot   = 3037000499 // the greatest number whose square is a number of 64 bits
)

// wrongSureties are no k from 1 to 9; the great ones among them wrap round when they are multiplied.
func wrongSureties() []int {
	return []int{
		0, 10, 11, 12, 100, 1000, -1, -2, -9, -10, 4005659000000, -4005659000000, 1 << 32, 1<<32 + 1, 1<<62 + 3, -1 << 62,
		math.MaxInt, math.MaxInt - 1, math.MinInt, math.MinInt + 1,
	}
}

// wrongWeights are no n from 1 to MaxWeight.
func wrongWeights() []int {
	return []int{
		0, impl.MaxWeight + 1, impl.MaxWeight + 2, 2000, 1 << 20, 1 << 32, 1<<32 + 1, -1, -2, -10, -impl.MaxWeight, -impl.MaxWeight - 1,
		math.MaxInt, math.MaxInt - 1, math.MinInt, math.MinInt + 1,
	}
}

func TestMaxWeight(t *testing.T) {
	if impl.MaxWeight != 999 {
		t.Errorf("MaxWeight = %d", impl.MaxWeight)
	}
}

func TestLnOf(t *testing.T) {
	for i, want := range []int{2303, 4606, 6908, 9211, 11513, 13816, 16119, 18421, 20724} {
		k := i + 1
		if got := impl.LnOf(k); got != want {
			t.Errorf("LnOf(%d) = %d", k, got)
		}
	}
}

func TestLnOfIsTheLogarithmRoundedUp(t *testing.T) {
	for k := 1; k <= lastSurety; k++ {
		exact := 1000 * math.Log(math.Pow10(k))
		if got := float64(impl.LnOf(k)); got < exact || got >= exact+1 {
			t.Errorf("LnOf(%d) = %v, the logarithm is %v", k, got, exact)
		}
	}
}

func TestLnOfOthersIsNought(t *testing.T) {
	for _, k := range wrongSureties() {
		if got := impl.LnOf(k); got != 0 {
			t.Errorf("LnOf(%d) = %d", k, got)
		}
	}
}

func TestRootOfNamedOnes(t *testing.T) {
	for n, want := range map[int]int{
		0: 0, 1: 1, 2: 1, 3: 1, 4: 2, 8: 2, 9: 3, 15: 3, 16: 4, 17: 4, 99: 9, 100: 10, 101: 10,
		115150: 339, 1<<62 - 1: 1<<31 - 1, 1 << 62: 1 << 31, 1<<62 + 1: 1 << 31,
		9223372030926249000: lastRoot - 1, 9223372030926249001: lastRoot, 9223372030926249002: lastRoot,
		math.MaxInt - 1: lastRoot, 9223372036854775807: lastRoot,
	} {
		if got := impl.Root(n); got != want {
			t.Errorf("Root(%d) = %d", n, got)
		}
	}
}

func TestRootOfEverySmallNumber(t *testing.T) {
	want := 0
	for n := range 200000 {
		if (want+1)*(want+1) == n {
			want++
		}
		if got := impl.Root(n); got != want {
			t.Fatalf("Root(%d) = %d, not %d", n, got, want)
		}
	}
}

// someRoots are small ones, those around each power of two, and those next to the greatest one.
func someRoots() []int {
	var list []int
	for r := 1; r <= 3000; r++ {
		list = append(list, r, lastRoot+1-r, r*1000003)
	}
	for bit := 12; bit < 32; bit++ {
		list = append(list, 1<<bit-1, 1<<bit, 1<<bit+1, 1<<bit+1<<(bit-1), lastRoot>>(bit-11))
	}
	return list
}

func TestRootOfSquaresAndTheirNeighbours(t *testing.T) {
	for _, r := range someRoots() {
		if r > lastRoot {
			continue
		}
		if got := impl.Root(r * r); got != r {
			t.Errorf("Root of the square of %d = %d", r, got)
		}
		if got := impl.Root(r*r - 1); got != r-1 {
			t.Errorf("Root of one less than the square of %d = %d", r, got)
		}
		if got := impl.Root(r*r + 1); got != r {
			t.Errorf("Root of one more than the square of %d = %d", r, got)
		}
	}
}

func TestRootIsTheGreatestThatFits(t *testing.T) {
	list := someInts()
	for shift := range 63 {
		n := math.MaxInt >> shift
		list = append(list, n, n-1, n/3, n/5*4, n/1000003*7)
	}
	for _, n := range list {
		want := new(big.Int).Sqrt(bigInt(n))
		if got := impl.Root(n); got != int(want.Int64()) {
			t.Errorf("Root(%d) = %d, not %v", n, got, want)
		}
	}
}

func TestRootBelowNoughtIsRefused(t *testing.T) {
	for _, n := range []int{-1, -2, -3, -4, -16, -1 << 31, -1 << 32, -1 << 62, -math.MaxInt, math.MinInt + 1, -9223372036854775808} {
		if got := impl.Root(n); got != -1 {
			t.Errorf("Root(%d) = %d", n, got)
		}
	}
}

// boundOf reckons the bound from the document's own numbers, by what no root and no logarithm of the program has a part in.
func boundOf(k int, n int) int {
	whole := bigInt((k*2302585 + 999) / 1000)
	whole.Mul(whole, bigInt(500))
	whole.Div(whole, bigInt(n))
	return int(whole.Sqrt(whole).Int64())
}

func TestEpsOfEverySuretyAndWeight(t *testing.T) {
	for k := 1; k <= lastSurety; k++ {
		for n := 1; n <= impl.MaxWeight; n++ {
			if got, want := impl.EpsOf(k, n), boundOf(k, n); got != want {
				t.Errorf("EpsOf(%d, %d) = %d, not %d", k, n, got, want)
			}
		}
	}
}

func TestEpsOfNamedOnes(t *testing.T) {
	for _, c := range []struct{ k, n, want int }{
		{1, 1, 1073}, {1, 2, 758}, {1, 10, 339}, {1, 998, 33}, {1, 999, 33},
		{5, 200, 169}, {9, 1, 3219}, {9, 2, 2276}, {9, 998, 101}, {9, 999, 101},
	} {
		if got := impl.EpsOf(c.k, c.n); got != c.want {
			t.Errorf("EpsOf(%d, %d) = %d", c.k, c.n, got)
		}
	}
}

func TestMoreWeightMakesNoBoundGreater(t *testing.T) {
	for k := 1; k <= lastSurety; k++ {
		for n := 1; n < impl.MaxWeight; n++ {
			if less, more := impl.EpsOf(k, n), impl.EpsOf(k, n+1); more > less || more <= 0 {
				t.Errorf("EpsOf(%d, %d) = %d, with one more %d", k, n, less, more)
			}
		}
	}
}

func TestMoreSuretyMakesNoBoundSmaller(t *testing.T) {
	for n := 1; n <= impl.MaxWeight; n++ {
		for k := 1; k < lastSurety; k++ {
			if less, more := impl.EpsOf(k, n), impl.EpsOf(k+1, n); more < less || less <= 0 {
				t.Errorf("EpsOf(%d, %d) = %d, with one more %d", k, n, less, more)
			}
		}
	}
}

func TestEpsOfOthersIsNought(t *testing.T) {
	refused := func(k int, n int) {
		t.Helper()
		if got := impl.EpsOf(k, n); got != 0 {
			t.Errorf("EpsOf(%d, %d) = %d", k, n, got)
		}
	}
	for _, k := range wrongSureties() {
		for n := 1; n <= impl.MaxWeight; n++ {
			refused(k, n)
		}
		for _, n := range wrongWeights() {
			refused(k, n)
		}
	}
	for k := 1; k <= lastSurety; k++ {
		for _, n := range wrongWeights() {
			refused(k, n)
		}
	}
}
