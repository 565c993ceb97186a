package tests

import (
	"math"
	"math/big"
	"slices"
	"testing"

	"loop.example/g00477/impl"
)

// Promise 3: what is put into lowest terms is as great as it was; fractions have one order.

func frac(num int, den int) impl.Frac { return impl.Frac{Num: num, Den: den} }

// someFracs are FracOk: small ones, the edges of Num and Den, and such whose products across are wider than a word.
func someFracs() []impl.Frac {
	const m = impl.MaxDen
	list := []impl.Frac{
		frac(m, m), frac(m, 1), frac(0, 1), frac(0, m), frac(1, m), frac(1, 1), frac(2, m), frac(m-1, m), frac(m, m-1), frac(m-1, m-1),
		frac(m-2, m-1), frac(m-3, m-2), frac(m/2, m), frac(m/2+1, m), frac(m/2, m-1), frac(m-1, 1), frac(m, 2), frac(m-1, 2), frac(m, 3),
		frac(3037000499, 3037000500), frac(3037000500, 3037000501), frac(4294967296, 4294967297), frac(4294967295, 4294967296),
		frac(16777215, 16777216), frac(16777216, 16777217), frac(281474976710655, 281474976710656), frac(281474976710657, 281474976710656),
		frac(1000000007*999983, 1000000007*3), frac(999983, 3), frac(997920000000000, 3991680000000000),
	}
	for num := range 8 {
		for den := 1; den < 8; den++ {
			list = append(list, frac(num, den))
		}
	}
	return list
}

// wrongFracs are not FracOk.
func wrongFracs() []impl.Frac {
	const m = impl.MaxDen
	list := []impl.Frac{{}, frac(-1, -1), frac(m+1, m+1), frac(math.MaxInt, math.MaxInt), frac(math.MinInt, math.MinInt), frac(m+1, 0), frac(-1, m+1)}
	for _, num := range []int{-1, -2, -m, math.MinInt, m + 1, m + 2, 2 * m, math.MaxInt} {
		list = append(list, frac(num, 1), frac(num, 3), frac(num, m))
	}
	for _, den := range []int{0, -1, -2, -m, math.MinInt, m + 1, m + 2, math.MaxInt} {
		list = append(list, frac(0, den), frac(1, den), frac(m, den))
	}
	return list
}

func bigInt(n int) *big.Int { return big.NewInt(int64(n)) }

func ratOf(a impl.Frac) *big.Rat { return big.NewRat(int64(a.Num), int64(a.Den)) }

func product(a int, b int) *big.Int { return new(big.Int).Mul(bigInt(a), bigInt(b)) }

func TestFracOk(t *testing.T) {
	for _, a := range someFracs() {
		if !impl.FracOk(a) {
			t.Errorf("FracOk(%v) = false", a)
		}
	}
	for _, a := range wrongFracs() {
		if impl.FracOk(a) {
			t.Errorf("FracOk(%v) = true", a)
		}
	}
}

func TestFracCmp(t *testing.T) {
	for _, a := range someFracs() {
		for _, b := range someFracs() {
			want := ratOf(a).Cmp(ratOf(b))
			if got, turned := impl.FracCmp(a, b), impl.FracCmp(b, a); got != want || turned != -want {
				t.Errorf("FracCmp(%v, %v) = %d, turned round %d", a, b, got, turned)
			}
		}
	}
}

func TestFracCmpOfNamedOnes(t *testing.T) {
	const m = impl.MaxDen
	for _, c := range []struct {
		a, b impl.Frac
		want int
	}{
		{frac(3, 4), frac(2, 3), 1}, {frac(1, 2), frac(2, 4), 0}, {frac(0, 1), frac(0, m), 0}, {frac(0, m), frac(1, m), -1},
		{frac(m, m), frac(1, 1), 0}, {frac(m, 1), frac(m-1, 1), 1}, {frac(m, 1), frac(1, m), 1},
		// As little apart as two fractions can be: 1 over the product of the denominators.
		{frac(m-2, m-1), frac(m-1, m), -1}, {frac(1, m-1), frac(1, m), 1}, {frac(m, m-1), frac(m-1, m-2), -1},
		{frac(m/2, m), frac(m/2-1, m-1), 1}, {frac(m/2, m), frac(m/2, m-1), -1},
	} {
		if got := impl.FracCmp(c.a, c.b); got != c.want {
			t.Errorf("FracCmp(%v, %v) = %d", c.a, c.b, got)
		}
	}
}

// times is the same fraction written with greater numbers, or as it was where they have no room.
func times(a impl.Frac, by int) impl.Frac {
	if a.Num > impl.MaxDen/by || a.Den > impl.MaxDen/by {
		return a
	}
	return frac(a.Num*by, a.Den*by)
}

func TestTheSameFractionWrittenInTwoWays(t *testing.T) {
	for _, a := range someFracs() {
		for _, by := range []int{2, 3, 1000, 500000000000000} {
			other := times(a, by)
			if impl.FracCmp(a, other) != 0 || impl.FracCmp(other, a) != 0 {
				t.Errorf("%v and %v are not equal", a, other)
			}
			if impl.FracLow(a) != impl.FracLow(other) {
				t.Errorf("%v and %v have other lowest terms", a, other)
			}
			for _, b := range someFracs() {
				if impl.FracCmp(a, b) != impl.FracCmp(other, b) || impl.FracCmp(b, a) != impl.FracCmp(b, other) {
					t.Errorf("%v and %v have another order to %v", a, other, b)
				}
			}
		}
	}
}

func TestFractionsHaveOneOrder(t *testing.T) {
	list := someFracs()
	slices.SortFunc(list, impl.FracCmp)
	for i, a := range list {
		for _, b := range list[i:] {
			if impl.FracCmp(a, b) > 0 || impl.FracCmp(b, a) < 0 {
				t.Errorf("%v stands ahead of %v", a, b)
			}
		}
	}
}

func TestGcd(t *testing.T) {
	list := append(someInts(), 12, 18, 17, 360, 2*3*5*7*11*13, 3037000499, 7540113804746346429, 4660046610375530309, math.MaxInt/7, impl.MaxDen, impl.MaxDen-1)
	for _, a := range list {
		for _, b := range list {
			want := new(big.Int).GCD(nil, nil, bigInt(a), bigInt(b))
			if got := impl.Gcd(a, b); got != int(want.Int64()) {
				t.Errorf("Gcd(%d, %d) = %d", a, b, got)
			}
		}
	}
}

func TestGcdOfNamedOnes(t *testing.T) {
	for _, c := range [][3]int{
		{0, 0, 0}, {0, 5, 5}, {5, 0, 5}, {0, math.MaxInt, math.MaxInt}, {math.MaxInt, 0, math.MaxInt}, {math.MaxInt, math.MaxInt, math.MaxInt},
		{math.MaxInt, 49, 49}, {math.MaxInt, math.MaxInt - 1, 1}, {1, math.MaxInt, 1}, {12, 18, 6}, {18, 12, 6}, {17, 5, 1},
	} {
		if got := impl.Gcd(c[0], c[1]); got != c[2] {
			t.Errorf("Gcd(%d, %d) = %d", c[0], c[1], got)
		}
	}
}

func TestGcdBelowNoughtIsRefused(t *testing.T) {
	for _, wrong := range []int{-1, -2, -6, -math.MaxInt, math.MinInt} {
		for _, b := range []int{0, 1, 6, math.MaxInt, -1, -6, math.MinInt} {
			if got, turned := impl.Gcd(wrong, b), impl.Gcd(b, wrong); got != -1 || turned != -1 {
				t.Errorf("Gcd of %d and %d: %d, turned round %d", wrong, b, got, turned)
			}
		}
	}
}

func TestFracLow(t *testing.T) {
	for _, a := range someFracs() {
		low := impl.FracLow(a)
		want := ratOf(a)
		if int64(low.Num) != want.Num().Int64() || int64(low.Den) != want.Denom().Int64() {
			t.Errorf("FracLow(%v) = %v", a, low)
		}
		if !impl.FracOk(low) || impl.FracCmp(low, a) != 0 || impl.Gcd(low.Num, low.Den) != 1 || impl.FracLow(low) != low {
			t.Errorf("FracLow(%v) = %v", a, low)
		}
	}
	for _, den := range []int{1, 2, 9, impl.MaxDen} {
		if got := impl.FracLow(frac(0, den)); got != frac(0, 1) {
			t.Errorf("FracLow(0/%d) = %v", den, got)
		}
	}
	if got := impl.FracLow(frac(impl.MaxDen, impl.MaxDen)); got != frac(1, 1) {
		t.Errorf("FracLow of 1 = %v", got)
	}
}

func TestFracGap(t *testing.T) {
	for _, a := range someFracs() {
		for _, b := range someFracs() {
			gap := product(a.Num, b.Den)
			gap.Sub(gap, product(b.Num, a.Den))
			var wantNum, wantDen []int
			if gap.Sign() >= 0 {
				wantNum, wantDen = natOfBig(gap), natOfBig(product(a.Den, b.Den))
			}
			num, den, ok := impl.FracGap(a, b)
			if ok != (impl.FracCmp(a, b) >= 0) || !slices.Equal(num, wantNum) || !slices.Equal(den, wantDen) {
				t.Errorf("FracGap(%v, %v) = %v, %v, %v", a, b, num, den, ok)
			}
		}
	}
}

func TestFracGapOfNamedOnes(t *testing.T) {
	const m = impl.MaxDen
	for _, c := range []struct {
		a, b     impl.Frac
		num, den string
	}{
		{frac(3, 4), frac(2, 3), "1", "12"}, {frac(3, 4), frac(1, 4), "8", "16"}, {frac(2, 4), frac(3, 6), "0", "24"}, {frac(0, 5), frac(0, 7), "0", "35"},
		{frac(m, m), frac(m, m), "0", "16000000000000000000000000000000"},
		{frac(m, m), frac(0, m), "16000000000000000000000000000000", "16000000000000000000000000000000"},
		{frac(m-1, m), frac(m-2, m-1), "1", "15999999999999996000000000000000"},
		{frac(m, 1), frac(0, 1), "4000000000000000", "1"},
	} {
		num, den, ok := impl.FracGap(c.a, c.b)
		if !ok || impl.NatText(num) != c.num || impl.NatText(den) != c.den {
			t.Errorf("FracGap(%v, %v) = %v, %v, %v", c.a, c.b, num, den, ok)
		}
	}
}

func TestWrongFracsAreRefused(t *testing.T) {
	for _, wrong := range wrongFracs() {
		for _, a := range append(wrongFracs(), frac(0, 1), frac(1, 1), frac(3, 4), frac(impl.MaxDen, 1), frac(impl.MaxDen, impl.MaxDen)) {
			if impl.FracCmp(a, wrong) != -2 || impl.FracCmp(wrong, a) != -2 {
				t.Errorf("FracCmp of %v and %v", a, wrong)
			}
			refusedByFracGap(t, a, wrong)
			refusedByFracGap(t, wrong, a)
		}
		if got := impl.FracLow(wrong); got != (impl.Frac{}) {
			t.Errorf("FracLow(%v) = %v", wrong, got)
		}
		if got := impl.Thousandths(wrong); got != -1 {
			t.Errorf("Thousandths(%v) = %d", wrong, got)
		}
		if got := impl.FracText(wrong); got != "" {
			t.Errorf("FracText(%v) = %q", wrong, got)
		}
	}
}

func refusedByFracGap(t *testing.T, a impl.Frac, b impl.Frac) {
	t.Helper()
	if num, den, ok := impl.FracGap(a, b); len(num) != 0 || len(den) != 0 || ok {
		t.Errorf("FracGap(%v, %v) = %v, %v, %v", a, b, num, den, ok)
	}
}

func TestFracGapOfOneBelowIsRefused(t *testing.T) {
	const m = impl.MaxDen
	refusedByFracGap(t, frac(2, 3), frac(3, 4))
	refusedByFracGap(t, frac(0, m), frac(1, m))
	refusedByFracGap(t, frac(m-2, m-1), frac(m-1, m))
	refusedByFracGap(t, frac(0, 1), frac(m, 1))
}

func TestThousandths(t *testing.T) {
	for _, a := range someFracs() {
		want := -1
		if a.Num <= a.Den {
			want = int(new(big.Int).Div(product(1000, a.Num), bigInt(a.Den)).Int64())
		}
		if got := impl.Thousandths(a); got != want {
			t.Errorf("Thousandths(%v) = %d", a, got)
		}
	}
}

func TestThousandthsOfNamedOnes(t *testing.T) {
	const m = impl.MaxDen
	for a, want := range map[impl.Frac]int{
		frac(0, 1): 0, frac(0, m): 0, frac(1, 1): 1000, frac(m, m): 1000, frac(m-1, m): 999, frac(2, 3): 666, frac(1, 1000): 1, frac(1, 1001): 0,
		frac(1, 999): 1, frac(999, 1000): 999, frac(998, 999): 998, frac(m/1000, m): 1, frac(m/1000-1, m): 0, frac(m/1000+1, m): 1,
		frac(m/2, m): 500, frac(m/2-1, m): 499, frac(m-m/1000-1, m): 998,
		frac(2, 1): -1, frac(5, 4): -1, frac(m, m-1): -1, frac(m, 1): -1,
	} {
		if got := impl.Thousandths(a); got != want {
			t.Errorf("Thousandths(%v) = %d", a, got)
		}
	}
}

func TestFracText(t *testing.T) {
	for a, want := range map[impl.Frac]string{
		frac(0, 1): "0/1", frac(3, 4): "3/4", frac(12, 18): "12/18", frac(0, 9): "0/9",
		frac(impl.MaxDen, impl.MaxDen): "4000000000000000/4000000000000000", frac(10, 1): "10/1",
	} {
		if got := impl.FracText(a); got != want {
			t.Errorf("FracText(%v) = %q", a, got)
		}
	}
}

func TestFracGapAnswersAreNewMemory(t *testing.T) {
	for _, a := range someFracs() {
		num, den, ok := impl.FracGap(a, frac(0, 1))
		if !ok {
			t.Fatalf("FracGap(%v, 0/1) is refused", a)
		}
		keptDen := slices.Clone(den)
		spoil(num)
		if !slices.Equal(den, keptDen) {
			t.Errorf("the two lists of FracGap(%v, 0/1) share memory", a)
		}
		spoil(den)
		num, den, _ = impl.FracGap(a, frac(0, 1))
		if impl.NatText(num) != impl.Digits(a.Num) || !slices.Equal(den, keptDen) {
			t.Errorf("FracGap(%v, 0/1) turned with an earlier answer: %v, %v", a, num, den)
		}
	}
}
