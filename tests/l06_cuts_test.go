package tests

import (
	"math"
	"slices"
	"testing"

	"loop.example/g00477/impl"
)

// Promise 6: cuts that are reckoned are right cuts.

// wrongBins are no k from 2 to MaxBins; the great ones among them wrap round to one, or when they are multiplied.
func wrongBins() []int {
	return []int{
		1, 0, -1, -2, -impl.MaxBins, impl.MaxBins + 1, impl.MaxBins + 2, 64, 65, 1000, 19997, 1<<8 + 2, 1<<16 + 3, 1<<32 + 2, 1<<32 + 4, -1<<32 + 3, 1<<62 + 2,
		math.MaxInt, math.MaxInt - 1, math.MinInt, math.MinInt + 1, math.MinInt + 2,
	}
}

// wrongCuts are numbers that no cut may be.
func wrongCuts() []int {
	return []int{
		leastCut - 1, lastCut + 1, leastCut - 2, lastCut + 2, -20000, 20000, 1 << 16, -1 << 16, 1<<32 + 5, -1<<32 - 5, 1 << 62, -1 << 62,
		math.MaxInt, math.MaxInt - 1, math.MinInt, math.MinInt + 1,
	}
}

// mixedList has so many numbers from least on, no more than kinds of them different, in an order that each step makes another.
func mixedList(many int, step int, least int, kinds int) []int {
	list := make([]int, many)
	at := uint64(many*1000003 + step*7919 + kinds)
	for i := range list {
		at = at*6364136223846793005 + 1442695040888963407
		list[i] = least + int(at>>33)%kinds
	}
	return list
}

// everyList tells all lists of these numbers, from the empty one up to that many.
func everyList(numbers []int, most int, told func(list []int)) {
	told(nil)
	lists := [][]int{nil}
	for range most {
		var longer [][]int
		for _, l := range lists {
			for _, n := range numbers {
				longer = append(longer, append(slices.Clone(l), n))
			}
		}
		for _, l := range longer {
			told(l)
		}
		lists = longer
	}
}

// someLists are of all lengths up to beyond MaxList: all alike, alike in part, all different, rising, falling, and with the least and the greatest int.
func someLists() [][]int {
	list := [][]int{
		nil, {}, {0}, {-1}, {math.MinInt}, {math.MaxInt}, {math.MaxInt, math.MinInt}, {math.MinInt, math.MaxInt}, {math.MinInt, math.MinInt}, {math.MaxInt, math.MaxInt},
		{math.MaxInt, 0, math.MinInt, -1, 1, math.MaxInt - 1, math.MinInt + 1, math.MaxInt, math.MinInt}, {1 << 32, 1, 1<<32 + 1, 0, -1 << 32}, {5, 5, 5}, {-3, 2, -3, 2},
	}
	for many := 1; many <= impl.MaxList+9; many++ {
		for step := range 2 {
			list = append(list, mixedList(many, step, 7, 1), mixedList(many, step, -2, 3), mixedList(many, step, leastCut, 19998), mixedList(many, step, -1<<30, 1<<31))
		}
		rising := make([]int, many)
		for i := range rising {
			rising[i] = 3*i - 40
		}
		falling := slices.Clone(rising)
		slices.Reverse(falling)
		list = append(list, rising, falling)
	}
	return append(list, mixedList(1000, 1, -500, 300), mixedList(20000, 1, -1<<30, 1<<31))
}

func TestMaxList(t *testing.T) {
	if impl.MaxList != 64 {
		t.Errorf("MaxList = %d", impl.MaxList)
	}
}

func TestBinOfNamedOnes(t *testing.T) {
	for _, c := range []struct {
		cuts []int
		x    int
		want int
	}{
		{[]int{0, 5}, -1, 0}, {[]int{0, 5}, 0, 0}, {[]int{0, 5}, 1, 1}, {[]int{0, 5}, 4, 1}, {[]int{0, 5}, 5, 1}, {[]int{0, 5}, 6, 2},
		{[]int{7}, 6, 0}, {[]int{7}, 7, 0}, {[]int{7}, 8, 1},
		{[]int{-3, -2, -1}, -3, 0}, {[]int{-3, -2, -1}, -2, 1}, {[]int{-3, -2, -1}, -1, 2}, {[]int{-3, -2, -1}, 0, 3},
		{[]int{leastCut, 0, lastCut}, -9999, 0}, {[]int{leastCut, 0, lastCut}, -9998, 1}, {[]int{leastCut, 0, lastCut}, 9998, 2}, {[]int{leastCut, 0, lastCut}, 9999, 3},
		{nil, 0, 0}, {[]int{}, 0, 0}, {nil, math.MaxInt, 0}, {nil, math.MinInt, 0},
		{[]int{4, 4, 4}, 4, 0}, {[]int{4, 4, 4}, 5, 3}, {[]int{5, 0}, 3, 1}, {[]int{5, 0}, 5, 1}, {[]int{5, 0}, 6, 2}, {[]int{9, 1, 9, 1, 9}, 2, 2}, {[]int{1, 9, 1}, 2, 2},
		{[]int{math.MinInt}, math.MinInt, 0}, {[]int{math.MinInt}, math.MinInt + 1, 1}, {[]int{math.MinInt}, math.MaxInt, 1},
		{[]int{math.MaxInt}, math.MaxInt, 0}, {[]int{math.MaxInt - 1}, math.MaxInt, 1}, {[]int{math.MaxInt}, math.MinInt, 0},
		{[]int{math.MaxInt, math.MinInt, 0}, 0, 1}, {[]int{math.MaxInt, math.MinInt, 0}, 1, 2}, {[]int{math.MaxInt, math.MinInt, 0}, math.MaxInt, 2},
	} {
		if got := impl.BinOf(c.cuts, c.x); got != c.want {
			t.Errorf("BinOf(%v, %d) = %d", c.cuts, c.x, got)
		}
	}
}

// belowOf is what a list has below x, by leaving away the rest.
func belowOf(list []int, x int) int {
	return len(slices.DeleteFunc(slices.Clone(list), func(n int) bool { return n >= x }))
}

func TestBinOfAnyList(t *testing.T) {
	for _, list := range someLists() {
		asked := []int{math.MinInt, math.MinInt + 1, leastCut, -2, -1, 0, 1, 2, lastCut, math.MaxInt - 1, math.MaxInt}
		for _, n := range list[:min(len(list), 9)] {
			asked = append(asked, n-1, n, n+1)
		}
		for _, x := range asked {
			if got, want := impl.BinOf(list, x), belowOf(list, x); got != want {
				t.Errorf("BinOf(%d numbers, %d) = %d, not %d", len(list), x, got, want)
			}
		}
	}
}

func TestEachNumberHasABin(t *testing.T) {
	for _, cuts := range [][]int{{0}, {leastCut}, {lastCut}, {-1, 0, 1}, {leastCut, lastCut}, {leastCut, leastCut + 1, leastCut + 2}, {lastCut - 2, lastCut - 1, lastCut}, {-5000, -1, 4998}} {
		bins := impl.Bins(numeric("a", cuts...))
		want := 0
		for x := leastCut; x <= lastCut+1; x++ {
			if got := impl.BinOf(cuts, x); got != want || got >= bins {
				t.Fatalf("BinOf(%v, %d) = %d, not %d", cuts, x, got, want)
			}
			if slices.Contains(cuts, x) {
				want++
			}
		}
		if want != bins-1 {
			t.Errorf("%v have %d bins, the last number is in bin %d", cuts, bins, want)
		}
	}
}

// holdSorted asks for the order, and that each number is there as often as it was.
func holdSorted(t *testing.T, list []int) {
	t.Helper()
	got := impl.Sorted(list)
	if len(got) != len(list) {
		t.Errorf("Sorted made %d numbers of %d", len(got), len(list))
		return
	}
	often := map[int]int{}
	for i, n := range got {
		if i > 0 && got[i-1] > n {
			t.Errorf("Sorted(%d numbers) has %d ahead of %d", len(list), got[i-1], n)
			return
		}
		often[n]++
	}
	for _, n := range list {
		often[n]--
		if often[n] < 0 {
			t.Errorf("Sorted(%d numbers) has too few of %d", len(list), n)
			return
		}
	}
}

func TestSortedNamedOnes(t *testing.T) {
	for _, c := range []struct{ list, want []int }{
		{nil, nil}, {[]int{}, nil}, {[]int{3}, []int{3}}, {[]int{2, 1}, []int{1, 2}}, {[]int{9, 1, 5, 5, 5, 7}, []int{1, 5, 5, 5, 7, 9}},
		{[]int{-1, -10, 10, 1, 0}, []int{-10, -1, 0, 1, 10}}, {[]int{4, 4, 4}, []int{4, 4, 4}}, {[]int{1, 2, 3}, []int{1, 2, 3}},
		{[]int{math.MaxInt, 0, math.MinInt}, []int{math.MinInt, 0, math.MaxInt}},
	} {
		if got := impl.Sorted(c.list); !slices.Equal(got, c.want) {
			t.Errorf("Sorted(%v) = %v", c.list, got)
		}
	}
}

func TestSortedHasTheSameNumbersInOrder(t *testing.T) {
	for _, list := range someLists() {
		holdSorted(t, list)
	}
	everyList([]int{math.MinInt, -1, 0, math.MaxInt}, 6, func(list []int) { holdSorted(t, list) })
}

// holdEqual holds EqualCuts against what each cut must be: the greatest number whose way from lo, k times, is at most i times the whole way.
func holdEqual(t *testing.T, lo int, hi int, k int) {
	t.Helper()
	cuts := impl.EqualCuts(lo, hi, k)
	if len(cuts) != k-1 || !impl.CutsOk(cuts) {
		t.Errorf("EqualCuts(%d, %d, %d) = %v, CutsOk %v", lo, hi, k, cuts, impl.CutsOk(cuts))
		return
	}
	for i, c := range cuts {
		way, whole := (c-lo)*k, (hi-lo)*(i+1)
		if way > whole || way+k <= whole || c <= lo || c >= hi {
			t.Errorf("EqualCuts(%d, %d, %d) = %v", lo, hi, k, cuts)
		}
	}
}

func TestEqualCutsNamedOnes(t *testing.T) {
	for _, c := range []struct {
		lo, hi, k int
		want      []int
	}{
		{0, 10, 2, []int{5}}, {0, 10, 3, []int{3, 6}}, {0, 10, 4, []int{2, 5, 7}}, {-10, 0, 4, []int{-8, -5, -3}}, {-5, 6, 3, []int{-2, 2}}, {-7, -2, 2, []int{-5}},
		{0, 2, 2, []int{1}}, {0, 3, 3, []int{1, 2}}, {0, 4, 4, []int{1, 2, 3}}, {-3, 0, 3, []int{-2, -1}}, {-2, 2, 4, []int{-1, 0, 1}},
		{0, 3, 2, []int{1}}, {0, 4, 3, []int{1, 2}}, {0, 5, 4, []int{1, 2, 3}}, {0, 7, 4, []int{1, 3, 5}},
		{leastCut, leastCut + 2, 2, []int{leastCut + 1}}, {lastCut - 2, lastCut, 2, []int{lastCut - 1}},
		{leastCut, leastCut + 4, 4, []int{-9998, -9997, -9996}}, {lastCut - 4, lastCut, 4, []int{9995, 9996, 9997}},
		{leastCut, lastCut, 2, []int{-1}}, {leastCut, lastCut, 3, []int{-3334, 3332}}, {leastCut, lastCut, 4, []int{-5000, -1, 4998}},
	} {
		if got := impl.EqualCuts(c.lo, c.hi, c.k); !slices.Equal(got, c.want) {
			t.Errorf("EqualCuts(%d, %d, %d) = %v", c.lo, c.hi, c.k, got)
		}
	}
}

func TestEqualCutsAreRightCuts(t *testing.T) {
	for k := 2; k <= impl.MaxBins; k++ {
		for lo := leastCut; lo <= lastCut-k; lo++ {
			holdEqual(t, lo, lo+k, k)
			holdEqual(t, lo, lastCut, k)
		}
		for hi := leastCut + k; hi <= lastCut; hi++ {
			holdEqual(t, leastCut, hi, k)
		}
		for lo := -30; lo <= 30; lo++ {
			for hi := lo + k; hi <= 40; hi++ {
				holdEqual(t, lo, hi, k)
			}
		}
	}
}

func refusedByEqualCuts(t *testing.T, lo int, hi int, k int) {
	t.Helper()
	if got := impl.EqualCuts(lo, hi, k); len(got) != 0 {
		t.Errorf("EqualCuts(%d, %d, %d) = %v", lo, hi, k, got)
	}
}

func TestEqualCutsOfWrongBinsAreNothing(t *testing.T) {
	ends := append(wrongCuts(), leastCut, leastCut+1, -1, 0, 1, 10, lastCut-1, lastCut)
	for _, k := range wrongBins() {
		for _, lo := range ends {
			for _, hi := range ends {
				refusedByEqualCuts(t, lo, hi, k)
			}
		}
	}
}

func TestEqualCutsBeyondTheLimitsAreNothing(t *testing.T) {
	for k := 2; k <= impl.MaxBins; k++ {
		for _, wrong := range wrongCuts() {
			for _, other := range append(wrongCuts(), leastCut, -1, 0, 1, lastCut) {
				refusedByEqualCuts(t, wrong, other, k)
				refusedByEqualCuts(t, other, wrong, k)
			}
			refusedByEqualCuts(t, wrong, wrong+k, k)
			refusedByEqualCuts(t, wrong-k, wrong, k)
		}
		for width := k; width < 100; width++ {
			refusedByEqualCuts(t, leastCut-1, leastCut-1+width, k)
			refusedByEqualCuts(t, lastCut+1-width, lastCut+1, k)
		}
	}
}

func TestEqualCutsOfTooNarrowAWayAreNothing(t *testing.T) {
	for k := 2; k <= impl.MaxBins; k++ {
		for lo := leastCut; lo <= lastCut; lo += 1 + 96*(k-1) {
			for hi := leastCut; hi < lo+k && hi <= lastCut; hi++ {
				refusedByEqualCuts(t, lo, hi, k)
			}
		}
		refusedByEqualCuts(t, lastCut, leastCut, k)
		refusedByEqualCuts(t, lastCut, lastCut, k)
		refusedByEqualCuts(t, leastCut, leastCut, k)
		refusedByEqualCuts(t, lastCut-k+1, lastCut, k)
		refusedByEqualCuts(t, leastCut, leastCut+k-1, k)
	}
}

// atPlace is the number that stands at that place when the list is in order, found without putting it in order.
func atPlace(list []int, place int) int {
	for _, n := range list {
		below, alike := belowOf(list, n), 0
		for _, other := range list {
			if other == n {
				alike++
			}
		}
		if below <= place && place < below+alike {
			return n
		}
	}
	return math.MinInt
}

// holdQuantile holds QuantileCuts of a right list against the numbers at its places, those alike taken once.
func holdQuantile(t *testing.T, list []int, k int) {
	t.Helper()
	var want []int
	for i := 1; i < k; i++ {
		if n := atPlace(list, len(list)*i/k); !slices.Contains(want, n) {
			want = append(want, n)
		}
	}
	if got := impl.QuantileCuts(list, k); !slices.Equal(got, want) || !impl.CutsOk(got) {
		t.Errorf("QuantileCuts(%v, %d) = %v, not %v, CutsOk %v", list, k, got, want, impl.CutsOk(got))
	}
}

func TestQuantileCutsNamedOnes(t *testing.T) {
	for _, c := range []struct {
		list []int
		k    int
		want []int
	}{
		{[]int{9, 1, 5, 5, 5, 7}, 2, []int{5}}, {[]int{9, 1, 5, 5, 5, 7}, 3, []int{5, 7}}, {[]int{9, 1, 5, 5, 5, 7}, 4, []int{5, 7}},
		{[]int{4, 4, 4}, 2, []int{4}}, {[]int{4, 4, 4}, 4, []int{4}}, {[]int{0}, 2, []int{0}}, {[]int{0}, 4, []int{0}}, {[]int{leastCut}, 3, []int{leastCut}}, {[]int{lastCut}, 3, []int{lastCut}},
		{[]int{1, 2}, 2, []int{2}}, {[]int{2, 1}, 3, []int{1, 2}}, {[]int{2, 1}, 4, []int{1, 2}}, {[]int{3, 2, 1}, 4, []int{1, 2, 3}}, {[]int{4, 3, 2, 1}, 4, []int{2, 3, 4}},
		{[]int{1, 1, 1, 2}, 4, []int{1, 2}}, {[]int{1, 2, 2, 2}, 4, []int{2}}, {[]int{1, 1, 2, 2}, 4, []int{1, 2}}, {[]int{2, 1, 2, 1}, 3, []int{1, 2}}, {[]int{1, 1, 1, 9}, 2, []int{1}},
		{[]int{lastCut, leastCut}, 4, []int{leastCut, lastCut}}, {[]int{0, lastCut, leastCut}, 4, []int{leastCut, 0, lastCut}}, {[]int{-5, -1, -5, -3, -2, -4}, 3, []int{-4, -2}},
	} {
		if got := impl.QuantileCuts(c.list, c.k); !slices.Equal(got, c.want) {
			t.Errorf("QuantileCuts(%v, %d) = %v", c.list, c.k, got)
		}
	}
}

func TestQuantileCutsOfEveryShortList(t *testing.T) {
	everyList([]int{leastCut, -1, 0, lastCut}, 6, func(list []int) {
		if len(list) == 0 {
			return
		}
		for k := 2; k <= impl.MaxBins; k++ {
			holdQuantile(t, list, k)
		}
	})
}

func TestQuantileCutsAreRightCuts(t *testing.T) {
	for many := 1; many <= impl.MaxList; many++ {
		for k := 2; k <= impl.MaxBins; k++ {
			for step := range 5 {
				for _, kinds := range []int{1, 2, 3, 5, 20, 1000} {
					holdQuantile(t, mixedList(many, step, -2, kinds), k)
					holdQuantile(t, mixedList(many, step, leastCut, kinds), k)
					holdQuantile(t, mixedList(many, step, lastCut+1-kinds, kinds), k)
				}
				holdQuantile(t, mixedList(many, step, leastCut, lastCut-leastCut+1), k)
			}
		}
	}
}

func TestQuantileCutsOfAnyOrderAreTheSame(t *testing.T) {
	for many := 1; many <= impl.MaxList; many += 3 {
		list := mixedList(many, 1, -9, 19)
		for k := 2; k <= impl.MaxBins; k++ {
			want := impl.QuantileCuts(impl.Sorted(list), k)
			turned := slices.Clone(list)
			for range list {
				turned = append(turned[1:], turned[0])
				if got := impl.QuantileCuts(turned, k); !slices.Equal(got, want) {
					t.Errorf("QuantileCuts(%v, %d) = %v, not %v", turned, k, got, want)
				}
			}
			slices.Reverse(turned)
			if got := impl.QuantileCuts(turned, k); !slices.Equal(got, want) {
				t.Errorf("QuantileCuts(%v, %d) = %v, not %v", turned, k, got, want)
			}
		}
	}
}

func TestNumbersAllAlikeGiveOneCut(t *testing.T) {
	for many := 1; many <= impl.MaxList; many++ {
		for _, n := range []int{leastCut, -1, 0, 1, lastCut} {
			for k := 2; k <= impl.MaxBins; k++ {
				if got := impl.QuantileCuts(slices.Repeat([]int{n}, many), k); !slices.Equal(got, []int{n}) {
					t.Errorf("QuantileCuts of %d times %d and %d = %v", many, n, k, got)
				}
			}
		}
	}
}

func refusedByQuantileCuts(t *testing.T, list []int, k int) {
	t.Helper()
	if got := impl.QuantileCuts(list, k); len(got) != 0 {
		t.Errorf("QuantileCuts(%d numbers, %d) = %v", len(list), k, got)
	}
}

func TestQuantileCutsOfWrongBinsAreNothing(t *testing.T) {
	for _, k := range wrongBins() {
		for _, list := range someLists() {
			refusedByQuantileCuts(t, list, k)
		}
	}
}

func TestQuantileCutsOfNoneOrTooManyAreNothing(t *testing.T) {
	for k := 2; k <= impl.MaxBins; k++ {
		refusedByQuantileCuts(t, nil, k)
		refusedByQuantileCuts(t, []int{}, k)
		refusedByQuantileCuts(t, []int{1, 2, 3, 4, 5}[:0], k)
		for _, many := range []int{impl.MaxList + 1, impl.MaxList + 2, 2 * impl.MaxList, 256 + 1, 1000, 1<<16 + 1} {
			refusedByQuantileCuts(t, mixedList(many, 1, 3, 1), k)
			refusedByQuantileCuts(t, mixedList(many, 1, -50, 100), k)
		}
		if got := impl.QuantileCuts(mixedList(impl.MaxList, 1, -50, 100), k); len(got) == 0 {
			t.Errorf("QuantileCuts of MaxList numbers and %d are nothing", k)
		}
	}
}

func TestQuantileCutsOfWrongNumbersAreNothing(t *testing.T) {
	for _, many := range []int{1, 2, 3, 4, 5, impl.MaxList - 1, impl.MaxList} {
		for at := range many {
			for _, wrong := range wrongCuts() {
				list := mixedList(many, 1, -50, 100)
				list[at] = wrong
				for k := 2; k <= impl.MaxBins; k++ {
					refusedByQuantileCuts(t, list, k)
				}
			}
		}
	}
}

func TestCutsOkNamedOnes(t *testing.T) {
	for _, cuts := range [][]int{
		{0}, {leastCut}, {lastCut}, {0, 1}, {leastCut, lastCut}, {-1, 0, 1}, {1, 2, 3}, {leastCut, leastCut + 1, leastCut + 2}, {lastCut - 2, lastCut - 1, lastCut}, {leastCut, 0, lastCut},
	} {
		if !impl.CutsOk(cuts) {
			t.Errorf("CutsOk(%v) is false", cuts)
		}
	}
	for _, cuts := range [][]int{
		nil, {}, {1, 2, 3, 4}, {1, 2, 3, 4, 5}, {1, 1}, {2, 1}, {1, 2, 2}, {1, 1, 2}, {1, 3, 2}, {2, 1, 3}, {1, 2, 1}, {0, -1}, {lastCut, lastCut}, {leastCut, leastCut}, {lastCut, leastCut},
		{leastCut - 1}, {lastCut + 1}, {leastCut - 1, 0}, {0, lastCut + 1}, {0, 1, lastCut + 1}, {leastCut - 1, 0, 1}, {math.MinInt}, {math.MaxInt}, {math.MinInt, math.MaxInt}, {math.MaxInt, math.MinInt},
		{0, math.MaxInt}, {math.MaxInt, 0}, {1<<32 + 1}, {1, 1<<32 + 2}, {-1<<32 + 1}, mixedList(impl.MaxList, 1, 0, 100), mixedList(1000, 1, 0, 100),
	} {
		if impl.CutsOk(cuts) {
			t.Errorf("CutsOk(%v) is true", cuts)
		}
	}
}

func TestCutsOkIsAttrOkOfANumericOne(t *testing.T) {
	numbers := []int{math.MinInt, leastCut - 1, leastCut, -1, 0, lastCut, lastCut + 1, math.MaxInt}
	everyList(numbers, 4, func(cuts []int) {
		right := len(cuts) >= 1 && len(cuts) <= 3
		for i, c := range cuts {
			right = right && c >= leastCut && c <= lastCut && (i == 0 || cuts[i-1] < c)
		}
		if got := impl.CutsOk(cuts); got != right || got != impl.AttrOk(numeric("a", cuts...)) || got != impl.AttrOk(numeric(longWord, cuts...)) {
			t.Errorf("CutsOk(%v) = %v", cuts, got)
		}
	})
}

// askAllOfCuts calls every function of the chapter that takes a list, and spoils what it answers.
func askAllOfCuts(list []int) {
	impl.BinOf(list, 0)
	impl.CutsOk(list)
	spoil(impl.Sorted(list))
	for k := 1; k <= impl.MaxBins+1; k++ {
		spoil(impl.QuantileCuts(list, k))
	}
}

func TestCutsArgumentsStayAsTheyWere(t *testing.T) {
	for _, list := range someLists() {
		whole := append(slices.Clone(list), limbsOf(77, 70)...)
		kept := slices.Clone(whole)
		askAllOfCuts(whole[:len(list)])
		if !slices.Equal(whole, kept) {
			t.Errorf("a list of %d numbers, or the room behind it, was written into", len(list))
		}
		tight := slices.Clip(slices.Clone(list))
		askAllOfCuts(tight)
		if !slices.Equal(tight, list) {
			t.Errorf("a list of %d numbers was written into", len(list))
		}
	}
}

func TestSpareRoomBehindAListIsNotAsked(t *testing.T) {
	list := []int{3, 1, 2, -9, math.MaxInt, 0}
	if got := impl.BinOf(list[:3], 3); got != 2 {
		t.Errorf("BinOf = %d", got)
	}
	if got := impl.Sorted(list[:3]); !slices.Equal(got, []int{1, 2, 3}) {
		t.Errorf("Sorted = %v", got)
	}
	if got := impl.QuantileCuts(list[:3], 4); !slices.Equal(got, []int{1, 2, 3}) {
		t.Errorf("QuantileCuts = %v", got)
	}
	if !impl.CutsOk(list[1:3]) {
		t.Error("CutsOk is false")
	}
}

func TestCutsAnswersAreNewMemory(t *testing.T) {
	ask := []func() []int{
		func() []int { return impl.Sorted([]int{3, 1, 2}) },
		func() []int { return impl.Sorted([]int{1, 2, 3}) },
		func() []int { return impl.EqualCuts(0, 4, 4) },
		func() []int { return impl.QuantileCuts([]int{3, 1, 2}, 4) },
		func() []int { return impl.QuantileCuts([]int{1, 2, 3}, 4) },
	}
	for i, f := range ask {
		first, second := f(), f()
		spoil(first)
		if third := f(); !slices.Equal(second, []int{1, 2, 3}) || !slices.Equal(third, []int{1, 2, 3}) {
			t.Errorf("of question %d answers turned with an earlier one: %v, %v", i, second, third)
		}
	}
}
