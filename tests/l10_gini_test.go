package tests

import (
	"math"
	"math/big"
	"slices"
	"testing"

	"loop.example/g00477/impl"
)

// Promise 10: no question takes away less than nothing, nor more than there is; with a branch for each bin it tells no less than with two.

// nought is what is told of a question that tells nothing; of a wrong one impl.Frac{} is told.
func nought() impl.Frac { return frac(0, 1) }

func sumOf(list []int) int {
	sum := 0
	for _, n := range list {
		sum += n
	}
	return sum
}

// impurityBy is told beside the program: one less the square of each share.
func impurityBy(list []int) *big.Rat {
	all := sumOf(list)
	if all == 0 {
		return new(big.Rat)
	}
	left := big.NewRat(1, 1)
	for _, n := range list {
		share := ratOf(frac(n, all))
		left.Sub(left, share.Mul(share, share))
	}
	return left
}

// branchesBy is the weight by class in each branch of a right fork, by right counts with cells.
func branchesBy(s impl.Schema, st impl.Stats, f impl.Fork) [][]int {
	lists := make([][]int, sidesOf(s, f))
	for i := range lists {
		lists[i] = make([]int, len(s.Classes))
	}
	for place, weight := range st.Cells[f.Attr] {
		lists[sideOf(s, f, place/len(s.Classes))][place%len(s.Classes)] += weight
	}
	return lists
}

// allOf is the weight by class of all branches.
func allOf(lists [][]int) []int {
	all := make([]int, len(lists[0]))
	for _, list := range lists {
		for class, weight := range list {
			all[class] += weight
		}
	}
	return all
}

// meritBy is told beside the program: the impurity of all, less that of each branch by its share.
func meritBy(lists [][]int) *big.Rat {
	all := allOf(lists)
	merit := impurityBy(all)
	for _, list := range lists {
		if weight := sumOf(list); weight > 0 {
			part := impurityBy(list)
			merit.Sub(merit, part.Mul(part, ratOf(frac(weight, sumOf(all)))))
		}
	}
	return merit
}

// isRat asks for lowest terms too.
func isRat(a impl.Frac, want *big.Rat) bool {
	return bigInt(a.Num).Cmp(want.Num()) == 0 && bigInt(a.Den).Cmp(want.Denom()) == 0
}

func TestSquaresAndGiniOfNamedLists(t *testing.T) {
	for _, c := range []struct {
		list    []int
		squares int
		gini    impl.Frac
	}{
		{nil, 0, nought()}, {[]int{}, 0, nought()}, {[]int{5, 6}[:0], 0, nought()}, {[]int{0}, 0, nought()}, {[]int{0, 0}, 0, nought()}, {[]int{0, 0, 0}, 0, nought()},
		{[]int{1}, 1, nought()}, {[]int{7}, 49, nought()}, {[]int{0, 7}, 49, nought()}, {[]int{0, 7, 0}, 49, nought()}, {[]int{999}, 998001, nought()}, {[]int{0, 0, 999}, 998001, nought()},
		{[]int{2, 2}, 8, frac(1, 2)}, {[]int{1, 1}, 2, frac(1, 2)}, {[]int{1, 3}, 10, frac(3, 8)}, {[]int{3, 1, 0}, 10, frac(3, 8)}, {[]int{1, 2}, 5, frac(4, 9)}, {[]int{1, 2, 3}, 14, frac(11, 18)}, {[]int{1, 1, 1}, 3, frac(2, 3)},
		{[]int{998, 1}, 996005, frac(1996, 998001)}, {[]int{999, 1}, 998002, frac(999, 500000)}, {[]int{500, 499}, 499001, frac(499000, 998001)}, {[]int{999, 999}, 1996002, frac(1, 2)}, {[]int{999, 0, 999}, 1996002, frac(1, 2)},
		{[]int{999, 999, 999}, 2994003, frac(2, 3)}, {[]int{999, 998, 997}, 2988014, frac(2988011, 4482018)}, {[]int{999, 999, 1}, 1996003, frac(1999998, 3996001)},
	} {
		if got := impl.Squares(c.list); got != c.squares {
			t.Errorf("Squares(%v) = %d, not %d", c.list, got, c.squares)
		}
		if got := impl.Gini(c.list); got != c.gini {
			t.Errorf("Gini(%v) = %v, not %v", c.list, got, c.gini)
		}
	}
}

func refusedList(t *testing.T, list []int) {
	t.Helper()
	if impl.Squares(list) != -1 || impl.Gini(list) != (impl.Frac{}) {
		t.Errorf("%.60v: %d, %v", list, impl.Squares(list), impl.Gini(list))
	}
}

// holdList holds a list of right or wrong numbers against what is told beside the program.
func holdList(t *testing.T, list []int) {
	t.Helper()
	squares := 0
	for _, n := range list {
		if len(list) > impl.MaxClasses || n < 0 || n > 999 {
			refusedList(t, list)
			return
		}
		squares += n * n
	}
	if impl.Squares(list) != squares || !isRat(impl.Gini(list), impurityBy(list)) {
		t.Errorf("%v: %d, %v", list, impl.Squares(list), impl.Gini(list))
	}
}

func TestSquaresAndGiniOfEveryShortList(t *testing.T) {
	for many := range impl.MaxClasses + 3 {
		everyNumbers(many, -1, 4, func(list []int) { holdList(t, list) })
	}
	everyList([]int{-1, 0, 1, 998, 999, 1000}, impl.MaxClasses+1, func(list []int) { holdList(t, list) })
	for a := range impl.MaxWeight + 1 {
		for _, list := range [][]int{{a}, {a, 999 - a}, {a, 1}, {999, a}, {a, 999, 999}, {a, a, a}, {1, 999 - a, a}} {
			holdList(t, list)
		}
	}
}

func TestTooLongListsHaveNoSquares(t *testing.T) {
	for _, many := range []int{4, 5, 6, 100, 256, 257, 259, 65536, 65539} {
		refusedList(t, limbsOf(0, many))
		refusedList(t, limbsOf(1, many))
		refusedList(t, limbsOf(-1, many))
	}
	if room := []int{1, 2, 3, 4, -5}; impl.Squares(room[:3]) != 14 || impl.Gini(room[:3]) != frac(11, 18) || impl.Squares(room[3:4]) != 16 {
		t.Error("the room behind a list is asked")
	}
}

func TestWrongNumbersHaveNoSquares(t *testing.T) {
	wrong := append(greatNumbers(), -1, -2, -999, -1000, 1000, 1001, 1024, 1<<8+1000, 1<<16+1, 1<<32+999)
	for _, n := range wrong {
		for _, list := range [][]int{{n}, {n, 0}, {0, n}, {n, 5, 6}, {5, n, 6}, {5, 6, n}, {n, n}, {n, n, n}, {n, -n}, {n, -n, 1}, {999, 999, n}, {0, 0, 0, n}} {
			refusedList(t, list)
		}
	}
}

func TestImpurityInAnotherOrderIsTheSame(t *testing.T) {
	for _, list := range [][]int{{0, 1, 2}, {5, 5, 1}, {999, 1, 0}, {333, 334, 332}, {7, 100, 892}, {999, 998, 1}, {1, 1, 998}} {
		want := impl.Gini(list)
		for _, order := range [][]int{{0, 1, 2}, {0, 2, 1}, {1, 0, 2}, {1, 2, 0}, {2, 0, 1}, {2, 1, 0}} {
			turned := []int{list[order[0]], list[order[1]], list[order[2]]}
			if impl.Gini(turned) != want || impl.Squares(turned) != impl.Squares(list) {
				t.Errorf("Gini(%v) = %v, of %v it is %v", turned, impl.Gini(turned), list, want)
			}
		}
	}
}

func TestImpurityOfManyTimesAsMuchIsTheSame(t *testing.T) {
	for many := 1; many <= impl.MaxClasses; many++ {
		everyNumbers(many, 0, 5, func(list []int) {
			for _, by := range []int{2, 3, 100, 199} {
				more := slices.Clone(list)
				for i := range more {
					more[i] *= by
				}
				if impl.Gini(more) != impl.Gini(list) || impl.Squares(more) != by*by*impl.Squares(list) {
					t.Errorf("Gini(%v) = %v, of %v it is %v", more, impl.Gini(more), list, impl.Gini(list))
				}
			}
		})
	}
}

// TestImpurityIsNoughtOfOneClassAlone asks that it is greatest where all classes weigh the same.
func TestImpurityIsNoughtOfOneClassAlone(t *testing.T) {
	for many := 1; many <= impl.MaxClasses; many++ {
		most := frac(many-1, many)
		everyNumbers(many, 0, 9, func(list []int) {
			got := impl.Gini(list)
			some := 0
			for _, n := range list {
				some += min(n, 1)
			}
			if (got == nought()) != (some <= 1) || impl.FracCmp(got, most) > 0 {
				t.Fatalf("Gini(%v) = %v", list, got)
			}
			if alike := slices.Min(list) == slices.Max(list); some == many && alike != (got == most) {
				t.Fatalf("Gini(%v) = %v, the greatest is %v", list, got, most)
			}
		})
	}
}

// holdMerit holds what a question takes away against what is told beside the program, nothing, and all that there is.
func holdMerit(t *testing.T, s impl.Schema, st impl.Stats, f impl.Fork) impl.Frac {
	t.Helper()
	lists := branchesBy(s, st, f)
	got := impl.Merit(s, st, f)
	if want := meritBy(lists); !isRat(got, want) {
		t.Fatalf("%q: Merit(%v, %v) = %v, not %v", impl.SchemaText(s), st, f, got, want)
	}
	if impl.FracCmp(got, nought()) < 0 || impl.FracCmp(got, impl.Gini(allOf(lists))) > 0 {
		t.Fatalf("%q: Merit(%v, %v) = %v, there is %v", impl.SchemaText(s), st, f, got, impl.Gini(allOf(lists)))
	}
	if many := impl.Merit(s, st, fork(f.Attr, -1)); impl.FracCmp(many, got) < 0 {
		t.Fatalf("%q, %v: with a branch for each bin it tells %v, %v tells %v", impl.SchemaText(s), st, many, f, got)
	}
	return got
}

func TestMeritOfNamedCounts(t *testing.T) {
	s := mustSchema(t, twoAttrs)
	half := frac(1, 2)
	for _, c := range []struct {
		st     impl.Stats
		merits []impl.Frac // of each fork of forksOfTwo
	}{
		// The first attribute tells all that there is, the other one nothing.
		{counts([]int{4, 4}, []int{4, 0, 0, 4, 0, 0}, []int{2, 2, 2, 2}), []impl.Frac{half, half, nought(), nought(), nought(), nought()}},
		// A part of the first attribute is in another bin; of the other one the second bin has no weight.
		{counts([]int{4, 4}, []int{2, 0, 0, 4, 2, 0}, []int{4, 4, 0, 0}), []impl.Frac{half, frac(1, 6), frac(1, 6), nought(), nought(), nought()}},
		// Some weight is missing in both attributes.
		{counts([]int{10, 20}, []int{1, 2, 0, 7, 5, 10}, []int{4, 0, 2, 15}), []impl.Frac{frac(28, 625), frac(49, 20625), frac(49, 1875), frac(200, 833), frac(200, 833), frac(200, 833)}},
	} {
		for i, f := range forksOfTwo() {
			if got := holdMerit(t, s, c.st, f.fork); got != c.merits[i] {
				t.Errorf("%v: Merit of %s is %v, not %v", c.st, f.text, got, c.merits[i])
			}
		}
	}
}

func TestMeritOfWhatWasAdded(t *testing.T) {
	for seed, s := range rowSchemas(t) {
		for _, many := range []int{0, 1, 2, 3, 5, 10, 60, impl.MaxWeight / impl.MaxUnit} {
			list := mixedGiven(s, many, seed+many)
			st := addAll(t, s, impl.StatsNew(s), list)
			everyFork(s, func(f impl.Fork) {
				var lists [][]int
				for i := range sidesOf(s, f) {
					lists = append(lists, totalsBy(s, list, f, i))
				}
				if got := holdMerit(t, s, st, f); !isRat(got, meritBy(lists)) {
					t.Errorf("%q, %v: Merit(%v) = %v", impl.SchemaText(s), list, f, got)
				}
			})
			holdBest(t, s, st)
		}
	}
}

// TestMeritOfEverySmallCount asks all counts of one attribute with such small cells, with nothing missing and with something.
func TestMeritOfEverySmallCount(t *testing.T) {
	for text, high := range map[string]int{"a:0|x,y": 4, "a=p,q|x,y": 4, "a:0|x,y,z": 2, "a:0,1|x,y": 2, "a=p,q,r|x,y": 2, "a:0,1,2|x,y": 1, "a=p,q,r,s|x,y": 1, "a=p,q,r|x,y,z": 1} {
		s := mustSchema(t, text)
		everyNumbers(binsOf(s.Attrs[0])*len(s.Classes), 0, high, func(cells []int) {
			st := counts(make([]int, len(s.Classes)), slices.Clone(cells))
			for place, weight := range cells {
				st.Totals[place%len(s.Classes)] += weight
			}
			everyFork(s, func(f impl.Fork) { holdMerit(t, s, st, f) })
			holdBest(t, s, st)
			more := statsClone(st)
			more.Totals[0] += 5
			more.Totals[1]++
			everyFork(s, func(f impl.Fork) {
				if impl.Merit(s, more, f) != impl.Merit(s, st, f) {
					t.Fatalf("%q: what is missing in %v has a part in %v: %v", text, more, f, impl.Merit(s, more, f))
				}
			})
		})
	}
}

// TestMeritOfGreatDenominators asks branches whose weights have no divisor alike: the denominators come near MaxDen.
func TestMeritOfGreatDenominators(t *testing.T) {
	two, three := mustSchema(t, "a:0,1,2;b=w,x,y,z|x,y"), mustSchema(t, "a:0,1,2;b=w,x,y,z|x,y,z")
	for _, c := range []struct {
		schema impl.Schema
		cells  []int
		den    int // of the question with a branch for each bin
	}{
		{two, []int{27, 221, 157, 94, 130, 123, 243, 4}, 1941081889201884}, {three, []int{89, 70, 89, 8, 26, 217, 239, 6, 8, 59, 75, 113}, 1941081889201884}, {three, []int{139, 95, 14, 149, 66, 36, 240, 9, 4, 25, 159, 63}, 1941081889201884},
	} {
		cells := slices.Clone(c.cells)
		for range 2 {
			st := counts(make([]int, len(c.schema.Classes)), cells, cells)
			for place, weight := range cells {
				st.Totals[place%len(st.Totals)] += weight
			}
			if got := impl.Merit(c.schema, st, fork(0, -1)); got.Den != c.den || impl.StatsTotal(c.schema, st) != impl.MaxWeight {
				t.Errorf("%v: %v", st, got)
			}
			everyFork(c.schema, func(f impl.Fork) { holdMerit(t, c.schema, st, f) })
			holdBest(t, c.schema, st)
			slices.Reverse(cells)
		}
	}
}

// TestMeritOfFullCounts lays all of MaxWeight into four bins, in ways that come from a short rule.
func TestMeritOfFullCounts(t *testing.T) {
	for _, text := range []string{"a:0,1,2;b=w,x,y,z|x,y", "a:0,1,2;b=w,x,y,z|x,y,z"} {
		s := mustSchema(t, text)
		for step := range 200 {
			cells := mixedList(4*len(s.Classes), step, 0, 999/(4*len(s.Classes)))
			cells[step%len(cells)] += impl.MaxWeight - sumOf(cells)
			st := counts(make([]int, len(s.Classes)), cells, slices.Clone(cells))
			for place, weight := range cells {
				st.Totals[place%len(st.Totals)] += weight
			}
			everyFork(s, func(f impl.Fork) { holdMerit(t, s, st, f) })
			holdBest(t, s, st)
		}
	}
}

func TestMeritOfWhatTellsNothing(t *testing.T) {
	for _, s := range rowSchemas(t) {
		totals := make([]int, len(s.Classes))
		totals[1] = 999
		// Nothing is counted, every bin is missing, and one class is alone.
		for _, st := range append(startingAt(s, make([]int, len(totals)))[1:], startingAt(s, totals)[1:]...) {
			everyFork(s, func(f impl.Fork) {
				if got := holdMerit(t, s, st, f); got != nought() {
					t.Errorf("%q: Merit(%v, %v) = %v", impl.SchemaText(s), st, f, got)
				}
			})
			holdBest(t, s, st)
		}
		totals[0], totals[1] = 400, 500
		for _, st := range startingAt(s, totals)[1:] {
			// All branches but one have no weight, and there is something to tell.
			everyFork(s, func(f impl.Fork) {
				if got := holdMerit(t, s, st, f); got != nought() {
					t.Errorf("%q: Merit(%v, %v) = %v", impl.SchemaText(s), st, f, got)
				}
			})
			holdBest(t, s, st)
		}
	}
}

// TestAQuestionThatTellsAllTakesAllAway puts each class into bins of its own.
func TestAQuestionThatTellsAllTakesAllAway(t *testing.T) {
	s := mustSchema(t, "a:0,1,2;b=w,x,y,z|x,y,z")
	for _, w := range [][3]int{{1, 1, 1}, {333, 333, 333}, {1, 2, 3}, {997, 1, 1}, {500, 499, 0}, {20, 300, 4}} {
		own := []int{0, w[1], 0, w[0], 0, 0, 0, 0, 0, 0, 0, w[2]}
		st := counts(w[:], own, own)
		for attr := range s.Attrs {
			if got := holdMerit(t, s, st, fork(attr, -1)); got != impl.Gini(w[:]) {
				t.Errorf("%v: Merit = %v, there is %v", st, got, impl.Gini(w[:]))
			}
		}
	}
}

func TestWhatIsMissingHasNoPart(t *testing.T) {
	s := mustSchema(t, twoAttrs)
	list := mixedGiven(s, 60, 12)
	st := addAll(t, s, impl.StatsNew(s), list)
	for attr := range s.Attrs {
		var here []given
		for _, g := range list {
			if g.ex.Bins[attr] != -1 {
				here = append(here, g)
			}
		}
		alone := addAll(t, s, impl.StatsNew(s), here)
		if impl.StatsSame(alone, st) {
			t.Errorf("nothing is missing of %v", list)
		}
		for at := -1; at < twoSided(s.Attrs[attr]); at++ {
			if a, b := impl.Merit(s, st, fork(attr, at)), impl.Merit(s, alone, fork(attr, at)); a != b || a == nought() {
				t.Errorf("Merit(%v) = %v, without what is missing %v", fork(attr, at), a, b)
			}
		}
		for _, two := range []bool{false, true} {
			f, m := impl.BestOf(s, st, attr, two)
			if g, n := impl.BestOf(s, alone, attr, two); f != g || m != n {
				t.Errorf("BestOf(%d, %v) = %v, %v, without what is missing %v, %v", attr, two, f, m, g, n)
			}
		}
	}
}

// bestBy goes through all that may be asked: the first one that no other one is above.
func bestBy(s impl.Schema, st impl.Stats, attr int, two bool) (impl.Fork, *big.Rat) {
	forks := candidatesBy(s, []int{attr}, two)
	merit := func(f impl.Fork) *big.Rat { return meritBy(branchesBy(s, st, f)) }
	best := slices.IndexFunc(forks, func(f impl.Fork) bool {
		return !slices.ContainsFunc(forks, func(g impl.Fork) bool { return merit(g).Cmp(merit(f)) > 0 })
	})
	return forks[best], merit(forks[best])
}

func holdBest(t *testing.T, s impl.Schema, st impl.Stats) {
	t.Helper()
	for attr := range s.Attrs {
		for _, two := range []bool{false, true} {
			want, most := bestBy(s, st, attr, two)
			f, m := impl.BestOf(s, st, attr, two)
			if f != want || !isRat(m, most) || m != impl.Merit(s, st, f) {
				t.Fatalf("%q: BestOf(%v, %d, %v) = %v, %v, not %v, %v", impl.SchemaText(s), st, attr, two, f, m, want, most)
			}
		}
	}
}

func TestBestOfNamedCounts(t *testing.T) {
	s := mustSchema(t, "a:0,1,2;b=w,x,y,z|x,y")
	for _, c := range []struct {
		cells []int
		a     impl.Fork // of the first attribute
		merit impl.Frac
		b     impl.Fork // of the second one, with two answers
		two   impl.Frac
		each  impl.Frac // of the second one, with a branch for each bin
	}{
		{[]int{3, 0, 3, 0, 0, 3, 0, 3}, fork(0, 1), frac(1, 2), fork(1, 0), frac(1, 6), frac(1, 2)},
		{[]int{3, 0, 0, 3, 0, 0, 0, 0}, fork(0, 0), frac(1, 2), fork(1, 0), frac(1, 2), frac(1, 2)},
		{[]int{0, 0, 0, 0, 3, 0, 0, 3}, fork(0, 2), frac(1, 2), fork(1, 2), frac(1, 2), frac(1, 2)},
		{[]int{0, 0, 3, 0, 0, 0, 0, 3}, fork(0, 1), frac(1, 2), fork(1, 1), frac(1, 2), frac(1, 2)},
		{[]int{2, 0, 0, 2, 2, 0, 0, 2}, fork(0, 0), frac(1, 6), fork(1, 0), frac(1, 6), frac(1, 2)},
		{[]int{1, 1, 1, 1, 1, 1, 1, 1}, fork(0, 0), nought(), fork(1, 0), nought(), nought()},
		{[]int{0, 0, 0, 0, 0, 0, 0, 0}, fork(0, 0), nought(), fork(1, 0), nought(), nought()},
		{[]int{1, 1, 1, 1, 1, 1, 4, 0}, fork(0, 2), frac(3, 25), fork(1, 3), frac(3, 25), frac(3, 25)},
		{[]int{5, 5, 0, 5, 5, 5, 5, 5}, fork(0, 1), frac(2, 147), fork(1, 1), frac(3, 49), frac(3, 49)},
	} {
		st := counts([]int{400, 500}, c.cells, slices.Clone(c.cells))
		for _, two := range []bool{false, true} {
			if f, m := impl.BestOf(s, st, 0, two); f != c.a || m != c.merit {
				t.Errorf("%v: BestOf(0, %v) = %v, %v", c.cells, two, f, m)
			}
		}
		if f, m := impl.BestOf(s, st, 1, true); f != c.b || m != c.two {
			t.Errorf("%v: BestOf(1, true) = %v, %v", c.cells, f, m)
		}
		if f, m := impl.BestOf(s, st, 1, false); f != fork(1, -1) || m != c.each {
			t.Errorf("%v: BestOf(1, false) = %v, %v", c.cells, f, m)
		}
		holdBest(t, s, st)
	}
}

// refusedMerits asks for each fork, right or not, and each attribute.
func refusedMerits(t *testing.T, s impl.Schema, st impl.Stats) {
	t.Helper()
	for attr := -1; attr <= len(s.Attrs); attr++ {
		for at := -2; at <= impl.MaxBins; at++ {
			refusedMerit(t, s, st, fork(attr, at))
		}
		refusedBest(t, s, st, attr)
	}
}

func refusedMerit(t *testing.T, s impl.Schema, st impl.Stats, f impl.Fork) {
	t.Helper()
	if got := impl.Merit(s, st, f); got != (impl.Frac{}) {
		t.Errorf("%.80q: Merit(%.80v, %v) = %v", impl.SchemaText(s), st, f, got)
	}
}

func refusedBest(t *testing.T, s impl.Schema, st impl.Stats, attr int) {
	t.Helper()
	for _, two := range []bool{false, true} {
		if f, m := impl.BestOf(s, st, attr, two); f != (impl.Fork{}) || m != (impl.Frac{}) {
			t.Errorf("%.80q: BestOf(%.80v, %d, %v) = %v, %v", impl.SchemaText(s), st, attr, two, f, m)
		}
	}
}

func TestMeritOfWrongSchemasIsRefused(t *testing.T) {
	for _, s := range wrongSchemas() {
		st := impl.Stats{Totals: make([]int, len(s.Classes))}
		for _, a := range s.Attrs {
			st.Cells = append(st.Cells, make([]int, binsOf(a)*len(s.Classes)))
		}
		refusedMerits(t, s, st)
		refusedMerits(t, s, impl.Stats{})
	}
}

func TestMeritOfWrongAndThinCountsIsRefused(t *testing.T) {
	s := mustSchema(t, twoAttrs)
	totals, six, four := []int{5, 3}, []int{1, 0, 2, 3, 2, 0}, []int{0, 1, 5, 2}
	holdMerit(t, s, counts(totals, six, four), fork(0, 0))
	holdBest(t, s, counts(totals, six, four))
	for _, st := range []impl.Stats{
		{}, counts(totals), counts([]int{0, 0}), {Totals: totals, Cells: [][]int{}}, {Totals: totals, Cells: [][]int{six, four}[:0]}, counts(nil, six, four), counts([]int{5}, six, four), counts([]int{5, 3, 0}, six, four),
		counts([]int{5, 2}, six, four), counts([]int{997, 3}, six, four), counts([]int{-5, 3}, six, four), counts([]int{math.MaxInt, math.MaxInt}, six, four), counts([]int{math.MinInt, math.MinInt}, six, four),
		counts(totals, six), counts(totals, four), counts(totals, four, six), counts(totals, six, four, four), counts(totals, nil, nil), counts(totals, six, nil), counts(totals, nil, four), counts(totals, six[:5], four), counts(totals, six, four[:3]),
		counts(totals, append(slices.Clone(six), 0), four), counts(totals, six, append(slices.Clone(four), 0, 0)), counts(totals, six, []int{0, 1, 5, 3}), counts(totals, []int{2, 0, 2, 3, 2, 0}, four),
		counts(totals, six, []int{0, -1, 5, 2}), counts(totals, []int{1, 0, 2, 3, -2, 0}, four), counts(totals, six, []int{math.MaxInt, 0, math.MaxInt, 0}), counts(totals, []int{math.MinInt, 0, 2, 3, 2, 0}, four),
	} {
		refusedMerits(t, s, st)
	}
	for _, s := range rowSchemas(t) {
		refusedMerits(t, s, impl.Thin(statsOf(s, mixedGiven(s, 30, 4), false)))
	}
}

func TestMeritOfWrongForksIsRefused(t *testing.T) {
	for seed, s := range rowSchemas(t) {
		st := statsOf(s, mixedGiven(s, 30, seed), false)
		for _, attr := range append(noPlaces(len(s.Attrs)), -1) {
			for _, at := range []int{-1, 0, 1, 2, 3, -2, 4, attr, math.MaxInt, math.MinInt} {
				refusedMerit(t, s, st, fork(attr, at))
			}
			refusedBest(t, s, st, attr)
		}
		for attr, a := range s.Attrs {
			for _, at := range noPlaces(twoSided(a)) {
				refusedMerit(t, s, st, fork(attr, at))
			}
		}
	}
}

// TestMeritAmongOtherSchemas asks each schema for counts and questions that are right of another one.
func TestMeritAmongOtherSchemas(t *testing.T) {
	all := rowSchemas(t)
	for _, s := range all {
		for _, other := range all {
			st := statsOf(other, mixedGiven(other, 20, 7), false)
			if !statsRight(s, st) {
				refusedMerits(t, s, st)
				continue
			}
			everyFork(other, func(f impl.Fork) {
				if f.Attr < len(s.Attrs) && f.At < twoSided(s.Attrs[f.Attr]) {
					holdMerit(t, s, st, f)
				} else {
					refusedMerit(t, s, st, f)
				}
			})
			holdBest(t, s, st)
		}
	}
}

func TestMeritArgumentsStayAsTheyWere(t *testing.T) {
	for _, text := range []string{twoAttrs, fiveAttrs} {
		plain := mustSchema(t, text)
		want := statsOf(plain, mixedGiven(plain, 30, 3), false)
		s, st := roomy(plain), roomyStats(want)
		for attr := -1; attr <= len(s.Attrs); attr++ {
			for at := -2; at <= 5; at++ {
				if impl.Merit(s, st, fork(attr, at)) != impl.Merit(plain, want, fork(attr, at)) {
					t.Errorf("Merit(%v, %v) asks the room behind a list", st, fork(attr, at))
				}
			}
			for _, two := range []bool{false, true} {
				f, m := impl.BestOf(s, st, attr, two)
				if g, n := impl.BestOf(plain, want, attr, two); f != g || m != n {
					t.Errorf("BestOf(%v, %d, %v) asks the room behind a list", st, attr, two)
				}
			}
		}
		impl.Squares(st.Totals)
		impl.Gini(st.Totals)
		if !schemaIs(s, plain) || !slices.Equal(behind(s.Classes), []string{"spare", "room"}) || behind(s.Attrs)[0].Name != "spare" || behind(s.Attrs)[1].Name != "room" {
			t.Errorf("the schema became %v", s)
		}
		if !statsIs(st, want) || !roomStands(st) {
			t.Errorf("%v became %v", want, st)
		}
	}
}
