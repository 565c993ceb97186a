package tests

import (
	"math"
	"math/big"
	"slices"
	"testing"

	"loop.example/g00477/impl"
)

// Promise 11: the first question is as good as any that may be asked.

func ranked(f impl.Fork, merit impl.Frac) impl.Ranked { return impl.Ranked{Fork: f, Merit: merit} }

// forkPairs are forks that stand ahead of, level with and behind each other by their places, right ones and others.
func forkPairs() [][2]impl.Fork {
	var list [][2]impl.Fork
	all := []impl.Fork{{}, fork(0, -1), fork(1, 0), fork(4, 2), fork(-1, -5), fork(math.MaxInt, math.MinInt)}
	for _, f := range all {
		for _, g := range all {
			list = append(list, [2]impl.Fork{f, g})
		}
	}
	return list
}

func holdAhead(t *testing.T, a impl.Frac, b impl.Frac, want bool) {
	t.Helper()
	for _, f := range forkPairs() {
		if got := impl.Ahead(ranked(f[0], a), ranked(f[1], b)); got != want {
			t.Fatalf("Ahead(%v of %v, %v of %v) = %v", a, f[0], b, f[1], got)
		}
	}
}

func TestAheadOfEveryPair(t *testing.T) {
	for _, a := range someFracs() {
		for _, b := range someFracs() {
			holdAhead(t, a, b, ratOf(a).Cmp(ratOf(b)) > 0)
		}
	}
}

func TestAheadOfNamedPairs(t *testing.T) {
	const m = impl.MaxDen
	for _, c := range []struct {
		a, b   impl.Frac
		ab, ba bool
	}{
		{frac(1, 2), frac(1, 3), true, false}, {frac(1, 3), frac(1, 2), false, true}, {frac(1, 2), frac(0, 1), true, false}, {frac(5, 4), frac(1, 1), true, false},
		// As little apart as two fractions can be, and as far.
		{frac(m-1, m), frac(m-2, m-1), true, false}, {frac(1, m-1), frac(1, m), true, false}, {frac(m, 1), frac(1, m), true, false}, {frac(m, 1), frac(0, m), true, false},
		// Equal, written alike and not.
		{frac(0, 1), frac(0, 1), false, false}, {frac(1, 2), frac(1, 2), false, false}, {frac(1, 2), frac(2, 4), false, false}, {frac(0, 1), frac(0, 9), false, false}, {frac(0, m), frac(0, 1), false, false},
		{frac(m, m), frac(1, 1), false, false}, {frac(m/2, m), frac(1, 2), false, false}, {frac(6, 4), frac(9, 6), false, false},
	} {
		holdAhead(t, c.a, c.b, c.ab)
		holdAhead(t, c.b, c.a, c.ba)
	}
}

func TestAheadOfTheSameMeritWrittenInTwoWays(t *testing.T) {
	for _, a := range someFracs() {
		for _, by := range []int{1, 2, 3, 1000, 500000000000000} {
			holdAhead(t, a, times(a, by), false)
			holdAhead(t, times(a, by), a, false)
		}
	}
}

func TestWrongMeritsAreNeitherAheadNorBehind(t *testing.T) {
	for _, wrong := range wrongFracs() {
		for _, a := range slices.Concat(wrongFracs(), someFracs()) {
			holdAhead(t, a, wrong, false)
			holdAhead(t, wrong, a, false)
		}
	}
}

// everyAttrs tells each right list of attributes of so many.
func everyAttrs(many int, told func(attrs []int)) {
	for set := 1; set < 1<<many; set++ {
		var attrs []int
		for attr := range many {
			if set>>attr&1 == 1 {
				attrs = append(attrs, attr)
			}
		}
		told(attrs)
	}
}

// bestQuestion is the best one of an attribute, told beside the program.
type bestQuestion struct {
	fork  impl.Fork
	merit *big.Rat
}

func bestOfEach(s impl.Schema, st impl.Stats, two bool) []bestQuestion {
	var list []bestQuestion
	for attr := range s.Attrs {
		f, m := bestBy(s, st, attr, two)
		list = append(list, bestQuestion{f, m})
	}
	return list
}

// rankBy takes again and again the first one that no other one is above.
func rankBy(best []bestQuestion, attrs []int) []bestQuestion {
	left := slices.Clone(attrs)
	var list []bestQuestion
	for len(left) > 0 {
		at := slices.IndexFunc(left, func(a int) bool {
			return !slices.ContainsFunc(left, func(b int) bool { return best[b].merit.Cmp(best[a].merit) > 0 })
		})
		list = append(list, best[left[at]])
		left = slices.Delete(left, at, at+1)
	}
	return list
}

// holdRank holds one rank and its first two against the best questions of the attributes.
func holdRank(t *testing.T, s impl.Schema, st impl.Stats, best []bestQuestion, attrs []int, two bool) {
	t.Helper()
	want := rankBy(best, attrs)
	got := impl.Rank(s, st, attrs, two)
	if len(got) != len(want) {
		t.Fatalf("%q: Rank(%v, %v, %v) = %v", impl.SchemaText(s), st, attrs, two, got)
	}
	for i, r := range got {
		if r.Fork != want[i].fork || !isRat(r.Merit, want[i].merit) {
			t.Fatalf("%q: Rank(%v, %v, %v) = %v, at %d is %v, %v", impl.SchemaText(s), st, attrs, two, got, i, want[i].fork, want[i].merit)
		}
		if f, m := impl.BestOf(s, st, r.Fork.Attr, two); r != ranked(f, m) {
			t.Fatalf("%q, %v, %v: %v is ranked, the best is %v, %v", impl.SchemaText(s), st, two, r, f, m)
		}
	}
	second := nought()
	if len(got) > 1 {
		second = got[1].Merit
	}
	if r, m, ok := impl.FirstTwo(s, st, attrs, two); !ok || r != got[0] || m != second {
		t.Fatalf("%q: FirstTwo(%v, %v, %v) = %v, %v, %v of %v", impl.SchemaText(s), st, attrs, two, r, m, ok, got)
	}
}

// holdFirst asks that nothing that may be asked is above the first question.
func holdFirst(t *testing.T, s impl.Schema, st impl.Stats, attrs []int, two bool) {
	t.Helper()
	first, second, _ := impl.FirstTwo(s, st, attrs, two)
	if impl.FracCmp(first.Merit, second) < 0 {
		t.Fatalf("%q, %v, %v, %v: the second one, %v, is above the first one, %v", impl.SchemaText(s), st, attrs, two, second, first)
	}
	for _, f := range candidatesBy(s, attrs, two) {
		other := ranked(f, impl.Merit(s, st, f))
		if impl.Ahead(other, first) {
			t.Fatalf("%q, %v, %v, %v: %v is ahead of the first one, %v", impl.SchemaText(s), st, attrs, two, other, first)
		}
	}
}

// holdRanks holds every list of attributes, with two answers and without.
func holdRanks(t *testing.T, s impl.Schema, st impl.Stats) {
	t.Helper()
	for _, two := range []bool{false, true} {
		best := bestOfEach(s, st, two)
		everyAttrs(len(s.Attrs), func(attrs []int) {
			holdRank(t, s, st, best, attrs, two)
			holdFirst(t, s, st, attrs, two)
		})
	}
}

func TestRanksOfWhatWasAdded(t *testing.T) {
	for seed, s := range rowSchemas(t) {
		for _, many := range []int{0, 1, 2, 3, 10, 60, impl.MaxWeight / impl.MaxUnit} {
			holdRanks(t, s, addAll(t, s, impl.StatsNew(s), mixedGiven(s, many, seed+many)))
		}
	}
}

// TestRanksWhileExamplesAreAdded asks behind each example: first counts tell equal merits often.
func TestRanksWhileExamplesAreAdded(t *testing.T) {
	for _, text := range []string{twoAttrs, fiveAttrs, "a=x,y;b=x,y;c=x,y|no,yes"} {
		s := mustSchema(t, text)
		st := impl.StatsNew(s)
		for _, g := range mixedGiven(s, 25, 11) {
			st = mustAdd(t, s, st, g)
			holdRanks(t, s, st)
		}
	}
}

// ofLevels has five attributes of two bins; each one's cells tell as much as its level says.
const ofLevels = "a:0;b=x,y;c:5;d=p,q;e:-1|no,yes"

// levelCells are lists of cells by level: the merits of the first two are 1/2, of the third one 1/6, of the others 0/1.
func levelCells(level int) []int {
	switch level {
	case 0:
		return []int{4, 0, 0, 4}
	case 1:
		return []int{0, 2, 2, 0} // the other half is missing
	case 2:
		return []int{4, 2, 0, 2}
	case 3:
		return []int{2, 2, 2, 2}
	}
	return []int{0, 0, 0, 0} // every bin is missing
}

func levelMerit(level int) impl.Frac {
	switch level {
	case 0, 1:
		return frac(1, 2)
	case 2:
		return frac(1, 6)
	}
	return nought()
}

func levelStats(levels []int) impl.Stats {
	st := counts([]int{4, 4})
	for _, level := range levels {
		st.Cells = append(st.Cells, levelCells(level))
	}
	return st
}

// levelRank goes through the merits from the greatest one down, and the attributes ascending.
func levelRank(s impl.Schema, levels []int, attrs []int, two bool) []impl.Ranked {
	var list []impl.Ranked
	for _, merit := range []impl.Frac{frac(1, 2), frac(1, 6), nought()} {
		for _, attr := range attrs {
			at := 0
			if len(s.Attrs[attr].Values) > 0 && !two {
				at = -1
			}
			if levelMerit(levels[attr]) == merit {
				list = append(list, ranked(fork(attr, at), merit))
			}
		}
	}
	return list
}

func TestEqualMeritsStandByAttribute(t *testing.T) {
	s := mustSchema(t, ofLevels)
	turn := 0
	everyNumbers(5, 0, 4, func(levels []int) {
		st := levelStats(levels)
		turn++
		for _, two := range []bool{false, true} {
			for _, attrs := range [][]int{{0, 1, 2, 3, 4}, {turn % 4, 4}, {turn % 2, 2 + turn%3}} {
				want := levelRank(s, levels, attrs, two)
				if got := impl.Rank(s, st, attrs, two); !slices.Equal(got, want) {
					t.Fatalf("Rank(%v, %v, %v) = %v, not %v", st, attrs, two, got, want)
				}
				if first, second, ok := impl.FirstTwo(s, st, attrs, two); !ok || first != want[0] || second != want[1].Merit {
					t.Fatalf("FirstTwo(%v, %v, %v) = %v, %v, %v", st, attrs, two, first, second, ok)
				}
			}
		}
	})
}

func TestRankOfNamedCounts(t *testing.T) {
	s := mustSchema(t, "age:-3,10;colour=red,blue,green;k=x,y|no,yes")
	// The first attribute's two cuts tell the same part, its first one stands for both; the second one tells all, by blue alone too.
	st := counts([]int{4, 4}, []int{4, 2, 0, 0, 0, 2}, []int{2, 0, 0, 4, 2, 0}, []int{3, 0, 1, 4})
	for _, c := range []struct {
		attrs []int
		two   bool
		want  []impl.Ranked
	}{
		{[]int{0, 1, 2}, false, []impl.Ranked{ranked(fork(1, -1), frac(1, 2)), ranked(fork(2, -1), frac(3, 10)), ranked(fork(0, 0), frac(1, 6))}},
		{[]int{0, 1, 2}, true, []impl.Ranked{ranked(fork(1, 1), frac(1, 2)), ranked(fork(2, 0), frac(3, 10)), ranked(fork(0, 0), frac(1, 6))}},
		{[]int{0, 2}, true, []impl.Ranked{ranked(fork(2, 0), frac(3, 10)), ranked(fork(0, 0), frac(1, 6))}},
		{[]int{0, 1}, false, []impl.Ranked{ranked(fork(1, -1), frac(1, 2)), ranked(fork(0, 0), frac(1, 6))}},
		{[]int{1, 2}, false, []impl.Ranked{ranked(fork(1, -1), frac(1, 2)), ranked(fork(2, -1), frac(3, 10))}},
		{[]int{0}, false, []impl.Ranked{ranked(fork(0, 0), frac(1, 6))}},
		{[]int{2}, false, []impl.Ranked{ranked(fork(2, -1), frac(3, 10))}},
	} {
		if got := impl.Rank(s, st, c.attrs, c.two); !slices.Equal(got, c.want) {
			t.Errorf("Rank(%v, %v) = %v", c.attrs, c.two, got)
		}
		second := nought()
		if len(c.want) > 1 {
			second = c.want[1].Merit
		}
		if first, m, ok := impl.FirstTwo(s, st, c.attrs, c.two); !ok || first != c.want[0] || m != second {
			t.Errorf("FirstTwo(%v, %v) = %v, %v, %v", c.attrs, c.two, first, m, ok)
		}
	}
	holdRanks(t, s, st)
}

// TestRankOfMeritsHardlyApart has cells of two attributes; the merit of the second one is above that of the first one, by less than 1 in ten thousand millions.
func TestRankOfMeritsHardlyApart(t *testing.T) {
	s := mustSchema(t, "a=w,x,y,z;b=w,x,y,z|x,y")
	for _, c := range [][2][]int{
		{{268, 494, 150, 2, 12, 1, 70, 2}, {139, 66, 166, 11, 69, 272, 126, 150}}, {{369, 334, 17, 28, 26, 53, 88, 84}, {422, 407, 19, 32, 36, 52, 23, 8}},
		{{98, 289, 56, 143, 174, 43, 172, 24}, {218, 69, 137, 30, 91, 371, 54, 29}}, {{24, 425, 73, 69, 183, 3, 220, 2}, {32, 232, 34, 262, 175, 4, 259, 1}},
		{{463, 460, 10, 37, 8, 2, 19, 0}, {332, 397, 30, 41, 18, 5, 120, 56}}, {{172, 149, 142, 232, 171, 84, 15, 34}, {226, 111, 95, 149, 90, 129, 89, 110}},
	} {
		for _, order := range [][2]int{{0, 1}, {1, 0}} {
			st := counts([]int{500, 499}, c[order[0]], c[order[1]])
			got := impl.Rank(s, st, []int{0, 1}, false)
			if len(got) != 2 || got[0].Fork != fork(order[1], -1) || got[1].Fork != fork(order[0], -1) {
				t.Errorf("%v: %v", st, got)
			}
			holdRanks(t, s, st)
		}
	}
}

func TestRankOfWhatTellsNothing(t *testing.T) {
	for _, s := range rowSchemas(t) {
		none, full, mixed := make([]int, len(s.Classes)), make([]int, len(s.Classes)), make([]int, len(s.Classes))
		full[1], mixed[0], mixed[1] = 999, 400, 500
		// Nothing is counted, every bin is missing, one class is alone, and all branches but one have no weight.
		for _, st := range slices.Concat(startingAt(s, none)[1:], startingAt(s, full)[1:], startingAt(s, mixed)[1:]) {
			for _, two := range []bool{false, true} {
				everyAttrs(len(s.Attrs), func(attrs []int) {
					got := impl.Rank(s, st, attrs, two)
					for i, r := range got {
						if want := candidatesBy(s, attrs[i:i+1], two)[0]; r != ranked(want, nought()) {
							t.Fatalf("%q: Rank(%v, %v, %v) = %v", impl.SchemaText(s), st, attrs, two, got)
						}
					}
					first, second, ok := impl.FirstTwo(s, st, attrs, two)
					if len(got) != len(attrs) || !ok || first != got[0] || second != nought() {
						t.Fatalf("%q: FirstTwo(%v, %v, %v) = %v, %v, %v of %v", impl.SchemaText(s), st, attrs, two, first, second, ok, got)
					}
				})
			}
			holdRanks(t, s, st)
		}
	}
}

// TestAnAttributeThatIsMissingTellsNothing empties the cells of each attribute in turn: it stands by its place among those of 0/1.
func TestAnAttributeThatIsMissingTellsNothing(t *testing.T) {
	for seed, s := range rowSchemas(t) {
		st := statsOf(s, mixedGiven(s, 40, seed), false)
		for attr := range s.Attrs {
			missing := statsClone(st)
			clear(missing.Cells[attr])
			holdRanks(t, s, missing)
			for _, two := range []bool{false, true} {
				first, second, ok := impl.FirstTwo(s, missing, []int{attr}, two)
				if want := ranked(candidatesBy(s, []int{attr}, two)[0], nought()); !ok || first != want || second != nought() {
					t.Errorf("%q: FirstTwo(%v, %d, %v) = %v, %v, %v", impl.SchemaText(s), missing, attr, two, first, second, ok)
				}
			}
		}
	}
}

// TestOneAttributeAloneStandsAheadOfTheQuestionThatAsksNothing asks the second merit where the first one is great too.
func TestOneAttributeAloneStandsAheadOfTheQuestionThatAsksNothing(t *testing.T) {
	s := mustSchema(t, ofLevels)
	for level := range 5 {
		st := levelStats(limbsOf(level, 5))
		for attr := range s.Attrs {
			first, second, ok := impl.FirstTwo(s, st, []int{attr}, true)
			if !ok || first != ranked(fork(attr, 0), levelMerit(level)) || second != nought() {
				t.Errorf("%v: FirstTwo of %d alone = %v, %v, %v", st, attr, first, second, ok)
			}
		}
	}
}

func refusedRank(t *testing.T, s impl.Schema, st impl.Stats, attrs []int) {
	t.Helper()
	for _, two := range []bool{false, true} {
		if got := impl.Rank(s, st, attrs, two); len(got) != 0 {
			t.Errorf("%.80q: Rank(%.80v, %.80v, %v) = %v", impl.SchemaText(s), st, attrs, two, got)
		}
		if r, m, ok := impl.FirstTwo(s, st, attrs, two); r != (impl.Ranked{}) || m != (impl.Frac{}) || ok {
			t.Errorf("%.80q: FirstTwo(%.80v, %.80v, %v) = %v, %v, %v", impl.SchemaText(s), st, attrs, two, r, m, ok)
		}
	}
}

// refusedRanks asks for every list of attributes, and for wrong ones.
func refusedRanks(t *testing.T, s impl.Schema, st impl.Stats) {
	t.Helper()
	everyAttrs(min(len(s.Attrs), impl.MaxAttrs)+1, func(attrs []int) { refusedRank(t, s, st, attrs) })
	refusedRank(t, s, st, nil)
	refusedRank(t, s, st, []int{-1})
	refusedRank(t, s, st, []int{1, 0})
}

func TestRankOfWrongSchemasIsRefused(t *testing.T) {
	for _, s := range wrongSchemas() {
		st := impl.Stats{Totals: make([]int, len(s.Classes))}
		for _, a := range s.Attrs {
			st.Cells = append(st.Cells, make([]int, binsOf(a)*len(s.Classes)))
		}
		refusedRanks(t, s, st)
		refusedRanks(t, s, impl.Stats{})
	}
}

func TestRankOfWrongAndThinCountsIsRefused(t *testing.T) {
	s := mustSchema(t, twoAttrs)
	totals, six, four := []int{5, 3}, []int{1, 0, 2, 3, 2, 0}, []int{0, 1, 5, 2}
	holdRanks(t, s, counts(totals, six, four))
	for _, st := range []impl.Stats{
		{}, counts(totals), counts([]int{0, 0}), {Totals: totals, Cells: [][]int{}}, {Totals: totals, Cells: [][]int{six, four}[:0]}, counts(nil, six, four), counts([]int{5}, six, four), counts([]int{5, 3, 0}, six, four),
		counts([]int{5, 2}, six, four), counts([]int{997, 3}, six, four), counts([]int{-5, 3}, six, four), counts([]int{math.MaxInt, math.MaxInt}, six, four), counts([]int{math.MinInt, math.MinInt}, six, four),
		counts(totals, six), counts(totals, four), counts(totals, four, six), counts(totals, six, four, four), counts(totals, nil, nil), counts(totals, six, nil), counts(totals, nil, four), counts(totals, six[:5], four), counts(totals, six, four[:3]),
		// One attribute's cells alone are wrong: a list without it is refused too.
		counts(totals, six, []int{0, 1, 5, 3}), counts(totals, []int{2, 0, 2, 3, 2, 0}, four), counts(totals, six, []int{0, -1, 5, 2}), counts(totals, []int{1, 0, 2, 3, -2, 0}, four),
		counts(totals, six, []int{math.MaxInt, 0, math.MaxInt, 0}), counts(totals, []int{math.MinInt, 0, 2, 3, 2, 0}, four),
	} {
		refusedRanks(t, s, st)
	}
	for _, s := range rowSchemas(t) {
		refusedRanks(t, s, impl.Thin(statsOf(s, mixedGiven(s, 30, 4), false)))
		refusedRanks(t, s, impl.Stats{})
	}
	holdRanks(t, s, counts([]int{996, 3}, six, four))
}

func TestRankOfWrongListsOfAttributesIsRefused(t *testing.T) {
	for seed, s := range rowSchemas(t) {
		st := statsOf(s, mixedGiven(s, 30, seed), false)
		for many := range min(len(s.Attrs), 3) + 2 {
			everyNumbers(many, -1, len(s.Attrs), func(attrs []int) {
				if !attrsRight(s, attrs) {
					refusedRank(t, s, st, attrs)
				}
			})
		}
		all := make([]int, len(s.Attrs))
		for i := range all {
			all[i] = i
		}
		for at := range all {
			for _, wrong := range append(noPlaces(len(all)), -1, len(all), math.MaxInt, math.MinInt) {
				turned := slices.Clone(all)
				turned[at] = wrong
				refusedRank(t, s, st, turned)
				refusedRank(t, s, st, []int{wrong})
			}
			refusedRank(t, s, st, append(slices.Clone(all), at))
			refusedRank(t, s, st, []int{at, at})
		}
		refusedRank(t, s, st, nil)
		refusedRank(t, s, st, []int{})
		refusedRank(t, s, st, all[:0])
		refusedRank(t, s, st, append(slices.Clone(all), len(all)))
		refusedRank(t, s, st, limbsOf(0, 1000))
		refusedRank(t, s, st, append(slices.Clone(all), math.MaxInt, 0))
	}
}

// TestRanksAmongOtherSchemas asks each schema for counts that are right of another one.
func TestRanksAmongOtherSchemas(t *testing.T) {
	all := rowSchemas(t)
	for _, s := range all {
		for _, other := range all {
			if st := statsOf(other, mixedGiven(other, 20, 7), false); statsRight(s, st) {
				holdRanks(t, s, st)
			} else {
				refusedRanks(t, s, st)
			}
		}
	}
}

func TestRankArgumentsStayAsTheyWere(t *testing.T) {
	for _, text := range []string{twoAttrs, fiveAttrs} {
		plain := mustSchema(t, text)
		want := statsOf(plain, mixedGiven(plain, 30, 3), false)
		s, st := roomy(plain), roomyStats(want)
		for _, attrs := range [][]int{nil, {0}, {1}, {0, 1}, {1, 0}, {0, 0}, {-1}, {9}} {
			room := append(slices.Clone(attrs), 1, 2)
			for _, two := range []bool{false, true} {
				asked := room[:len(attrs)]
				if !slices.Equal(impl.Rank(s, st, asked, two), impl.Rank(plain, want, attrs, two)) {
					t.Errorf("Rank(%v, %v, %v) asks the room behind a list", st, attrs, two)
				}
				a, m, ok := impl.FirstTwo(s, st, asked, two)
				if b, n, right := impl.FirstTwo(plain, want, attrs, two); a != b || m != n || ok != right {
					t.Errorf("FirstTwo(%v, %v, %v) asks the room behind a list", st, attrs, two)
				}
				refusedRank(t, s, impl.Thin(st), asked)
			}
			if !slices.Equal(room, append(slices.Clone(attrs), 1, 2)) {
				t.Errorf("%v became %v", attrs, room)
			}
		}
		if !schemaIs(s, plain) || !slices.Equal(behind(s.Classes), []string{"spare", "room"}) || behind(s.Attrs)[0].Name != "spare" || behind(s.Attrs)[1].Name != "room" {
			t.Errorf("the schema became %v", s)
		}
		if !statsIs(st, want) || !roomStands(st) {
			t.Errorf("%v became %v", want, st)
		}
	}
}

func TestRankAnswersAreNewMemory(t *testing.T) {
	s := mustSchema(t, fiveAttrs)
	st := statsOf(s, mixedGiven(s, 30, 9), false)
	was := statsClone(st)
	attrs := []int{0, 1, 3, 4}
	for _, two := range []bool{false, true} {
		want := slices.Clone(impl.Rank(s, st, attrs, two))
		spoiled := impl.Rank(s, st, attrs, two)
		spoiled = spoiled[:cap(spoiled)]
		for i := range spoiled {
			spoiled[i] = ranked(fork(-6, -6), frac(-6, -6))
		}
		if again := impl.Rank(s, st, attrs, two); len(again) != 4 || !slices.Equal(again, want) || !slices.Equal(attrs, []int{0, 1, 3, 4}) || !statsIs(st, was) {
			t.Errorf("Rank turned with an earlier answer: %v, %v", again, attrs)
		}
		if first, second, ok := impl.FirstTwo(s, st, attrs, two); !ok || first != want[0] || second != want[1].Merit {
			t.Errorf("FirstTwo turned with an earlier answer: %v, %v", first, second)
		}
	}
}
