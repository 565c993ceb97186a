package tests

import (
	"math"
	"slices"
	"testing"

	"loop.example/g00477/impl"
)

// Promise 9: each bin has just one branch.

func fork(attr int, at int) impl.Fork { return impl.Fork{Attr: attr, At: at} }

// forkCase is a right fork, its text, and of each bin the branch, as a digit.
type forkCase struct {
	fork  impl.Fork
	text  string
	sides string
}

func forksOfTwo() []forkCase {
	return []forkCase{
		{fork(0, -1), "age*", "012"}, {fork(0, 0), "age<=-3", "011"}, {fork(0, 1), "age<=10", "001"},
		{fork(1, -1), "colour*", "01"}, {fork(1, 0), "colour=red", "01"}, {fork(1, 1), "colour=blue", "10"},
	}
}

func forksOfFive() []forkCase {
	return []forkCase{
		{fork(0, -1), "a*", "0123"}, {fork(0, 0), "a<=-9999", "0111"}, {fork(0, 1), "a<=0", "0011"}, {fork(0, 2), "a<=9998", "0001"},
		{fork(1, -1), "b*", "0123"}, {fork(1, 0), "b=w", "0111"}, {fork(1, 1), "b=x", "1011"}, {fork(1, 2), "b=y", "1101"}, {fork(1, 3), "b=z", "1110"},
		{fork(2, -1), "c*", "01"}, {fork(2, 0), "c<=0", "01"},
		{fork(3, -1), "d*", "01"}, {fork(3, 0), "d=yes", "01"}, {fork(3, 1), "d=no", "10"},
		{fork(4, -1), "e*", "0123"}, {fork(4, 0), "e<=1", "0111"}, {fork(4, 1), "e<=2", "0011"}, {fork(4, 2), "e<=3", "0001"},
	}
}

// twoSided is how many questions with two answers a right attribute has: At is below it.
func twoSided(a impl.Attr) int { return max(len(a.Cuts), len(a.Values)) }

// everyFork tells each right fork of a right schema, attribute by attribute, At ascending.
func everyFork(s impl.Schema, told func(f impl.Fork)) {
	for attr, a := range s.Attrs {
		for at := -1; at < twoSided(a); at++ {
			told(fork(attr, at))
		}
	}
}

// bitOf is 1 where it is so.
func bitOf(yes bool) int {
	if yes {
		return 1
	}
	return 0
}

// sideOf is the branch of a bin, told beside the program.
func sideOf(s impl.Schema, f impl.Fork, bin int) int {
	switch {
	case f.At == -1:
		return bin
	case len(s.Attrs[f.Attr].Cuts) > 0:
		return bitOf(bin > f.At)
	}
	return bitOf(bin != f.At)
}

// sidesOf is how many branches a right fork has, told beside the program.
func sidesOf(s impl.Schema, f impl.Fork) int {
	if f.At == -1 {
		return binsOf(s.Attrs[f.Attr])
	}
	return 2
}

func TestForksOfNamedSchemas(t *testing.T) {
	for text, list := range map[string][]forkCase{twoAttrs: forksOfTwo(), fiveAttrs: forksOfFive()} {
		s := mustSchema(t, text)
		var told []impl.Fork
		everyFork(s, func(f impl.Fork) { told = append(told, f) })
		for i, c := range list {
			if c.fork != told[i] {
				t.Fatalf("%q: %v is not named", text, told[i])
			}
			most := 0
			for bin := range c.sides {
				side := int(c.sides[bin] - '0')
				most = max(most, side)
				if got := impl.BranchOf(s, c.fork, bin); got != side {
					t.Errorf("%q: BranchOf(%v, %d) = %d", text, c.fork, bin, got)
				}
			}
			if !impl.ForkOk(s, c.fork) || impl.Branches(s, c.fork) != most+1 || impl.ForkText(s, c.fork) != c.text || impl.BranchOf(s, c.fork, len(c.sides)) != -1 {
				t.Errorf("%q, %v: %v, %d, %q", text, c.fork, impl.ForkOk(s, c.fork), impl.Branches(s, c.fork), impl.ForkText(s, c.fork))
			}
		}
		if len(told) != len(list) {
			t.Errorf("%q: %d forks are named, not %d", text, len(list), len(told))
		}
	}
}

func TestEachBinHasJustOneBranch(t *testing.T) {
	for _, s := range rowSchemas(t) {
		everyFork(s, func(f impl.Fork) {
			if !impl.ForkOk(s, f) || impl.Branches(s, f) != sidesOf(s, f) {
				t.Fatalf("%q, %v: %v, %d branches", impl.SchemaText(s), f, impl.ForkOk(s, f), impl.Branches(s, f))
			}
			taken := make([]int, impl.Branches(s, f))
			bins := binsOf(s.Attrs[f.Attr])
			for bin := range bins {
				branch := impl.BranchOf(s, f, bin)
				if branch != sideOf(s, f, bin) {
					t.Fatalf("%q: BranchOf(%v, %d) = %d", impl.SchemaText(s), f, bin, branch)
				}
				taken[branch]++
			}
			if slices.Contains(taken, 0) {
				t.Errorf("%q, %v: a branch has no bin: %v", impl.SchemaText(s), f, taken)
			}
			for _, bin := range append(noPlaces(bins), -1) {
				if got := impl.BranchOf(s, f, bin); got != -1 {
					t.Errorf("%q: BranchOf(%v, %d) = %d", impl.SchemaText(s), f, bin, got)
				}
			}
		})
	}
}

func TestNoTwoForksOfASchemaHaveOneText(t *testing.T) {
	for _, s := range rowSchemas(t) {
		texts := map[string]bool{"": true}
		everyFork(s, func(f impl.Fork) {
			a := s.Attrs[f.Attr]
			want := a.Name + "*"
			if f.At >= 0 && len(a.Values) > 0 {
				want = a.Name + "=" + a.Values[f.At]
			} else if f.At >= 0 {
				want = a.Name + "<=" + impl.Digits(a.Cuts[f.At])
			}
			text := impl.ForkText(s, f)
			if text != want || texts[text] {
				t.Errorf("%q: ForkText(%v) = %q", impl.SchemaText(s), f, text)
			}
			texts[text] = true
		})
	}
}

// refusedFork asks all that is asked of a fork, and of counts that would be right.
func refusedFork(t *testing.T, s impl.Schema, st impl.Stats, f impl.Fork) {
	t.Helper()
	if impl.ForkOk(s, f) || impl.Branches(s, f) != 0 || impl.ForkText(s, f) != "" {
		t.Errorf("%.80q, %v: %v, %d, %q", impl.SchemaText(s), f, impl.ForkOk(s, f), impl.Branches(s, f), impl.ForkText(s, f))
	}
	for _, n := range []int{-1, 0, 1, 2, 3, 4, f.At, f.At + 1, math.MaxInt, math.MinInt} {
		if got := impl.BranchOf(s, f, n); got != -1 {
			t.Errorf("%.80q: BranchOf(%v, %d) = %d", impl.SchemaText(s), f, n, got)
		}
		refusedTotals(t, s, st, f, n)
	}
}

func refusedTotals(t *testing.T, s impl.Schema, st impl.Stats, f impl.Fork, i int) {
	t.Helper()
	if got := impl.BranchTotals(s, st, f, i); len(got) != 0 {
		t.Errorf("%.80q: BranchTotals(%v, %v, %d) = %v", impl.SchemaText(s), st, f, i, got)
	}
}

func TestWrongForksAreRefused(t *testing.T) {
	for _, s := range rowSchemas(t) {
		st := impl.StatsNew(s)
		for _, attr := range append(noPlaces(len(s.Attrs)), -1) {
			for _, at := range []int{-1, 0, 1, 2, 3, -2, 4, attr, math.MaxInt, math.MinInt} {
				refusedFork(t, s, st, fork(attr, at))
			}
		}
		for attr, a := range s.Attrs {
			for _, at := range noPlaces(twoSided(a)) {
				refusedFork(t, s, st, fork(attr, at))
			}
		}
	}
}

// TestLastPlacesOfBothKinds asks a numeric attribute up to Bins - 2, a nominal one of as many bins up to Bins - 1.
func TestLastPlacesOfBothKinds(t *testing.T) {
	for bins, s := range map[int]impl.Schema{2: mustSchema(t, "a:0;b=x,y|x,y"), 3: mustSchema(t, "a:0,1;b=x,y,z|x,y"), 4: mustSchema(t, "a:0,1,2;b=w,x,y,z|x,y")} {
		for at := -3; at <= bins+2; at++ {
			if got := impl.ForkOk(s, fork(0, at)); got != (at >= -1 && at <= bins-2) {
				t.Errorf("numeric, %d bins, %d: %v", bins, at, got)
			}
			if got := impl.ForkOk(s, fork(1, at)); got != (at >= -1 && at <= bins-1) {
				t.Errorf("nominal, %d bins, %d: %v", bins, at, got)
			}
		}
	}
}

func TestForksOfWrongSchemasAreRefused(t *testing.T) {
	for _, s := range wrongSchemas() {
		st := impl.Stats{Totals: make([]int, len(s.Classes))}
		for _, a := range s.Attrs {
			st.Cells = append(st.Cells, make([]int, binsOf(a)*len(s.Classes)))
		}
		for attr := range len(s.Attrs) + 1 {
			for at := -1; at <= 2; at++ {
				refusedFork(t, s, st, fork(attr, at))
			}
			refusedAttrs(t, s, []int{attr})
		}
		refusedAttrs(t, s, []int{0, 1})
		refusedAttrs(t, s, nil)
	}
}

func refusedAttrs(t *testing.T, s impl.Schema, attrs []int) {
	t.Helper()
	for _, two := range []bool{false, true} {
		if got := impl.Candidates(s, attrs, two); impl.AttrsOk(s, attrs) || len(got) != 0 {
			t.Errorf("%.80q, %.80v: %v, %v", impl.SchemaText(s), attrs, impl.AttrsOk(s, attrs), got)
		}
	}
}

// candidatesBy goes through every fork of the schema, and keeps what is to be asked.
func candidatesBy(s impl.Schema, attrs []int, two bool) []impl.Fork {
	var list []impl.Fork
	everyFork(s, func(f impl.Fork) {
		manyWay := len(s.Attrs[f.Attr].Values) > 0 && !two
		if slices.Contains(attrs, f.Attr) && (f.At == -1) == manyWay {
			list = append(list, f)
		}
	})
	return list
}

// attrsRight says beside the program whether a list has ascending places alone.
func attrsRight(s impl.Schema, attrs []int) bool {
	for i, a := range attrs {
		if a < 0 || a >= len(s.Attrs) || i > 0 && a <= attrs[i-1] {
			return false
		}
	}
	return len(attrs) > 0
}

func holdAttrs(t *testing.T, s impl.Schema, attrs []int) bool {
	t.Helper()
	if !attrsRight(s, attrs) {
		refusedAttrs(t, s, attrs)
		return false
	}
	for _, two := range []bool{false, true} {
		want := candidatesBy(s, attrs, two)
		if got := impl.Candidates(s, attrs, two); !impl.AttrsOk(s, attrs) || !slices.Equal(got, want) {
			t.Errorf("%q, %v, %v: %v, %v, not %v", impl.SchemaText(s), attrs, two, impl.AttrsOk(s, attrs), got, want)
		}
	}
	return true
}

// forksAt are forks by their Attr and At.
func forksAt(places [][2]int) []impl.Fork {
	var list []impl.Fork
	for _, p := range places {
		list = append(list, fork(p[0], p[1]))
	}
	return list
}

func TestCandidatesOfNamedSchemas(t *testing.T) {
	for _, c := range []struct {
		schema string
		attrs  []int
		two    bool
		want   [][2]int
	}{
		{twoAttrs, []int{0}, false, [][2]int{{0, 0}, {0, 1}}}, {twoAttrs, []int{0}, true, [][2]int{{0, 0}, {0, 1}}}, {twoAttrs, []int{1}, false, [][2]int{{1, -1}}}, {twoAttrs, []int{1}, true, [][2]int{{1, 0}, {1, 1}}},
		{twoAttrs, []int{0, 1}, false, [][2]int{{0, 0}, {0, 1}, {1, -1}}}, {twoAttrs, []int{0, 1}, true, [][2]int{{0, 0}, {0, 1}, {1, 0}, {1, 1}}},
		{"age:0|no,yes", []int{0}, false, [][2]int{{0, 0}}}, {"age:0|no,yes", []int{0}, true, [][2]int{{0, 0}}}, {"a=x,y|no,yes", []int{0}, false, [][2]int{{0, -1}}}, {"a=x,y|no,yes", []int{0}, true, [][2]int{{0, 0}, {0, 1}}},
		{"a=x,y;b:1|no,yes", []int{0, 1}, false, [][2]int{{0, -1}, {1, 0}}}, {"a=x,y;b:1|no,yes", []int{0, 1}, true, [][2]int{{0, 0}, {0, 1}, {1, 0}}},
		{fiveAttrs, []int{1, 3, 4}, false, [][2]int{{1, -1}, {3, -1}, {4, 0}, {4, 1}, {4, 2}}}, {fiveAttrs, []int{2, 3}, true, [][2]int{{2, 0}, {3, 0}, {3, 1}}},
		{fiveAttrs, []int{0, 1, 2, 3, 4}, false, [][2]int{{0, 0}, {0, 1}, {0, 2}, {1, -1}, {2, 0}, {3, -1}, {4, 0}, {4, 1}, {4, 2}}},
		{fiveAttrs, []int{0, 1, 2, 3, 4}, true, [][2]int{{0, 0}, {0, 1}, {0, 2}, {1, 0}, {1, 1}, {1, 2}, {1, 3}, {2, 0}, {3, 0}, {3, 1}, {4, 0}, {4, 1}, {4, 2}}},
	} {
		if got := impl.Candidates(mustSchema(t, c.schema), c.attrs, c.two); !slices.Equal(got, forksAt(c.want)) {
			t.Errorf("%q: Candidates(%v, %v) = %v", c.schema, c.attrs, c.two, got)
		}
	}
}

// TestEveryShortListOfAttributes asks one place beyond each end too.
func TestEveryShortListOfAttributes(t *testing.T) {
	for _, s := range rowSchemas(t) {
		right := 0
		for many := range min(len(s.Attrs), 4) + 2 {
			everyNumbers(many, -1, len(s.Attrs), func(list []int) { right += bitOf(holdAttrs(t, s, list)) })
		}
		// Each set of the places but the empty one is one right list.
		if right != 1<<len(s.Attrs)-1 {
			t.Errorf("%q: %d lists are right", impl.SchemaText(s), right)
		}
	}
}

func TestWrongListsOfAttributesAreRefused(t *testing.T) {
	for _, s := range rowSchemas(t) {
		all := make([]int, len(s.Attrs))
		for i := range all {
			all[i] = i
		}
		if !holdAttrs(t, s, all) {
			t.Errorf("%q: all are wrong", impl.SchemaText(s))
		}
		for at := range all {
			for _, wrong := range append(noPlaces(len(all)), -1) {
				turned := slices.Clone(all)
				turned[at] = wrong
				refusedAttrs(t, s, turned)
				refusedAttrs(t, s, turned[at:])
				refusedAttrs(t, s, turned[:at+1])
				refusedAttrs(t, s, []int{wrong})
			}
			refusedAttrs(t, s, append(slices.Clone(all), at))
			refusedAttrs(t, s, slices.Insert(slices.Clone(all), at, at))
			refusedAttrs(t, s, []int{at, at})
		}
		refusedAttrs(t, s, nil)
		refusedAttrs(t, s, []int{})
		refusedAttrs(t, s, all[:0])
		refusedAttrs(t, s, limbsOf(0, 1000))
		refusedAttrs(t, s, append(slices.Clone(all), limbsOf(math.MinInt, 1000)...))
		refusedAttrs(t, s, append(slices.Clone(all), math.MaxInt, 0))
	}
}

// totalsBy is the weight by class of all of the list whose bin has that branch.
func totalsBy(s impl.Schema, list []given, f impl.Fork, i int) []int {
	var totals []int
	for class := range s.Classes {
		totals = append(totals, weightWhere(list, func(e impl.Ex) bool {
			bin := e.Bins[f.Attr]
			return e.Class == class && bin != -1 && sideOf(s, f, bin) == i
		}))
	}
	return totals
}

// holdTotals holds each branch against the list that was counted, and all branches together against all bins.
func holdTotals(t *testing.T, s impl.Schema, st impl.Stats, list []given, f impl.Fork) {
	t.Helper()
	left := slices.Clone(st.Cells[f.Attr])
	for i := range left {
		left[i%len(s.Classes)] += left[i] * bitOf(i >= len(s.Classes))
	}
	for i := range sidesOf(s, f) {
		got := impl.BranchTotals(s, st, f, i)
		if !slices.Equal(got, totalsBy(s, list, f, i)) {
			t.Fatalf("%q: BranchTotals(%v, %v, %d) = %v", impl.SchemaText(s), st, f, i, got)
		}
		for class, weight := range got {
			left[class] -= weight
		}
	}
	if slices.ContainsFunc(left[:len(s.Classes)], func(n int) bool { return n != 0 }) {
		t.Errorf("%q, %v, %v: all branches leave %v of all bins", impl.SchemaText(s), st, f, left[:len(s.Classes)])
	}
	for _, i := range append(noPlaces(sidesOf(s, f)), -1) {
		refusedTotals(t, s, st, f, i)
		refusedTotals(t, s, impl.Thin(st), f, i)
	}
}

func TestBranchTotalsOfWhatWasAdded(t *testing.T) {
	for seed, s := range rowSchemas(t) {
		for _, many := range []int{0, 1, 2, 10, 60, impl.MaxWeight / impl.MaxUnit} {
			list := mixedGiven(s, many, seed+many)
			st := addAll(t, s, impl.StatsNew(s), list)
			everyFork(s, func(f impl.Fork) { holdTotals(t, s, st, list, f) })
		}
	}
}

func TestBranchTotalsOfEachExampleAlone(t *testing.T) {
	for _, text := range []string{twoAttrs, "a:0|x,y,z", "b=w,x,y,z|x,y", "a:-1,0,1;b=w,x,y,z|x,y,z"} {
		s := mustSchema(t, text)
		everyExample(s, func(e impl.Ex) {
			if e.Class == -1 {
				return
			}
			list := []given{{e, 3}}
			st := addAll(t, s, impl.StatsNew(s), list)
			everyFork(s, func(f impl.Fork) { holdTotals(t, s, st, list, f) })
		})
	}
}

func TestBranchTotalsOfNamedCounts(t *testing.T) {
	s := mustSchema(t, twoAttrs)
	// Of the first class 4 is missing in both attributes, of the second one 1 in the first and 5 in the other.
	st := counts([]int{10, 20}, []int{1, 2, 0, 7, 5, 10}, []int{4, 0, 2, 15})
	for _, c := range []struct {
		fork impl.Fork
		want [][]int
	}{
		{fork(0, -1), [][]int{{1, 2}, {0, 7}, {5, 10}}}, {fork(0, 0), [][]int{{1, 2}, {5, 17}}}, {fork(0, 1), [][]int{{1, 9}, {5, 10}}},
		{fork(1, -1), [][]int{{4, 0}, {2, 15}}}, {fork(1, 0), [][]int{{4, 0}, {2, 15}}}, {fork(1, 1), [][]int{{2, 15}, {4, 0}}},
	} {
		for i, want := range c.want {
			if got := impl.BranchTotals(s, st, c.fork, i); !slices.Equal(got, want) {
				t.Errorf("BranchTotals(%v, %d) = %v", c.fork, i, got)
			}
		}
		refusedTotals(t, s, st, c.fork, len(c.want))
		refusedTotals(t, s, st, c.fork, -1)
	}
	full := counts([]int{999, 0}, []int{333, 0, 333, 0, 333, 0}, []int{0, 0, 999, 0})
	if a, b := impl.BranchTotals(s, full, fork(0, 1), 0), impl.BranchTotals(s, full, fork(1, 0), 1); !slices.Equal(a, []int{666, 0}) || !slices.Equal(b, []int{999, 0}) {
		t.Errorf("of MaxWeight: %v, %v", a, b)
	}
	for _, f := range []impl.Fork{fork(0, 0), fork(1, -1), fork(1, 1)} {
		if got := impl.BranchTotals(s, impl.StatsNew(s), f, 1); !slices.Equal(got, []int{0, 0}) {
			t.Errorf("of nothing: %v", got)
		}
	}
}

func TestBranchTotalsOfWrongCountsAreRefused(t *testing.T) {
	s := mustSchema(t, twoAttrs)
	totals, six, four := []int{5, 3}, []int{1, 0, 2, 3, 2, 0}, []int{0, 1, 5, 2}
	right := counts(totals, six, four)
	wrong := []impl.Stats{
		{}, counts(totals), counts([]int{0, 0}), counts(nil, six, four), counts([]int{5}, six, four), counts([]int{5, 3, 0}, six, four), counts([]int{5, 2}, six, four), counts([]int{997, 3}, six, four), counts([]int{-5, 3}, six, four),
		counts([]int{math.MaxInt, math.MaxInt}, six, four), counts(totals, six), counts(totals, four), counts(totals, four, six), counts(totals, six, four, four), counts(totals, nil, nil), counts(totals, six, nil), counts(totals, nil, four),
		counts(totals, six[:5], four), counts(totals, six, four[:3]), counts(totals, append(slices.Clone(six), 0), four), counts(totals, six, append(slices.Clone(four), 0, 0)),
		counts(totals, six, []int{0, 1, 5, 3}), counts(totals, []int{2, 0, 2, 3, 2, 0}, four), counts(totals, six, []int{0, -1, 5, 2}), counts(totals, []int{1, 0, 2, 3, -2, 0}, four),
	}
	everyFork(s, func(f impl.Fork) {
		for i := -1; i <= sidesOf(s, f); i++ {
			if got := impl.BranchTotals(s, right, f, i); (len(got) == 2) != (i >= 0 && i < sidesOf(s, f)) {
				t.Errorf("BranchTotals(%v, %d) = %v", f, i, got)
			}
			for _, st := range wrong {
				refusedTotals(t, s, st, f, i)
			}
		}
	})
}

// TestForksAndCountsOfOtherSchemas asks each schema for what is right of another one.
func TestForksAndCountsOfOtherSchemas(t *testing.T) {
	all := rowSchemas(t)
	for _, s := range all {
		for _, other := range all {
			st := impl.StatsNew(other)
			everyFork(other, func(f impl.Fork) {
				ok := f.Attr < len(s.Attrs) && f.At < twoSided(s.Attrs[f.Attr])
				if impl.ForkOk(s, f) != ok {
					t.Errorf("%q: ForkOk(%v) = %v", impl.SchemaText(s), f, !ok)
				}
				if got := impl.BranchTotals(s, st, f, 0); (len(got) > 0) != (ok && statsRight(s, st)) {
					t.Errorf("%q: BranchTotals(%v, %v, 0) = %v", impl.SchemaText(s), st, f, got)
				}
			})
		}
	}
}

func TestForkArgumentsStayAsTheyWere(t *testing.T) {
	for _, text := range []string{twoAttrs, fiveAttrs} {
		plain := mustSchema(t, text)
		want := statsOf(plain, mixedGiven(plain, 30, 3), false)
		s, st := roomy(plain), roomyStats(want)
		for _, attrs := range [][]int{nil, {0}, {1}, {0, 1}, {1, 0}, {0, 0}, {-1}, {9}} {
			room := append(slices.Clone(attrs), 77, 78)
			for _, two := range []bool{false, true} {
				impl.AttrsOk(s, room[:len(attrs)])
				impl.Candidates(s, room[:len(attrs)], two)
			}
			if !slices.Equal(room, append(slices.Clone(attrs), 77, 78)) {
				t.Errorf("%v became %v", attrs, room)
			}
		}
		for attr := -1; attr <= len(s.Attrs); attr++ {
			for at := -2; at <= 5; at++ {
				f := fork(attr, at)
				impl.ForkOk(s, f)
				impl.Branches(s, f)
				impl.ForkText(s, f)
				for i := -1; i <= 5; i++ {
					impl.BranchOf(s, f, i)
					impl.BranchTotals(s, st, f, i)
				}
			}
		}
		if !schemaIs(s, plain) || !slices.Equal(behind(s.Classes), []string{"spare", "room"}) || behind(s.Attrs)[0].Name != "spare" || behind(s.Attrs)[1].Name != "room" {
			t.Errorf("the schema became %v", s)
		}
		if !statsIs(st, want) || !roomStands(st) {
			t.Errorf("%v became %v", want, st)
		}
	}
}

// TestSpareRoomIsNoPartOfAQuestion asks for what stands in the room behind the lists alone.
func TestSpareRoomIsNoPartOfAQuestion(t *testing.T) {
	s := roomy(mustSchema(t, twoAttrs))
	st := roomyStats(counts([]int{10, 20}, []int{1, 2, 0, 7, 5, 10}, []int{4, 0, 2, 15}))
	for _, f := range []impl.Fork{fork(2, -1), fork(2, 0), fork(3, -1), fork(0, 2), fork(1, 2)} {
		refusedFork(t, s, st, f)
	}
	if a, b := impl.BranchTotals(s, st, fork(0, 1), 1), impl.BranchTotals(s, st, fork(1, 0), 1); !slices.Equal(a, []int{5, 10}) || !slices.Equal(b, []int{2, 15}) {
		t.Errorf("BranchTotals = %v, %v", a, b)
	}
	room := []int{0, 1, 1, 2}
	if !impl.AttrsOk(s, room[:2]) || impl.AttrsOk(s, room[:3]) || impl.AttrsOk(s, room[:0]) || len(impl.Candidates(s, room[:1], false)) != 2 || len(impl.Candidates(s, room[1:2], false)) != 1 {
		t.Error("the room behind a list of attributes is asked")
	}
}

func TestForkAnswersAreNewMemory(t *testing.T) {
	s := mustSchema(t, fiveAttrs)
	st := statsOf(s, mixedGiven(s, 30, 9), false)
	was := statsClone(st)
	attrs := []int{0, 1, 3}
	for _, two := range []bool{false, true} {
		forks := impl.Candidates(s, attrs, two)
		forks = forks[:cap(forks)]
		for i := range forks {
			forks[i] = fork(-6, -6)
		}
		if again := impl.Candidates(s, attrs, two); !slices.Equal(again, candidatesBy(s, attrs, two)) || !slices.Equal(attrs, []int{0, 1, 3}) {
			t.Errorf("Candidates turned with an earlier answer: %v, %v", again, attrs)
		}
	}
	everyFork(s, func(f impl.Fork) {
		for i := range sidesOf(s, f) {
			want := slices.Clone(impl.BranchTotals(s, st, f, i))
			spoil(impl.BranchTotals(s, st, f, i))
			if again := impl.BranchTotals(s, st, f, i); !slices.Equal(again, want) || !statsIs(st, was) {
				t.Errorf("BranchTotals(%v, %d) turned with an earlier answer: %v, %v", f, i, again, st)
			}
		}
	})
}
