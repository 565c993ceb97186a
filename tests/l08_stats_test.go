package tests

import (
	"math"
	"math/big"
	"slices"
	"testing"

	"loop.example/g00477/impl"
)

// Promise 8: what is added is there, whatever order it came in.

func TestMaxUnit(t *testing.T) {
	if impl.MaxUnit != 7 {
		t.Errorf("MaxUnit = %d", impl.MaxUnit)
	}
}

func counts(totals []int, cells ...[]int) impl.Stats { return impl.Stats{Totals: totals, Cells: cells} }

func statsIs(a impl.Stats, b impl.Stats) bool {
	return slices.Equal(a.Totals, b.Totals) && slices.EqualFunc(a.Cells, b.Cells, func(x []int, y []int) bool { return slices.Equal(x, y) })
}

// statsClone shares nothing with t.
func statsClone(t impl.Stats) impl.Stats {
	made := impl.Stats{Totals: slices.Clone(t.Totals)}
	for _, list := range t.Cells {
		made.Cells = append(made.Cells, append([]int(nil), list...))
	}
	return made
}

// given is one example and how much it weighs.
type given struct {
	ex     impl.Ex
	weight int
}

func binsOf(a impl.Attr) int {
	if len(a.Values) > 0 {
		return len(a.Values)
	}
	return len(a.Cuts) + 1
}

// weightWhere is what all of the list weigh together that are as asked for.
func weightWhere(list []given, asked func(e impl.Ex) bool) int {
	sum := 0
	for _, g := range list {
		if asked(g.ex) {
			sum += g.weight
		}
	}
	return sum
}

// statsOf counts a list beside the program: each number by going through all of it.
func statsOf(s impl.Schema, list []given, isThin bool) impl.Stats {
	var t impl.Stats
	for class := range s.Classes {
		t.Totals = append(t.Totals, weightWhere(list, func(e impl.Ex) bool { return e.Class == class }))
	}
	if isThin {
		return t
	}
	for at, a := range s.Attrs {
		var cells []int
		for bin := range binsOf(a) {
			for class := range s.Classes {
				cells = append(cells, weightWhere(list, func(e impl.Ex) bool { return e.Class == class && e.Bins[at] == bin }))
			}
		}
		t.Cells = append(t.Cells, cells)
	}
	return t
}

// holdAsked asks all that is asked of right counts, and holds it against the totals themselves.
func holdAsked(t *testing.T, s impl.Schema, st impl.Stats) {
	t.Helper()
	total, most, some := 0, 0, 0
	for _, n := range st.Totals {
		total += n
		most = max(most, n)
		some += min(n, 1)
	}
	if !impl.StatsOk(s, st) || impl.StatsTotal(s, st) != total || impl.Promise(s, st) != total-most || impl.StatsPure(s, st) != (some <= 1) {
		t.Errorf("%q, %v: %v, %d, %d, %v", impl.SchemaText(s), st, impl.StatsOk(s, st), impl.StatsTotal(s, st), impl.Promise(s, st), impl.StatsPure(s, st))
	}
	if top := impl.TopOf(st.Totals); top != slices.Index(st.Totals, most) {
		t.Errorf("TopOf(%v) = %d", st.Totals, top)
	}
	if lone := impl.Thin(st); !slices.Equal(lone.Totals, st.Totals) || len(lone.Cells) != 0 || !impl.StatsOk(s, lone) {
		t.Errorf("Thin(%v) = %v", st, lone)
	}
	if !impl.StatsSame(st, statsClone(st)) {
		t.Errorf("%v is not the same as itself", st)
	}
}

// holdWrong asks all that is asked of counts that are not right.
func holdWrong(t *testing.T, s impl.Schema, st impl.Stats) {
	t.Helper()
	if impl.StatsOk(s, st) || impl.StatsTotal(s, st) != 0 || impl.Promise(s, st) != 0 || impl.StatsPure(s, st) {
		t.Errorf("%.80q, %v: %v, %d, %d, %v", impl.SchemaText(s), st, impl.StatsOk(s, st), impl.StatsTotal(s, st), impl.Promise(s, st), impl.StatsPure(s, st))
	}
	e := impl.Ex{Bins: make([]int, len(s.Attrs))}
	refusedByAdd(t, s, st, e, 1)
}

// refusedByAdd asks that the counts come back as they were, in memory of their own, and false.
func refusedByAdd(t *testing.T, s impl.Schema, st impl.Stats, e impl.Ex, w int) {
	t.Helper()
	was := statsClone(st)
	got, ok := impl.StatsAdd(s, st, e, w)
	if ok || !statsIs(got, was) || !statsIs(st, was) {
		t.Errorf("StatsAdd(%.80q, %v, %v, %d) = %v, %v", impl.SchemaText(s), was, e, w, got, ok)
	}
	spoilStats(got)
	if !statsIs(st, was) {
		t.Errorf("StatsAdd(%.80q, %v, %v, %d): what came back shares the argument's memory", impl.SchemaText(s), was, e, w)
	}
}

func spoilStats(st impl.Stats) {
	spoil(st.Totals)
	cells := st.Cells[:cap(st.Cells)]
	for i := range cells {
		spoil(cells[i])
		cells[i] = []int{-6}
	}
}

func mustAdd(t *testing.T, s impl.Schema, st impl.Stats, g given) impl.Stats {
	t.Helper()
	more, ok := impl.StatsAdd(s, st, g.ex, g.weight)
	if !ok {
		t.Fatalf("StatsAdd(%q, %v, %v, %d) is false", impl.SchemaText(s), st, g.ex, g.weight)
	}
	return more
}

func addAll(t *testing.T, s impl.Schema, st impl.Stats, list []given) impl.Stats {
	t.Helper()
	for _, g := range list {
		st = mustAdd(t, s, st, g)
	}
	return st
}

// mixedGiven are so many right examples with classes, of all bins and classes and of missing ones, and of all weights.
func mixedGiven(s impl.Schema, many int, seed int) []given {
	next := uint32(seed)
	draw := func(below int) int {
		next = next*1664525 + 1013904223
		return int(next>>16) % below
	}
	var list []given
	for range many {
		e := impl.Ex{Class: draw(len(s.Classes))}
		for _, a := range s.Attrs {
			e.Bins = append(e.Bins, draw(binsOf(a)+1)-1)
		}
		list = append(list, given{e, 1 + draw(impl.MaxUnit)})
	}
	return list
}

func TestStatsNew(t *testing.T) {
	for _, s := range rowSchemas(t) {
		st := impl.StatsNew(s)
		if !statsIs(st, statsOf(s, nil, false)) {
			t.Errorf("StatsNew(%q) = %v", impl.SchemaText(s), st)
		}
		holdAsked(t, s, st)
		holdAsked(t, s, impl.Thin(st))
	}
	want := counts([]int{0, 0}, make([]int, 6), make([]int, 4))
	if st := impl.StatsNew(mustSchema(t, twoAttrs)); !statsIs(st, want) {
		t.Errorf("StatsNew = %v", st)
	}
	want = counts([]int{0, 0, 0}, make([]int, 12), make([]int, 12), make([]int, 6), make([]int, 6), make([]int, 12))
	if st := impl.StatsNew(mustSchema(t, fiveAttrs)); !statsIs(st, want) {
		t.Errorf("StatsNew = %v", st)
	}
}

func TestStatsOfWrongSchemasAreRefused(t *testing.T) {
	for _, s := range wrongSchemas() {
		if st := impl.StatsNew(s); len(st.Totals) != 0 || len(st.Cells) != 0 {
			t.Fatalf("StatsNew(%#v) = %v", s, st)
		}
		cells := make([][]int, len(s.Attrs))
		for i, a := range s.Attrs {
			cells[i] = make([]int, binsOf(a)*len(s.Classes))
		}
		totals := make([]int, len(s.Classes))
		for _, st := range []impl.Stats{{}, {Totals: totals}, {Totals: totals, Cells: cells}, counts([]int{0, 0}), counts([]int{5, 1}), counts([]int{0, 0}, []int{0, 0, 0, 0})} {
			holdWrong(t, s, st)
		}
	}
}

func TestAddNamedOnes(t *testing.T) {
	s := mustSchema(t, twoAttrs)
	st := impl.StatsNew(s)
	for _, c := range []struct {
		ex     impl.Ex
		weight int
		want   impl.Stats
	}{
		{example(1, 2, 0), 2, counts([]int{0, 2}, []int{0, 0, 0, 0, 0, 2}, []int{0, 2, 0, 0})},
		{example(0, -1, 1), 3, counts([]int{3, 2}, []int{0, 0, 0, 0, 0, 2}, []int{0, 2, 3, 0})},
		{example(1, 1, 1), 1, counts([]int{3, 3}, []int{0, 0, 0, 1, 0, 2}, []int{0, 2, 3, 1})},
		{example(0, 0, -1), 7, counts([]int{10, 3}, []int{7, 0, 0, 1, 0, 2}, []int{0, 2, 3, 1})},
		{example(1, -1, -1), 5, counts([]int{10, 8}, []int{7, 0, 0, 1, 0, 2}, []int{0, 2, 3, 1})},
		{example(1, 2, 0), 7, counts([]int{10, 15}, []int{7, 0, 0, 1, 0, 9}, []int{0, 9, 3, 1})},
		{example(0, 2, 0), 1, counts([]int{11, 15}, []int{7, 0, 0, 1, 1, 9}, []int{1, 9, 3, 1})},
		{example(0, 1, 1), 4, counts([]int{15, 15}, []int{7, 0, 4, 1, 1, 9}, []int{1, 9, 7, 1})},
	} {
		st = mustAdd(t, s, st, given{c.ex, c.weight})
		if !statsIs(st, c.want) {
			t.Fatalf("with %d of %v more it is %v, not %v", c.weight, c.ex, st, c.want)
		}
		holdAsked(t, s, st)
	}
}

// TestEachExampleIsCountedWhereItBelongs adds each right example alone, and twice, to new counts and to thin ones.
func TestEachExampleIsCountedWhereItBelongs(t *testing.T) {
	for _, s := range rowSchemas(t) {
		step := 0
		everyExample(s, func(e impl.Ex) {
			step++
			for _, w := range []int{1, impl.MaxUnit, 1 + step%impl.MaxUnit} {
				if e.Class == -1 {
					refusedByAdd(t, s, impl.StatsNew(s), e, w)
					continue
				}
				for _, isThin := range []bool{false, true} {
					st := statsOf(s, nil, isThin)
					once := mustAdd(t, s, st, given{e, w})
					twice := mustAdd(t, s, once, given{e, impl.MaxUnit})
					if !statsIs(once, statsOf(s, []given{{e, w}}, isThin)) || !statsIs(twice, statsOf(s, []given{{e, w + impl.MaxUnit}}, isThin)) {
						t.Fatalf("%q, %v, %d: %v, then %v", impl.SchemaText(s), e, w, once, twice)
					}
				}
			}
		})
	}
}

func TestWhatIsAddedIsThere(t *testing.T) {
	for seed, s := range rowSchemas(t) {
		list := mixedGiven(s, 120, seed)
		full, lone := impl.StatsNew(s), impl.Thin(impl.StatsNew(s))
		for i, g := range list {
			full, lone = mustAdd(t, s, full, g), mustAdd(t, s, lone, g)
			if !statsIs(full, statsOf(s, list[:i+1], false)) || !statsIs(lone, statsOf(s, list[:i+1], true)) {
				t.Fatalf("%q: behind %d they are %v and %v", impl.SchemaText(s), i+1, full, lone)
			}
			if !statsIs(impl.Thin(full), lone) {
				t.Fatalf("%q: Thin(%v) is not %v", impl.SchemaText(s), full, lone)
			}
			holdAsked(t, s, full)
			holdAsked(t, s, lone)
		}
	}
}

// everyOrder tells the list in each order there is.
func everyOrder(list []given, told func(list []given)) {
	var place func(n int)
	place = func(n int) {
		if n == len(list) {
			told(list)
			return
		}
		for i := n; i < len(list); i++ {
			list[n], list[i] = list[i], list[n]
			place(n + 1)
			list[n], list[i] = list[i], list[n]
		}
	}
	place(0)
}

func TestEveryOrderComesToTheSame(t *testing.T) {
	for _, text := range []string{"age:0;colour=red,blue|no,yes", twoAttrs, fiveAttrs} {
		s := mustSchema(t, text)
		for seed := range 4 {
			list := mixedGiven(s, 6, seed)
			want := statsOf(s, list, false)
			everyOrder(slices.Clone(list), func(turned []given) {
				full := addAll(t, s, impl.StatsNew(s), turned)
				lone := addAll(t, s, impl.Thin(impl.StatsNew(s)), turned)
				if !statsIs(full, want) || !impl.StatsSame(full, want) || !statsIs(lone, impl.Thin(want)) {
					t.Fatalf("%q: %v come to %v and %v", text, turned, full, lone)
				}
			})
		}
	}
}

func TestLongListsInOtherOrdersComeToTheSame(t *testing.T) {
	for seed, s := range rowSchemas(t) {
		list := mixedGiven(s, impl.MaxWeight/impl.MaxUnit, seed+100)
		want := addAll(t, s, impl.StatsNew(s), list)
		if !statsIs(want, statsOf(s, list, false)) {
			t.Errorf("%q: %v", impl.SchemaText(s), want)
		}
		backward := slices.Clone(list)
		slices.Reverse(backward)
		byClass := slices.Clone(list)
		slices.SortStableFunc(byClass, func(a given, b given) int { return a.ex.Class - b.ex.Class })
		byWeight := slices.Clone(list)
		slices.SortStableFunc(byWeight, func(a given, b given) int { return b.weight - a.weight })
		for _, turned := range [][]given{backward, byClass, byWeight, append(slices.Clone(list[50:]), list[:50]...)} {
			if got := addAll(t, s, impl.StatsNew(s), turned); !impl.StatsSame(got, want) || !statsIs(got, want) {
				t.Errorf("%q: in another order %v, not %v", impl.SchemaText(s), got, want)
			}
		}
	}
}

// TestAWeightIsAsGoodAsManyUnits adds 1 so often, and so much at once.
func TestAWeightIsAsGoodAsManyUnits(t *testing.T) {
	s := mustSchema(t, fiveAttrs)
	for _, g := range mixedGiven(s, 60, 5) {
		atOnce, byOne := mustAdd(t, s, impl.StatsNew(s), g), impl.StatsNew(s)
		for range g.weight {
			byOne = mustAdd(t, s, byOne, given{g.ex, 1})
		}
		if !statsIs(atOnce, byOne) {
			t.Errorf("%v: %v at once, %v by one", g, atOnce, byOne)
		}
	}
}

// startingAt are right counts with such totals: thin, with cells all empty, and with all weight in the last bins.
func startingAt(s impl.Schema, totals []int) []impl.Stats {
	empty, last := statsOf(s, nil, false), statsOf(s, nil, false)
	empty.Totals, last.Totals = slices.Clone(totals), slices.Clone(totals)
	for _, cells := range last.Cells {
		copy(cells[len(cells)-len(totals):], totals)
	}
	return []impl.Stats{counts(slices.Clone(totals)), empty, last}
}

func TestAllTogetherMayBeMaxWeight(t *testing.T) {
	s := mustSchema(t, twoAttrs)
	for left := range impl.MaxUnit + 1 {
		for _, first := range []int{0, 1, 499, impl.MaxWeight - left} {
			for _, st := range startingAt(s, []int{first, impl.MaxWeight - left - first}) {
				holdAsked(t, s, st)
				for _, e := range []impl.Ex{example(0, 0, 0), example(1, 2, 1), example(0, -1, 0), example(1, -1, -1)} {
					for w := 1; w <= impl.MaxUnit; w++ {
						if w > left {
							refusedByAdd(t, s, st, e, w)
							continue
						}
						more := mustAdd(t, s, st, given{e, w})
						holdAsked(t, s, more)
						if impl.StatsTotal(s, more) != impl.MaxWeight-left+w || more.Totals[e.Class] != st.Totals[e.Class]+w {
							t.Errorf("%v with %d of %v: %v", st, w, e, more)
						}
					}
				}
			}
		}
	}
}

func TestFullCountsTakeNoMore(t *testing.T) {
	for seed, s := range rowSchemas(t) {
		st, lone, list := impl.StatsNew(s), impl.Thin(impl.StatsNew(s)), []given{}
		for total := 0; total < impl.MaxWeight; {
			g := mixedGiven(s, 1, seed+total)[0]
			g.weight = min(g.weight, impl.MaxWeight-total)
			st, lone, list, total = mustAdd(t, s, st, g), mustAdd(t, s, lone, g), append(list, g), total+g.weight
		}
		if !statsIs(st, statsOf(s, list, false)) || !statsIs(lone, statsOf(s, list, true)) || impl.StatsTotal(s, st) != 999 || impl.StatsTotal(s, lone) != 999 {
			t.Errorf("%q: %v, %v", impl.SchemaText(s), st, lone)
		}
		holdAsked(t, s, st)
		holdAsked(t, s, lone)
		for _, g := range mixedGiven(s, 20, seed) {
			refusedByAdd(t, s, st, g.ex, g.weight)
			refusedByAdd(t, s, lone, g.ex, 1)
		}
	}
}

// wrongUnits are no w from 1 to MaxUnit; the great ones among them wrap round to one.
func wrongUnits() []int {
	return append(wrongWeights(), impl.MaxUnit+1, impl.MaxUnit+2, 100, 1<<8+1, 1<<16+1, -1<<32+1, 1<<62, -1<<62)
}

func TestWrongWeightsAreRefused(t *testing.T) {
	s := mustSchema(t, twoAttrs)
	for _, totals := range [][]int{{0, 0}, {1, 2}, {500, 400}, {impl.MaxWeight, 0}} {
		for _, st := range startingAt(s, totals) {
			for _, w := range wrongUnits() {
				refusedByAdd(t, s, st, example(0, 0, 0), w)
				refusedByAdd(t, s, st, example(1, -1, -1), w)
			}
		}
	}
}

func TestWrongExamplesAreNotAdded(t *testing.T) {
	for _, s := range rowSchemas(t) {
		totals := make([]int, len(s.Classes))
		totals[0], totals[1] = 3, 4
		for _, st := range startingAt(s, totals) {
			right := make([]int, len(s.Attrs))
			for at, a := range s.Attrs {
				for _, wrong := range noPlaces(binsOf(a)) {
					bins := slices.Clone(right)
					bins[at] = wrong
					refusedByAdd(t, s, st, impl.Ex{Bins: bins}, 1)
				}
				refusedByAdd(t, s, st, impl.Ex{Bins: right[:at]}, 1)
			}
			for _, class := range append(noPlaces(len(s.Classes)), -1) {
				refusedByAdd(t, s, st, impl.Ex{Bins: right, Class: class}, 1)
			}
			refusedByAdd(t, s, st, impl.Ex{Bins: append(slices.Clone(right), 0)}, 1)
			refusedByAdd(t, s, st, impl.Ex{Bins: append(slices.Clone(right), -1)}, 1)
			refusedByAdd(t, s, st, impl.Ex{Bins: make([]int, 1000)}, 1)
			refusedByAdd(t, s, st, impl.Ex{}, 1)
			refusedByAdd(t, s, st, impl.Ex{Class: -1, Bins: []int{}}, 1)
		}
	}
}

// statsRight says beside the program whether counts of a right schema are right.
func statsRight(s impl.Schema, t impl.Stats) bool {
	all := new(big.Int)
	for _, n := range t.Totals {
		if n < 0 {
			return false
		}
		all.Add(all, bigInt(n))
	}
	if len(t.Totals) != len(s.Classes) || all.Cmp(bigInt(999)) > 0 {
		return false
	}
	if len(t.Cells) == 0 {
		return true
	}
	if len(t.Cells) != len(s.Attrs) {
		return false
	}
	for at, cells := range t.Cells {
		if len(cells) != binsOf(s.Attrs[at])*len(s.Classes) || slices.ContainsFunc(cells, func(n int) bool { return n < 0 }) {
			return false
		}
		for class, total := range t.Totals {
			sum := new(big.Int)
			for i := class; i < len(cells); i += len(s.Classes) {
				sum.Add(sum, bigInt(cells[i]))
			}
			if sum.Cmp(bigInt(total)) > 0 {
				return false
			}
		}
	}
	return true
}

func holdStats(t *testing.T, s impl.Schema, st impl.Stats) bool {
	t.Helper()
	if statsRight(s, st) {
		holdAsked(t, s, st)
		return true
	}
	holdWrong(t, s, st)
	return false
}

// everyNumbers tells each list of so many numbers from low to high.
func everyNumbers(many int, low int, high int, told func(list []int)) {
	list := limbsOf(low, many)
	for {
		told(list)
		at := 0
		for at < many && list[at] == high {
			list[at] = low
			at++
		}
		if at == many {
			return
		}
		list[at]++
	}
}

func TestEverySmallCountIsRightOrWrong(t *testing.T) {
	s := mustSchema(t, "a:0|x,y")
	right := 0
	everyNumbers(6, -1, 2, func(list []int) {
		if holdStats(t, s, counts(slices.Clone(list[:2]), slices.Clone(list[2:]))) {
			right++
		}
	})
	// Of a total n there are (n+1)(n+2)/2 ways to lay at most n into two bins.
	if right != (1+3+6)*(1+3+6) {
		t.Errorf("%d counts are right", right)
	}
	everyNumbers(3, -1, 2, func(list []int) { holdStats(t, mustSchema(t, "a:0|x,y,z"), counts(slices.Clone(list))) })
}

// greatNumbers are far beyond MaxWeight or far below 0; sums of some of them wrap round.
func greatNumbers() []int {
	return []int{1 << 16, 1 << 32, 1<<32 + 1, 1 << 61, 1 << 62, 1<<62 + 1, math.MaxInt, math.MaxInt - 1, math.MinInt, math.MinInt + 1, -1 << 62, -1 << 32}
}

func TestTotalsRightAndWrong(t *testing.T) {
	two, three := mustSchema(t, twoAttrs), mustSchema(t, fiveAttrs)
	for _, totals := range [][]int{{0, 0}, {999, 0}, {0, 999}, {500, 499}, {1, 998}, {7, 7}} {
		for _, st := range startingAt(two, totals) {
			if !holdStats(t, two, st) {
				t.Errorf("%v are wrong", totals)
			}
		}
	}
	for _, totals := range [][]int{{0, 0, 0}, {999, 0, 0}, {0, 999, 0}, {0, 0, 999}, {333, 333, 333}, {1, 1, 997}} {
		for _, st := range startingAt(three, totals) {
			if !holdStats(t, three, st) {
				t.Errorf("%v are wrong", totals)
			}
		}
	}
	wrong := [][]int{
		nil, {}, {0}, {0, 0, 0}, {0, 0, 0, 0}, {1}, {1, 2, 3}, {1000, 0}, {0, 1000}, {999, 1}, {1, 999}, {500, 500}, {-1, 0}, {0, -1}, {-1, -1}, {1000, -1}, {-1, 1000}, {-1, 999}, limbsOf(0, 1000),
		{math.MaxInt, math.MaxInt}, {math.MinInt, math.MinInt}, {math.MaxInt, math.MinInt}, {math.MinInt, math.MaxInt}, {1 << 62, 1 << 62}, {math.MaxInt, 1}, {1, math.MaxInt}, {-5, math.MinInt},
	}
	for _, n := range greatNumbers() {
		wrong = append(wrong, []int{n, 0}, []int{0, n}, []int{n, n}, []int{n, -n}, []int{-n, n + 5}, []int{999, n})
	}
	for _, totals := range wrong {
		if holdStats(t, two, counts(totals)) || holdStats(t, two, counts(totals, make([]int, 6), make([]int, 4))) {
			t.Errorf("%v are right", totals)
		}
	}
	for _, totals := range [][]int{{0, 0}, {0, 0, 0, 0}, {999, 1, 0}, {0, 999, 1}, {1, 0, 999}, {334, 333, 333}, {1, -1, 0}, {math.MaxInt, math.MaxInt, 2}, {math.MaxInt, math.MaxInt, 7}, {1 << 62, 1 << 62, math.MinInt}} {
		if holdStats(t, three, counts(totals)) {
			t.Errorf("%v are right", totals)
		}
	}
}

func TestCellsMayBeTheClassTotal(t *testing.T) {
	s := mustSchema(t, fiveAttrs)
	for seed := range 20 {
		var list []given
		for _, g := range mixedGiven(s, 40, seed) {
			// Nothing is missing, so that the bins of each class are together its total.
			for i := range g.ex.Bins {
				g.ex.Bins[i] = max(g.ex.Bins[i], 0)
			}
			list = append(list, g)
		}
		right := statsOf(s, list, false)
		if !holdStats(t, s, right) {
			t.Fatalf("%v are wrong", right)
		}
		for at := range right.Cells {
			for i := range right.Cells[at] {
				turned := statsClone(right)
				turned.Cells[at][i]++
				if holdStats(t, s, turned) {
					t.Fatalf("%v are right, with one more at %d, %d", turned, at, i)
				}
				turned.Cells[at][i] -= 2
				if holdStats(t, s, turned) != (turned.Cells[at][i] >= 0) {
					t.Fatalf("%v, with one less at %d, %d", turned, at, i)
				}
				if other := turned.Cells[at]; turned.Cells[at][i] >= 0 {
					// What one class leaves free is no room for another one.
					other[i/3*3+(i+1)%3]++
					if holdStats(t, s, turned) {
						t.Fatalf("%v are right, with one moved from %d, %d to another class", turned, at, i)
					}
				}
			}
		}
	}
}

func TestWrongCellsAreRefused(t *testing.T) {
	s := mustSchema(t, twoAttrs)
	totals := []int{5, 3}
	six, four := []int{1, 0, 2, 3, 2, 0}, []int{0, 1, 5, 2}
	if !holdStats(t, s, counts(totals, six, four)) {
		t.Error("right counts are wrong")
	}
	for _, cells := range [][][]int{
		{nil}, {{}}, {nil, nil}, {{}, {}}, {six}, {four}, {six, nil}, {nil, four}, {six, {}}, {four, six}, {six, six}, {four, four}, {six, four, nil}, {six, four, {}}, {six, four, four}, {nil, six, four},
		{six[:5], four}, {six, four[:3]}, {append(slices.Clone(six), 0), four}, {six, append(slices.Clone(four), 0)}, {six[:4], four}, {six, four[:2]}, {append(slices.Clone(six), 0, 0), four},
		{limbsOf(0, 1000), four}, {six, limbsOf(0, 1000)}, {six, limbsOf(0, 256+4)}, make([][]int, 1000),
		{{6, 0, 0, 0, 0, 0}, four}, {{0, 4, 0, 0, 0, 0}, four}, {six, {0, 0, 0, 4}}, {six, {3, 0, 3, 0}}, {{2, 0, 2, 0, 2, 0}, four}, {{0, 0, 0, 3, 0, 1}, four}, {{-1, 0, 0, 0, 0, 0}, four}, {six, {0, 0, 0, -1}},
		{{6, 0, -1, 0, 0, 0}, four}, {{-1, 0, 6, 0, 0, 0}, four}, {six, {0, 4, 0, -1}}, {six, {0, -1, 0, 4}}, {{1 << 62, 0, 1 << 62, 0, math.MinInt, 0}, four}, {{1 << 62, 0, 1 << 62, 0, math.MaxInt, 0}, four},
		{{math.MaxInt, 0, math.MaxInt, 0, 2, 0}, four}, {{math.MaxInt, 0, math.MaxInt, 0, 7, 0}, four}, {six, {math.MaxInt, 0, math.MinInt, 0}}, {six, {math.MinInt, 0, math.MinInt, 0}}, {six, {math.MinInt, 0, math.MaxInt, 0}},
	} {
		if holdStats(t, s, impl.Stats{Totals: totals, Cells: cells}) {
			t.Errorf("%v are right", cells)
		}
	}
	for at, list := range [][]int{six, four} {
		for i := range list {
			for _, n := range append(greatNumbers(), -1, -5, 6, 8, 999, 1000) {
				turned := counts(totals, slices.Clone(six), slices.Clone(four))
				turned.Cells[at][i] = n
				if holdStats(t, s, turned) {
					t.Errorf("%v are right", turned)
				}
			}
		}
	}
}

// TestRightCountsOfOneSchemaAreWrongOfOthers asks schemas with other attributes or classes.
func TestRightCountsOfOneSchemaAreWrongOfOthers(t *testing.T) {
	all := rowSchemas(t)
	for _, s := range all {
		for _, other := range all {
			for _, st := range []impl.Stats{impl.StatsNew(other), impl.Thin(impl.StatsNew(other))} {
				holdStats(t, s, st)
			}
		}
	}
}

func TestThinCountsAreAskedAsOthers(t *testing.T) {
	s := mustSchema(t, twoAttrs)
	for _, cells := range [][][]int{nil, {}, make([][]int, 0, 5), [][]int{{1, 2}}[:0]} {
		st := impl.Stats{Totals: []int{4, 9}, Cells: cells}
		holdAsked(t, s, st)
		more := mustAdd(t, s, st, given{example(0, 2, -1), 7})
		if !statsIs(more, counts([]int{11, 9})) || impl.StatsTotal(s, more) != 20 || impl.Promise(s, more) != 9 || impl.StatsPure(s, more) {
			t.Errorf("thin counts became %v", more)
		}
	}
}

func TestPureAndPromiseOfNamedOnes(t *testing.T) {
	two, three := mustSchema(t, twoAttrs), mustSchema(t, fiveAttrs)
	for _, c := range []struct {
		schema  impl.Schema
		totals  []int
		promise int
		pure    bool
	}{
		{two, []int{0, 0}, 0, true}, {two, []int{1, 0}, 0, true}, {two, []int{0, 1}, 0, true}, {two, []int{999, 0}, 0, true}, {two, []int{0, 999}, 0, true}, {two, []int{1, 1}, 1, false},
		{two, []int{998, 1}, 1, false}, {two, []int{1, 998}, 1, false}, {two, []int{499, 500}, 499, false}, {two, []int{3, 3}, 3, false},
		{three, []int{0, 0, 0}, 0, true}, {three, []int{5, 0, 0}, 0, true}, {three, []int{0, 5, 0}, 0, true}, {three, []int{0, 0, 5}, 0, true}, {three, []int{5, 5, 0}, 5, false}, {three, []int{5, 0, 5}, 5, false},
		{three, []int{0, 5, 5}, 5, false}, {three, []int{5, 5, 5}, 10, false}, {three, []int{1, 2, 3}, 3, false}, {three, []int{3, 2, 1}, 3, false}, {three, []int{2, 3, 1}, 3, false}, {three, []int{333, 333, 333}, 666, false},
	} {
		for _, st := range startingAt(c.schema, c.totals) {
			if impl.Promise(c.schema, st) != c.promise || impl.StatsPure(c.schema, st) != c.pure {
				t.Errorf("%v: %d, %v", st, impl.Promise(c.schema, st), impl.StatsPure(c.schema, st))
			}
			holdAsked(t, c.schema, st)
		}
	}
}

func TestTopOf(t *testing.T) {
	for _, c := range []struct {
		list []int
		want int
	}{
		{nil, -1}, {[]int{}, -1}, {[]int{5, 6}[:0], -1}, {[]int{0}, 0}, {[]int{-7}, 0}, {[]int{7}, 0}, {[]int{math.MinInt}, 0}, {[]int{math.MaxInt}, 0}, {[]int{2, 5, 5}, 1}, {[]int{5, 2, 5}, 0}, {[]int{0, 0, 0}, 0},
		{[]int{-1, -1}, 0}, {[]int{-3, -2, -1}, 2}, {[]int{-1, -2, -3}, 0}, {[]int{-3, -1, -2}, 1}, {[]int{math.MinInt, math.MinInt}, 0}, {[]int{math.MinInt, math.MinInt + 1}, 1}, {[]int{math.MaxInt, math.MinInt}, 0},
		{[]int{math.MinInt, math.MaxInt}, 1}, {[]int{math.MaxInt - 1, math.MaxInt, math.MaxInt}, 1}, {[]int{1 << 32, 1, 1<<32 + 1}, 2}, {[]int{1, 1 << 32}, 1}, {limbsOf(4, 5000), 0}, {append(limbsOf(4, 5000), 5), 5000},
	} {
		if got := impl.TopOf(c.list); got != c.want {
			t.Errorf("TopOf(%.60v) = %d, not %d", c.list, got, c.want)
		}
	}
	if got := impl.TopOf([]int{1, 3, 2, 9, 9}[:3]); got != 1 {
		t.Errorf("TopOf asks the room behind its list: %d", got)
	}
	for many := 1; many <= 5; many++ {
		everyNumbers(many, -2, 2, func(list []int) {
			if got := impl.TopOf(list); got != slices.Index(list, slices.Max(list)) {
				t.Fatalf("TopOf(%v) = %d", list, got)
			}
		})
	}
}

func TestThinOfAnything(t *testing.T) {
	for _, totals := range [][]int{nil, {}, {0}, {1, 2}, {-1, 5}, {math.MinInt, math.MaxInt}, limbsOf(3, 1000)} {
		for _, cells := range [][][]int{nil, {}, {nil}, {{}}, {{1, 2}, {3}}, {{math.MinInt}, nil}, make([][]int, 1000)} {
			if got := impl.Thin(impl.Stats{Totals: totals, Cells: cells}); !slices.Equal(got.Totals, totals) || len(got.Cells) != 0 {
				t.Errorf("Thin(%.60v, %.60v) = %.60v", totals, cells, got)
			}
		}
	}
}

func TestStatsSame(t *testing.T) {
	list := func() []impl.Stats {
		return []impl.Stats{
			{}, counts([]int{0}), counts([]int{0, 0}), counts([]int{0, 1}), counts([]int{1, 0}), counts([]int{-1}), counts([]int{math.MaxInt}), counts([]int{math.MinInt}), counts([]int{1 << 32}),
			counts(nil, nil), counts(nil, nil, nil), counts(nil, []int{0}), counts(nil, []int{1}), counts(nil, []int{0}, nil), counts(nil, nil, []int{0}), counts(nil, []int{0, 0}), counts(nil, []int{0}, []int{0}),
			counts([]int{1, 2}, []int{1, 2}), counts([]int{1, 2}, []int{2, 1}), counts([]int{1, 2}, []int{1}, []int{2}), counts([]int{1, 2}, []int{1, 2}, nil), counts([]int{1, 2}, nil, []int{1, 2}), counts([]int{1, 2}),
			counts([]int{1, 2, 1, 2}), counts([]int{1}, []int{2, 1, 2}), counts([]int{1, 2}, []int{1, 2, 0}), counts([]int{1, 2, 0}, []int{1, 2}), counts([]int{1, 2}, []int{1, 2}, []int{3}), counts([]int{1, 2}, []int{1, 2}, []int{4}),
			counts([]int{1, 2}, []int{1, 3}, []int{3}), counts([]int{1, 2}, []int{1<<32 + 1, 2}), counts(limbsOf(7, 1000)), counts(limbsOf(7, 1001)), counts(nil, limbsOf(7, 1000)), counts(nil, limbsOf(7, 1001)),
		}
	}
	for i, a := range list() {
		for j, b := range list() {
			if got := impl.StatsSame(a, b); got != (i == j) {
				t.Errorf("StatsSame(%.60v, %.60v) = %v", a, b, got)
			}
		}
	}
	room := []int{1, 2, 3, 4}
	rows := [][]int{room[:2], room[2:]}
	if !impl.StatsSame(counts(room[:2], rows[:1]...), counts([]int{1, 2}, []int{1, 2})) || impl.StatsSame(counts(room[:2], rows[:1]...), counts(room, rows...)) {
		t.Error("the room behind a list is asked")
	}
}

func TestStatsSameTakesEmptyForNil(t *testing.T) {
	empty := []impl.Stats{{}, {Totals: []int{}}, {Cells: [][]int{}}, {Totals: []int{}, Cells: [][]int{}}, {Totals: []int{5}[:0], Cells: [][]int{{5}}[:0]}}
	for _, a := range empty {
		for _, b := range empty {
			if !impl.StatsSame(a, b) {
				t.Errorf("StatsSame(%#v, %#v) is false", a, b)
			}
		}
	}
	if !impl.StatsSame(counts([]int{1}, nil, []int{2}), counts([]int{1}, []int{}, []int{2})) {
		t.Error("an empty list of cells is not the same as nil")
	}
	s := mustSchema(t, twoAttrs)
	if !impl.StatsSame(impl.StatsNew(impl.Schema{}), impl.Stats{}) || !impl.StatsSame(impl.Thin(impl.StatsNew(s)), impl.Stats{Totals: []int{0, 0}, Cells: [][]int{}}) {
		t.Error("counts without anything are not the same as others")
	}
}

// roomyStats has spare numbers behind each list.
func roomyStats(t impl.Stats) impl.Stats {
	made := impl.Stats{Totals: append(slices.Clone(t.Totals), 77, 78)[:len(t.Totals)]}
	for _, list := range t.Cells {
		made.Cells = append(made.Cells, append(slices.Clone(list), 77, 78)[:len(list)])
	}
	made.Cells = append(made.Cells, []int{77}, []int{78})[:len(made.Cells)]
	return made
}

// roomStands asks that nothing stands behind the lists of roomyStats but what stood there.
func roomStands(t impl.Stats) bool {
	for _, list := range append([][]int{t.Totals}, t.Cells...) {
		if !slices.Equal(behind(list), []int{77, 78}) {
			return false
		}
	}
	spare := behind(t.Cells)
	return slices.Equal(spare[0], []int{77}) && slices.Equal(spare[1], []int{78})
}

func TestStatsArgumentsStayAsTheyWere(t *testing.T) {
	plain := mustSchema(t, twoAttrs)
	six, four := []int{1, 0, 2, 3, 2, 0}, []int{0, 1, 5, 2}
	for _, want := range []impl.Stats{
		{}, counts([]int{5, 3}), counts([]int{5, 3}, six, four), counts([]int{999, 0}, make([]int, 6), make([]int, 4)), counts([]int{5, -3}, six, four), counts([]int{5, 3}, six), counts([]int{5, 3}, four, six),
		counts([]int{5, 3, 1}, six, four), counts([]int{5, 3}, nil, four), counts([]int{5, 2}, six, four),
	} {
		for _, e := range []impl.Ex{example(0, 0, 0), example(1, 2, 1), example(0, -1, 1), example(-1, 0, 0), example(0, 3, 0), example(2, 0, 0), example(0, 0)} {
			for _, w := range []int{0, 1, 7, 8} {
				s, st := roomy(plain), roomyStats(want)
				bins := append(slices.Clone(e.Bins), 77, 78)
				impl.StatsNew(s)
				impl.StatsOk(s, st)
				impl.StatsAdd(s, st, impl.Ex{Bins: bins[:len(e.Bins)], Class: e.Class}, w)
				impl.StatsTotal(s, st)
				impl.StatsPure(s, st)
				impl.Promise(s, st)
				impl.TopOf(st.Totals)
				impl.Thin(st)
				impl.StatsSame(st, st)
				if !statsIs(st, want) || !roomStands(st) {
					t.Fatalf("%v became %v", want, st)
				}
				if !slices.Equal(bins, append(slices.Clone(e.Bins), 77, 78)) || !schemaIs(s, plain) || !slices.Equal(behind(s.Classes), []string{"spare", "room"}) || behind(s.Attrs)[0].Name != "spare" {
					t.Fatalf("the example became %v, the schema %v", bins, s)
				}
			}
		}
	}
}

func TestSpareRoomBehindCountsIsNotAsked(t *testing.T) {
	s := roomy(mustSchema(t, twoAttrs))
	st := roomyStats(counts([]int{5, 3}, []int{1, 0, 2, 3, 2, 0}, []int{0, 1, 5, 2}))
	holdAsked(t, s, st)
	more := mustAdd(t, s, st, given{example(1, 0, 0), 2})
	if !statsIs(more, counts([]int{5, 5}, []int{1, 2, 2, 3, 2, 0}, []int{0, 3, 5, 2})) {
		t.Errorf("StatsAdd = %v", more)
	}
	holdWrong(t, s, roomyStats(counts([]int{5, 3}, []int{1, 0, 2, 3, 2, 0})))
	holdWrong(t, s, roomyStats(counts([]int{5}, []int{1, 0, 2, 3, 2, 0}, []int{0, 1, 5, 2})))
	holdWrong(t, s, roomyStats(counts([]int{5, 3}, []int{1, 0, 2, 3, 2}, []int{0, 1, 5, 2})))
	refusedByAdd(t, s, st, example(2, 0, 0), 1)
}

// spoiledApart spoils each list of an answer by itself; the others must stay as they were.
func spoiledApart(t *testing.T, name string, answer func() impl.Stats) {
	t.Helper()
	want := statsClone(answer())
	for at := -1; at < len(want.Cells); at++ {
		got := answer()
		if at < 0 {
			spoil(got.Totals)
			got.Totals = want.Totals
		} else {
			spoil(got.Cells[at])
			got.Cells[at] = want.Cells[at]
		}
		if !statsIs(got, want) {
			t.Errorf("%s: two lists of one answer share memory: %v", name, got)
		}
		if again := answer(); !statsIs(again, want) {
			t.Errorf("%s: an answer turned with an earlier one: %v", name, again)
		}
	}
}

func TestStatsAnswersAreNewMemory(t *testing.T) {
	s := mustSchema(t, fiveAttrs)
	st := statsOf(s, mixedGiven(s, 30, 9), false)
	was := statsClone(st)
	lone := impl.Thin(st)
	full := counts([]int{999, 0, 0})
	spoiledApart(t, "StatsNew", func() impl.Stats { return impl.StatsNew(s) })
	spoiledApart(t, "Thin", func() impl.Stats { return impl.Thin(st) })
	for _, c := range []struct {
		name string
		st   impl.Stats
		e    impl.Ex
		w    int
	}{
		{"all bins", st, example(0, 0, 0, 0, 0, 0), 1}, {"some missing", st, example(1, -1, 0, -1, 1, 3), 7}, {"all missing", st, example(2, -1, -1, -1, -1, -1), 2}, {"no class", st, example(-1, 0, 0, 0, 0, 0), 1},
		{"no weight", st, example(0, 0, 0, 0, 0, 0), 0}, {"too much", st, example(0, 0, 0, 0, 0, 0), 8}, {"thin", lone, example(1, 0, 0, 0, 0, 0), 1}, {"full", full, example(1, 0, 0, 0, 0, 0), 1},
		{"wrong", counts([]int{1}, []int{1, 2}, []int{3}), example(0, 0, 0, 0, 0, 0), 1},
	} {
		before := statsClone(c.st)
		bins := slices.Clone(c.e.Bins)
		spoiledApart(t, c.name, func() impl.Stats {
			got, _ := impl.StatsAdd(s, c.st, c.e, c.w)
			return got
		})
		got, _ := impl.StatsAdd(s, c.st, c.e, c.w)
		spoilStats(got)
		if !statsIs(c.st, before) || !slices.Equal(c.e.Bins, bins) {
			t.Errorf("%s: an answer shares an argument's memory", c.name)
		}
	}
	spoilStats(impl.Thin(st))
	if !statsIs(st, was) {
		t.Error("Thin shares its argument's memory")
	}
}
