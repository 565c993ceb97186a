package tests

import (
	"fmt"
	"math"
	"math/big"
	"slices"
	"strings"
	"testing"

	"loop.example/g00477/impl"
)

// Promise 2: of great numbers sums come apart again; a text is read as the number that it was.

const lastLimb = impl.Base - 1

// beyond is the first number that needs more than MaxLimbs limbs.
func beyond() *big.Int { return new(big.Int).Lsh(big.NewInt(1), 24*impl.MaxLimbs) }

// natOfBig is the list of limbs of a number from 0 on, however great.
func natOfBig(n *big.Int) []int {
	var a []int
	for n, base := new(big.Int).Set(n), big.NewInt(impl.Base); n.Sign() > 0; {
		limb := new(big.Int)
		n.DivMod(n, base, limb)
		a = append(a, int(limb.Int64()))
	}
	return a
}

func bigOfNat(a []int) *big.Int {
	n := new(big.Int)
	for _, l := range slices.Backward(a) {
		n.Lsh(n, 24).Add(n, big.NewInt(int64(l)))
	}
	return n
}

// limbsOf answers that many limbs, all of them alike.
func limbsOf(limb int, many int) []int { return slices.Repeat([]int{limb}, many) }

// mixedNat is a number of that many limbs in which each step tells other limbs.
func mixedNat(many int, step int) []int {
	a := make([]int, many)
	for i := range a {
		a[i] = (i*7654321 + step*(i+3)*1299709 + 1) % impl.Base
	}
	if many > 0 {
		a[many-1] |= 1
	}
	return a
}

// someNats are NatOk: each number of limbs, with noughts inside, with the greatest limbs, and others.
func someNats() [][]int {
	list := [][]int{nil, {1}, {2}, {10}, {lastLimb}, {0, 1}, {1, 1}, {lastLimb, 1}, {0, lastLimb}, {0, 0, 32768}, {lastLimb, lastLimb, 32767}}
	for many := 1; many <= impl.MaxLimbs; many++ {
		list = append(list,
			limbsOf(lastLimb, many),
			append(limbsOf(0, many-1), 1),
			append(limbsOf(0, many-1), lastLimb),
			append(limbsOf(lastLimb, many-1), 1),
			mixedNat(many, 1), mixedNat(many, 2))
	}
	return list
}

// wrongNats are not NatOk.
func wrongNats() [][]int {
	list := [][]int{
		{0}, {0, 0}, {1, 0}, {lastLimb, 0}, {0, 1, 0}, {-1}, {-1, 1}, {1, -1}, {impl.Base}, {impl.Base, 1}, {1, impl.Base}, {1, impl.Base, 1},
		{math.MaxInt}, {math.MinInt}, {math.MinInt, 1}, {1, math.MaxInt, 1}, {1 << 32}, {1<<32 + 1, 1},
		limbsOf(0, impl.MaxLimbs), limbsOf(1, impl.MaxLimbs+1), limbsOf(0, impl.MaxLimbs+1), limbsOf(lastLimb, impl.MaxLimbs+1), limbsOf(7, 1000),
		append(limbsOf(0, impl.MaxLimbs), 1), append(limbsOf(lastLimb, impl.MaxLimbs-1), 0), append(limbsOf(lastLimb, impl.MaxLimbs), 0),
	}
	for at := range impl.MaxLimbs {
		for _, wrong := range []int{-1, impl.Base} {
			a := limbsOf(1, impl.MaxLimbs)
			a[at] = wrong
			list = append(list, a)
		}
	}
	return list
}

func TestNatOk(t *testing.T) {
	if !impl.NatOk([]int{}) {
		t.Error("an empty list is 0")
	}
	for _, a := range someNats() {
		if !impl.NatOk(a) {
			t.Errorf("NatOk(%v) = false", a)
		}
	}
	for _, a := range wrongNats() {
		if impl.NatOk(a) {
			t.Errorf("NatOk(%v) = true", a)
		}
	}
}

func someInts() []int {
	list := []int{0, 1, 2, 9, 10, 1000, math.MaxInt, math.MaxInt - 1}
	for _, at := range []int{impl.Base, impl.Base * impl.Base} {
		for _, times := range []int{1, 2, 255, 32767} {
			list = append(list, at*times-1, at*times, at*times+1)
		}
	}
	return list
}

func TestNatOfAndNatInt(t *testing.T) {
	for _, n := range someInts() {
		a, ok := impl.NatOf(n)
		if !ok || !slices.Equal(a, natOfBig(big.NewInt(int64(n)))) {
			t.Errorf("NatOf(%d) = %v, %v", n, a, ok)
		}
		if got, ok := impl.NatInt(a); got != n || !ok {
			t.Errorf("NatInt(%v) = %d, %v", a, got, ok)
		}
	}
	if n, ok := impl.NatInt([]int{}); n != 0 || !ok {
		t.Errorf("NatInt of the empty list = %d, %v", n, ok)
	}
}

func TestNatOfBelowNoughtIsRefused(t *testing.T) {
	for _, n := range []int{-1, -2, -impl.Base, math.MinInt, math.MinInt + 1} {
		if a, ok := impl.NatOf(n); len(a) != 0 || ok {
			t.Errorf("NatOf(%d) = %v, %v", n, a, ok)
		}
	}
}

func TestNatIntOfOthersIsRefused(t *testing.T) {
	list := append(wrongNats(), []int{0, 0, 32768}, []int{1, 0, 32768}, []int{0, 0, 65536}, []int{5, 0, lastLimb}, []int{0, 0, 0, 1}, []int{7, 0, 0, 256}, []int{1, 0, 0, 0, 1})
	for many := 3; many <= impl.MaxLimbs; many++ {
		list = append(list, limbsOf(lastLimb, many), append([]int{1}, append(limbsOf(0, many-1), 1)...))
	}
	for _, a := range list {
		if n, ok := impl.NatInt(a); n != 0 || ok {
			t.Errorf("NatInt(%v) = %d, %v", a, n, ok)
		}
	}
}

func TestNatIntOfEachNat(t *testing.T) {
	for _, a := range someNats() {
		want, is := 0, bigOfNat(a).IsInt64()
		if is {
			want = int(bigOfNat(a).Int64())
		}
		if n, ok := impl.NatInt(a); n != want || ok != is {
			t.Errorf("NatInt(%v) = %d, %v", a, n, ok)
		}
	}
}

func TestNatCmp(t *testing.T) {
	for _, a := range someNats() {
		for _, b := range someNats() {
			want := bigOfNat(a).Cmp(bigOfNat(b))
			if got, turned := impl.NatCmp(a, b), impl.NatCmp(b, a); got != want || turned != -want {
				t.Errorf("NatCmp(%v, %v) = %d, turned round %d", a, b, got, turned)
			}
		}
	}
	if impl.NatCmp(nil, []int{}) != 0 || impl.NatCmp([]int{}, nil) != 0 {
		t.Error("nil and the empty list are the same number")
	}
}

func TestNatCmpSeesEachLimb(t *testing.T) {
	for many := 1; many <= impl.MaxLimbs; many++ {
		for at := range many {
			a := mixedNat(many, 3)
			b := slices.Clone(a)
			a[at], b[at] = 5, 6
			if impl.NatCmp(a, b) != -1 || impl.NatCmp(b, a) != 1 || impl.NatCmp(a, slices.Clone(a)) != 0 {
				t.Errorf("%v and %v", a, b)
			}
			// A higher limb counts for more than all the lower ones.
			for i := range at {
				a[i], b[i] = lastLimb, 0
			}
			if impl.NatCmp(a, b) != -1 || impl.NatCmp(b, a) != 1 {
				t.Errorf("%v and %v", a, b)
			}
		}
	}
}

// natOp is a function of two great numbers.
type natOp struct {
	name string
	of   func(a []int, b []int) ([]int, bool)
	want func(a *big.Int, b *big.Int) *big.Int
}

func natOps() []natOp {
	return []natOp{
		{"NatAdd", impl.NatAdd, func(a, b *big.Int) *big.Int { return new(big.Int).Add(a, b) }},
		{"NatSub", impl.NatSub, func(a, b *big.Int) *big.Int { return new(big.Int).Sub(a, b) }},
		{"NatMul", impl.NatMul, func(a, b *big.Int) *big.Int { return new(big.Int).Mul(a, b) }},
	}
}

func holdAgainstBig(t *testing.T, op natOp, a []int, b []int) {
	t.Helper()
	n := op.want(bigOfNat(a), bigOfNat(b))
	var want []int
	is := n.Sign() >= 0 && n.Cmp(beyond()) < 0
	if is {
		want = natOfBig(n)
	}
	if got, ok := op.of(a, b); ok != is || !slices.Equal(got, want) {
		t.Errorf("%s(%v, %v) = %v, %v", op.name, a, b, got, ok)
	}
}

func TestSumDifferenceProduct(t *testing.T) {
	for _, op := range natOps() {
		for _, a := range someNats() {
			for _, b := range someNats() {
				holdAgainstBig(t, op, a, b)
			}
		}
	}
}

func TestCarryAndBorrowThroughAllLimbs(t *testing.T) {
	one := []int{1}
	for many := 1; many < impl.MaxLimbs; many++ {
		low, high := limbsOf(lastLimb, many), append(limbsOf(0, many), 1)
		if got, ok := impl.NatAdd(low, one); !ok || !slices.Equal(got, high) {
			t.Errorf("%d limbs and 1: %v, %v", many, got, ok)
		}
		if got, ok := impl.NatAdd(one, low); !ok || !slices.Equal(got, high) {
			t.Errorf("1 and %d limbs: %v, %v", many, got, ok)
		}
		if got, ok := impl.NatSub(high, one); !ok || !slices.Equal(got, low) {
			t.Errorf("%d limbs less 1: %v, %v", many+1, got, ok)
		}
	}
}

func TestExactlyTheMostLimbs(t *testing.T) {
	most := limbsOf(lastLimb, impl.MaxLimbs)
	less := append([]int{lastLimb - 1}, limbsOf(lastLimb, impl.MaxLimbs-1)...)
	if got, ok := impl.NatAdd(less, []int{1}); !ok || !slices.Equal(got, most) {
		t.Errorf("the greatest sum: %v, %v", got, ok)
	}
	half, root := append(limbsOf(0, 7), 1), append(limbsOf(0, 8), 1)
	want := append(limbsOf(0, impl.MaxLimbs-1), 1)
	if got, ok := impl.NatMul(half, root); !ok || !slices.Equal(got, want) {
		t.Errorf("a product of the most limbs: %v, %v", got, ok)
	}
	if got, ok := impl.NatMul(most, []int{1}); !ok || !slices.Equal(got, most) {
		t.Errorf("the greatest product: %v, %v", got, ok)
	}
	if got, ok := impl.NatMul(nil, most); !ok || len(got) != 0 {
		t.Errorf("nought times the greatest: %v, %v", got, ok)
	}
}

func TestOneLimbTooManyIsRefused(t *testing.T) {
	most, root, high := limbsOf(lastLimb, impl.MaxLimbs), append(limbsOf(0, 8), 1), append(limbsOf(0, impl.MaxLimbs-1), impl.Base/2)
	for _, c := range []struct {
		op   natOp
		a, b []int
	}{
		{natOps()[0], most, []int{1}},
		{natOps()[0], []int{1}, most},
		{natOps()[0], most, most},
		{natOps()[0], high, high},
		{natOps()[2], most, []int{2}},
		{natOps()[2], []int{2}, high},
		{natOps()[2], root, root},
		{natOps()[2], most, most},
		{natOps()[2], most, []int{0, 1}},
	} {
		if got, ok := c.op.of(c.a, c.b); len(got) != 0 || ok {
			t.Errorf("%s(%v, %v) = %v, %v", c.op.name, c.a, c.b, got, ok)
		}
	}
}

func TestDifferencesBelowNoughtAreRefused(t *testing.T) {
	for _, a := range someNats() {
		more, ok := impl.NatAdd(a, []int{1})
		if !ok {
			continue
		}
		if got, ok := impl.NatSub(a, more); len(got) != 0 || ok {
			t.Errorf("NatSub(%v, %v) = %v, %v", a, more, got, ok)
		}
		if got, ok := impl.NatSub(a, a); len(got) != 0 || !ok {
			t.Errorf("NatSub(%v, %v) = %v, %v", a, a, got, ok)
		}
	}
}

func TestSumsComeApartAgain(t *testing.T) {
	for _, a := range someNats() {
		for _, b := range someNats() {
			sum, ok := impl.NatAdd(a, b)
			if !ok {
				continue
			}
			if got, ok := impl.NatSub(sum, a); !ok || !slices.Equal(got, b) {
				t.Errorf("%v and %v, less the first: %v, %v", a, b, got, ok)
			}
			if got, ok := impl.NatSub(sum, b); !ok || !slices.Equal(got, a) {
				t.Errorf("%v and %v, less the second: %v, %v", a, b, got, ok)
			}
		}
	}
}

func TestProductWithASum(t *testing.T) {
	for many := range 8 {
		a, b, c := mixedNat(many, 4), mixedNat(8-many, 5), mixedNat(7, 6)
		sum, _ := impl.NatAdd(a, b)
		got, ok := impl.NatMul(sum, c)
		ac, _ := impl.NatMul(a, c)
		bc, _ := impl.NatMul(b, c)
		want, _ := impl.NatAdd(ac, bc)
		if !ok || len(got) == 0 || !slices.Equal(got, want) {
			t.Errorf("(%v and %v) times %v: %v, not %v", a, b, c, got, want)
		}
	}
}

func TestWrongNatsAreRefused(t *testing.T) {
	for _, wrong := range wrongNats() {
		for _, a := range append(wrongNats(), nil, []int{1}, limbsOf(lastLimb, impl.MaxLimbs)) {
			if impl.NatCmp(a, wrong) != -2 || impl.NatCmp(wrong, a) != -2 {
				t.Errorf("NatCmp of %v and %v", a, wrong)
			}
			for _, op := range natOps() {
				if got, ok := op.of(a, wrong); len(got) != 0 || ok {
					t.Errorf("%s(%v, %v) = %v, %v", op.name, a, wrong, got, ok)
				}
				if got, ok := op.of(wrong, a); len(got) != 0 || ok {
					t.Errorf("%s(%v, %v) = %v, %v", op.name, wrong, a, got, ok)
				}
			}
		}
		refusedByNatDiv(t, wrong, 1)
		refusedByNatDiv(t, wrong, lastLimb)
		if got := impl.NatText(wrong); got != "" {
			t.Errorf("NatText(%v) = %q", wrong, got)
		}
	}
}

func refusedByNatDiv(t *testing.T, a []int, d int) {
	t.Helper()
	if quotient, rest, ok := impl.NatDiv(a, d); len(quotient) != 0 || rest != 0 || ok {
		t.Errorf("NatDiv(%v, %d) = %v, %d, %v", a, d, quotient, rest, ok)
	}
}

func TestNatDiv(t *testing.T) {
	for _, a := range someNats() {
		for _, d := range []int{1, 2, 3, 7, 10, 4096, 65537, 9999991, lastLimb - 1, lastLimb} {
			quotient, rest, ok := impl.NatDiv(a, d)
			want, left := new(big.Int).DivMod(bigOfNat(a), big.NewInt(int64(d)), new(big.Int))
			if !ok || rest != int(left.Int64()) || !slices.Equal(quotient, natOfBig(want)) {
				t.Errorf("NatDiv(%v, %d) = %v, %d, %v", a, d, quotient, rest, ok)
			}
			product, _ := impl.NatMul(quotient, []int{d})
			small, _ := impl.NatOf(rest)
			if got, ok := impl.NatAdd(product, small); !ok || !slices.Equal(got, a) {
				t.Errorf("%v by %d does not come together again: %v", a, d, got)
			}
		}
	}
}

func TestWrongDivisorsAreRefused(t *testing.T) {
	for _, a := range [][]int{nil, {1}, {5, 1}, limbsOf(lastLimb, impl.MaxLimbs)} {
		for _, d := range []int{0, -1, -10, impl.Base, impl.Base + 1, -impl.Base, math.MaxInt, math.MinInt} {
			refusedByNatDiv(t, a, d)
		}
	}
}

func TestNatTextIsReadByNatFrom(t *testing.T) {
	for _, a := range someNats() {
		s := impl.NatText(a)
		if s != bigOfNat(a).String() {
			t.Errorf("NatText(%v) = %q", a, s)
		}
		if got, ok := impl.NatFrom(s); !ok || !slices.Equal(got, a) {
			t.Errorf("NatFrom(%q) = %v, %v", s, got, ok)
		}
	}
	if got := impl.NatText([]int{}); got != "0" {
		t.Errorf("NatText of the empty list = %q", got)
	}
}

func TestNatTextOfSmallNumbers(t *testing.T) {
	for n := range 20000 {
		a, _ := impl.NatOf(n)
		if got := impl.NatText(a); got != fmt.Sprint(n) {
			t.Errorf("NatText(%v) = %q", a, got)
		}
	}
}

func TestNatFromAroundTheTens(t *testing.T) {
	for n := big.NewInt(1); n.Cmp(beyond()) < 0; n.Mul(n, big.NewInt(10)) {
		for _, more := range []int64{-1, 0, 1} {
			near := new(big.Int).Add(n, big.NewInt(more))
			if got, ok := impl.NatFrom(near.String()); !ok || !slices.Equal(got, natOfBig(near)) {
				t.Errorf("NatFrom(%q) = %v, %v", near, got, ok)
			}
		}
	}
}

func TestTextsOfNoNatAreRefused(t *testing.T) {
	list := append(wrongDigits(), "-1", "1/2", "a", "12345678901234567890x", "x12345678901234567890", "/", ":", "1/", "1:",
		beyond().String(),
		new(big.Int).Add(beyond(), big.NewInt(1)).String(),
		new(big.Int).Mul(beyond(), big.NewInt(2)).String(),
		new(big.Int).Mul(beyond(), beyond()).String(),
		"0"+new(big.Int).Sub(beyond(), big.NewInt(1)).String(),
		strings.Repeat("9", 116), strings.Repeat("9", 20000), strings.Repeat("0", 20000))
	for _, s := range list {
		if got, ok := impl.NatFrom(s); len(got) != 0 || ok {
			t.Errorf("NatFrom(%.40q) = %v, %v", s, got, ok)
		}
	}
}

func TestEveryShortTextIsNatOrRefused(t *testing.T) {
	everyText("0129-+ ", 5, func(s string) {
		n, is := new(big.Int).SetString(s, 10)
		is = is && n.Sign() >= 0 && n.String() == s
		var want []int
		if is {
			want = natOfBig(n)
		}
		if got, ok := impl.NatFrom(s); ok != is || !slices.Equal(got, want) {
			t.Errorf("NatFrom(%q) = %v, %v", s, got, ok)
		}
	})
}

// askAllOfNat calls every function of the chapter that takes a list.
func askAllOfNat(a []int, b []int) {
	impl.NatOk(a)
	impl.NatInt(a)
	impl.NatCmp(a, b)
	impl.NatDiv(a, 7)
	impl.NatDiv(a, 0)
	impl.NatText(a)
	for _, op := range natOps() {
		op.of(a, b)
		op.of(b, a)
		op.of(a, a)
	}
}

func TestNatWritesIntoNoArgument(t *testing.T) {
	for _, list := range append(append(wrongNats(), someNats()...), limbsOf(9, 40)) {
		a := append(slices.Clone(list), limbsOf(77, 40)...)
		b := append(limbsOf(lastLimb, 8), limbsOf(88, 40)...)
		wholeA, wholeB := slices.Clone(a), slices.Clone(b)
		askAllOfNat(a[:len(list)], b[:8])
		if !slices.Equal(a, wholeA) || !slices.Equal(b, wholeB) {
			t.Errorf("%v became %v, or %v became %v", wholeA, a, wholeB, b)
		}
	}
}

// spoil overwrites an answer with all that it could share.
func spoil(a []int) {
	a = a[:cap(a)]
	for i := range a {
		a[i] = -5
	}
}

func TestNatAnswersAreNewMemory(t *testing.T) {
	for _, a := range someNats() {
		kept := slices.Clone(a)
		for _, b := range [][]int{nil, {1}} {
			for _, op := range natOps() {
				got, _ := op.of(a, b)
				spoil(got)
				got, _ = op.of(b, a)
				spoil(got)
			}
		}
		quotient, _, _ := impl.NatDiv(a, 1)
		spoil(quotient)
		if !slices.Equal(a, kept) {
			t.Errorf("%v became %v", kept, a)
		}
	}
	for _, n := range []int{0, 1, math.MaxInt} {
		first, _ := impl.NatOf(n)
		spoil(first)
		again, _ := impl.NatOf(n)
		if got, ok := impl.NatInt(again); got != n || !ok {
			t.Errorf("NatOf(%d) turned with an earlier answer: %v", n, again)
		}
	}
}
