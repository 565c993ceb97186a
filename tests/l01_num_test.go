package tests

import (
	"bytes"
	"encoding/binary"
	"fmt"
	"math"
	"slices"
	"strings"
	"testing"

	"loop.example/g00477/impl"
)

// Promise 1: what is written is read as it was.

const lastNum = 2147483647

// someNums holds every length of PutNum at its least and its greatest number.
func someNums() []int {
	return []int{0, 1, 9, 127, 128, 129, 300, 16383, 16384, 99999, 2097151, 2097152, 268435455, 268435456, lastNum - 1, lastNum}
}

func someTexts() []string {
	return []string{"", "a", "ab", "\x00", "\xff\x80", "döppel", ",;|", strings.Repeat("x", 127), strings.Repeat("y", 128), strings.Repeat("z", 20000)}
}

// everyText calls told with each text of at most most of those signs.
func everyText(signs string, most int, told func(s string)) {
	level := []string{""}
	for range most + 1 {
		var next []string
		for _, s := range level {
			told(s)
			for i := range len(signs) {
				next = append(next, s+signs[i:i+1])
			}
		}
		level = next
	}
}

func TestDigits(t *testing.T) {
	want := map[int]string{
		0: "0", 7: "7", 10: "10", -1: "-1", -70: "-70", 999999: "999999", -9999: "-9999",
		math.MaxInt: "9223372036854775807", math.MinInt: "-9223372036854775808",
	}
	for n, s := range want {
		if got := impl.Digits(n); got != s {
			t.Errorf("Digits(%d) = %q", n, got)
		}
	}
}

func TestDigitsAreReadByNumber(t *testing.T) {
	for n := range 1000000 {
		if got, ok := impl.Number(impl.Digits(n)); got != n || !ok {
			t.Fatalf("Number of Digits(%d) = %d, %v", n, got, ok)
		}
	}
}

func TestDigitsAreReadBySigned(t *testing.T) {
	for n := -9999; n <= 9999; n++ {
		if got, ok := impl.Signed(impl.Digits(n)); got != n || !ok {
			t.Fatalf("Signed of Digits(%d) = %d, %v", n, got, ok)
		}
	}
}

// wrongDigits are no Digits of any number.
func wrongDigits() []string {
	return []string{
		"", " ", "-", "+", "00", "01", "012", "0000001", "-0", "-00", "-01", "-012", "+0", "+1", "--1", "-+1", "1-",
		" 1", "1 ", "1 2", "- 1", "1\n", "\t1", "1.0", "1,0", "1_0", "0x1", "1e2", "x", "1x", "x1", "\x00", "1\x00", "\xff", "٣", "１",
		"0999999", strings.Repeat("0", 5000) + "1",
	}
}

func refusedByNumber(t *testing.T, s string) {
	t.Helper()
	if n, ok := impl.Number(s); n != 0 || ok {
		t.Errorf("Number(%.30q) = %d, %v", s, n, ok)
	}
}

func refusedBySigned(t *testing.T, s string) {
	t.Helper()
	if n, ok := impl.Signed(s); n != 0 || ok {
		t.Errorf("Signed(%.30q) = %d, %v", s, n, ok)
	}
}

func TestWrongDigitsAreRefused(t *testing.T) {
	for _, s := range wrongDigits() {
		refusedByNumber(t, s)
		refusedBySigned(t, s)
	}
}

func TestNumbersBeyondTheLimitsAreRefused(t *testing.T) {
	huge := []string{
		"4294967296", "9223372036854775807", "9223372036854775808", "18446744073709551616", "18446744073709551617",
		"-9223372036854775808", "-9223372036854775809", "-18446744073709551617", "1" + strings.Repeat("0", 5000),
	}
	for _, s := range append(huge, "1000000", "9999999", "-1", "-9", "-999999") {
		refusedByNumber(t, s)
	}
	for _, s := range append(huge, "10000", "-10000", "99999", "-99999") {
		refusedBySigned(t, s)
	}
}

func TestEveryShortTextIsReadOrRefused(t *testing.T) {
	number, signed := map[string]int{}, map[string]int{}
	for n := range 1000000 {
		number[fmt.Sprint(n)] = n
	}
	for n := -9999; n <= 9999; n++ {
		signed[fmt.Sprint(n)] = n
	}
	everyText("019-+ ", 7, func(s string) {
		want, is := number[s]
		if n, ok := impl.Number(s); n != want || ok != is {
			t.Errorf("Number(%q) = %d, %v", s, n, ok)
		}
		want, is = signed[s]
		if n, ok := impl.Signed(s); n != want || ok != is {
			t.Errorf("Signed(%q) = %d, %v", s, n, ok)
		}
	})
}

func TestPutNumIsShortest(t *testing.T) {
	for _, n := range someNums() {
		want := binary.AppendUvarint(nil, uint64(n))
		if got := impl.PutNum(n); !bytes.Equal(got, want) {
			t.Errorf("PutNum(%d) = % x", n, got)
		}
	}
}

func TestPutNumOfOthersIsNothing(t *testing.T) {
	for _, n := range []int{-1, -128, math.MinInt, lastNum + 1, 1 << 32, 1 << 35, math.MaxInt} {
		if got := impl.PutNum(n); len(got) != 0 {
			t.Errorf("PutNum(%d) = % x", n, got)
		}
	}
}

// around lays other bytes ahead of b and behind it, and tells where b begins.
func around(b []byte) (list [][]byte, at []int) {
	for _, ahead := range []string{"", "\x00", "\x80", "\xff\xff\xff\xff\xff\xff"} {
		for _, behind := range []string{"", "\x00", "\x80", "\xff\xff"} {
			list = append(list, []byte(ahead+string(b)+behind))
			at = append(at, len(ahead))
		}
	}
	return list, at
}

func TestGetNumReadsWhatPutNumWrote(t *testing.T) {
	nums := someNums()
	for n := 0; n < lastNum; n += 104729 {
		nums = append(nums, n)
	}
	for _, n := range nums {
		written := impl.PutNum(n)
		list, at := around(written)
		for i, b := range list {
			got, next, ok := impl.GetNum(b, at[i])
			if got != n || next != at[i]+len(written) || !ok {
				t.Fatalf("GetNum(% x, %d) = %d, %d, %v", b, at[i], got, next, ok)
			}
		}
	}
}

func refusedByGetNum(t *testing.T, b []byte, at int) {
	t.Helper()
	if n, next, ok := impl.GetNum(b, at); n != 0 || next != 0 || ok {
		t.Errorf("GetNum(% x, %d) = %d, %d, %v", b, at, n, next, ok)
	}
}

func TestNumsTooLongAreRefused(t *testing.T) {
	for _, s := range []string{
		"\x80\x00", "\xff\x00", "\x80\x80\x00", "\xac\x82\x00", "\x81\x80\x80\x80\x00", "\xff\xff\xff\xff\x00",
		"\x80\x80\x80\x80\x80\x00", "\x80\x80\x80\x80\x80\x01", "\xff\xff\xff\xff\x87\x00",
		"\x80\x80\x80\x80\x80\x80\x80\x80\x80\x00", "\x80\x80\x80\x80\x80\x80\x80\x80\x80\x80\x01", "\x80\x80\x80\x80\x80\x80\x80\x80\x80\x80\x80\x80\x80\x80\x80\x80\x80\x80\x80\x05",
	} {
		refusedByGetNum(t, []byte(s), 0)
		refusedByGetNum(t, []byte("\x07"+s+"\x07"), 1)
	}
}

func TestNumsBeyondTheLimitAreRefused(t *testing.T) {
	for _, n := range []uint64{lastNum + 1, 1<<32 - 1, 1 << 32, 1<<35 - 1, 1 << 35, 1 << 62, math.MaxInt64, math.MaxUint64} {
		refusedByGetNum(t, binary.AppendUvarint(nil, n), 0)
	}
}

func TestNumsCutOffAreRefused(t *testing.T) {
	for _, n := range someNums() {
		b := impl.PutNum(n)
		for i := range b {
			refusedByGetNum(t, b[:i], 0)
		}
	}
	refusedByGetNum(t, bytes.Repeat([]byte{128}, 100), 0)
}

// wrongPlaces are no places in n bytes.
func wrongPlaces(n int) []int {
	return []int{-1, -2, math.MinInt, n, n + 1, n + 5, math.MaxInt - 4, math.MaxInt}
}

func TestGetAtWrongPlacesIsRefused(t *testing.T) {
	for _, b := range [][]byte{nil, {}, {0}, {1, 'x'}, {5, 4, 3, 2, 1}, make([]byte, 3, 20)} {
		for _, at := range wrongPlaces(len(b)) {
			refusedByGetNum(t, b, at)
			refusedByGetText(t, b, at)
		}
	}
}

func TestEveryRowOfBytesIsReadOrRefused(t *testing.T) {
	everyText("\x00\x01\x07\x08\x7f\x80\x87\xff", 6, func(s string) {
		b := []byte(s)
		v, size := binary.Uvarint(b)
		is := size > 0 && v <= lastNum && bytes.Equal(binary.AppendUvarint(nil, v), b[:size])
		n, next, ok := impl.GetNum(b, 0)
		if !is {
			v, size = 0, 0
		}
		if n != int(v) || next != size || ok != is {
			t.Errorf("GetNum(% x, 0) = %d, %d, %v", b, n, next, ok)
		}
	})
}

func TestPutText(t *testing.T) {
	for _, s := range someTexts() {
		want := append(binary.AppendUvarint(nil, uint64(len(s))), s...)
		if got := impl.PutText(s); !bytes.Equal(got, want) {
			t.Errorf("PutText(%.30q) = % x", s, got)
		}
	}
}

func TestGetTextReadsWhatPutTextWrote(t *testing.T) {
	for _, s := range someTexts() {
		written := impl.PutText(s)
		list, at := around(written)
		for i, b := range list {
			got, next, ok := impl.GetText(b, at[i])
			if got != s || next != at[i]+len(written) || !ok {
				t.Fatalf("GetText of %.30q at %d = %.30q, %d, %v", s, at[i], got, next, ok)
			}
		}
	}
}

func refusedByGetText(t *testing.T, b []byte, at int) {
	t.Helper()
	if s, next, ok := impl.GetText(b, at); s != "" || next != 0 || ok {
		t.Errorf("GetText(% .30x, %d) = %.30q, %d, %v", b, at, s, next, ok)
	}
}

func TestTextsCutOffAreRefused(t *testing.T) {
	for _, s := range someTexts() {
		b := impl.PutText(s)
		for i := 0; i < len(b); i += 1 + i/50 {
			refusedByGetText(t, b[:i], 0)
		}
		refusedByGetText(t, b[:len(b)-1], 0)
		refusedByGetText(t, append([]byte{3, 'a', 'b'}, b[:len(b)-1]...), 3)
	}
}

func TestTextsOfWrongLengthAreRefused(t *testing.T) {
	for _, s := range []string{
		"\x01", "\x03ab", "\x80\x00", "\x81\x00x", "\x82\x80\x00xy", "\x80", "\xff\xff\xff\xff\x07x", "\xff\xff\xff\xff\x08x",
		"\x80\x80\x80\x80\x80\x01x", "\xff\xff\xff\xff\xff\xff\xff\xff\x7fx", "\xff\xff\xff\xff\xff\xff\xff\xff\xff\x01x",
	} {
		refusedByGetText(t, []byte(s), 0)
	}
}

func TestManyAreReadOneBehindTheOther(t *testing.T) {
	var b []byte
	for _, n := range someNums() {
		b = append(b, impl.PutNum(n)...)
		for _, s := range someTexts() {
			b = append(b, impl.PutText(s)...)
		}
	}
	at := 0
	for _, n := range someNums() {
		got, next, ok := impl.GetNum(b, at)
		if got != n || !ok {
			t.Fatalf("GetNum at %d = %d, %v, not %d", at, got, ok, n)
		}
		at = next
		for _, s := range someTexts() {
			text, next, ok := impl.GetText(b, at)
			if text != s || !ok {
				t.Fatalf("GetText at %d = %.30q, %v, not %.30q", at, text, ok, s)
			}
			at = next
		}
	}
	if at != len(b) {
		t.Errorf("read up to %d of %d", at, len(b))
	}
}

func TestParts(t *testing.T) {
	for _, c := range []struct {
		s    string
		by   byte
		want []string
	}{
		{"", ',', []string{""}},
		{"", 0, []string{""}},
		{"a", ',', []string{"a"}},
		{",", ',', []string{"", ""}},
		{",,", ',', []string{"", "", ""}},
		{"a,,b,", ',', []string{"a", "", "b", ""}},
		{",a b,c", ',', []string{"", "a b", "c"}},
		{"a b,c", ' ', []string{"a", "b,c"}},
		{"a\x00b", 0, []string{"a", "b"}},
		{"a\xffb\xff", 255, []string{"a", "b", ""}},
		{"ä", 0xa4, []string{"\xc3", ""}},
		{"\xc3\xbf", 255, []string{"\xc3\xbf"}},
	} {
		if got := impl.Parts(c.s, c.by); !slices.Equal(got, c.want) {
			t.Errorf("Parts(%q, %q) = %q", c.s, c.by, got)
		}
	}
}

func TestPartsPutTogetherAgain(t *testing.T) {
	everyText("a,\x00\xc3\xff", 5, func(s string) {
		for _, by := range []byte("a,\x00\xc3\xff;") {
			sign := string([]byte{by})
			parts := impl.Parts(s, by)
			if strings.Join(parts, sign) != s || len(parts) != strings.Count(s, sign)+1 {
				t.Errorf("Parts(%q, %q) = %q", s, by, parts)
			}
		}
	})
}

func TestGetWritesIntoNoArgument(t *testing.T) {
	for _, s := range []string{"\x02ab\x07\x07", "\x80\x00\x07\x07\x07", "\xff\xff\xff\xff\x07", "\x7fabcd", "\x00\x00\x00\x00\x00"} {
		whole := []byte(s)
		for n := range len(whole) {
			for at := -1; at <= n; at++ {
				impl.GetNum(whole[:n], at)
				impl.GetText(whole[:n], at)
			}
		}
		if string(whole) != s {
			t.Errorf("%q became %q", s, whole)
		}
	}
}

func TestSpareRoomIsNotRead(t *testing.T) {
	whole := []byte("\x81\x01\x02ab")
	refusedByGetNum(t, whole[:1], 0)
	refusedByGetText(t, whole[:4], 2)
}

func TestAnswersAreNewMemory(t *testing.T) {
	num, text := impl.PutNum(300), impl.PutText("ab")
	parts := impl.Parts("a,b", ',')
	clear(num)
	clear(text)
	clear(parts)
	if !bytes.Equal(impl.PutNum(300), []byte{172, 2}) || !bytes.Equal(impl.PutText("ab"), []byte("\x02ab")) || !slices.Equal(impl.Parts("a,b", ','), []string{"a", "b"}) {
		t.Error("an answer turned with an earlier one")
	}
	b := []byte("\x02ab")
	s, _, _ := impl.GetText(b, 0)
	clear(b)
	if s != "ab" {
		t.Errorf("the text turned with the bytes: %q", s)
	}
}
