package impl

import (
	"errors"
	"strconv"
	"strings"
)

const (
	maxNumber   = 999999
	maxSigned   = 9999
	maxNum      = 2147483647
	maxNumBytes = 5 // maxNum has 31 bits, seven a byte
)

var errNoNumber = errors.New("no number")
var errNoText = errors.New("no text")

func Digits(n int) string { return strconv.Itoa(n) }

func Number(s string) (n int, ok bool) {
	defer func() {
		if recover() != nil {
			n, ok = 0, false
		}
	}()
	return mustDigits(s, 0, maxNumber), true
}

func Signed(s string) (n int, ok bool) {
	defer func() {
		if recover() != nil {
			n, ok = 0, false
		}
	}()
	return mustDigits(s, -maxSigned, maxSigned), true
}

// mustDigits answers the number from low to high of which s is Digits, and panics where there is none.
func mustDigits(s string, low int, high int) int {
	n, err := strconv.Atoi(s)
	if err != nil || n < low || n > high {
		panic(errNoNumber)
	}
	// Atoi also takes noughts ahead, `-0` and `+`; Digits writes none of these.
	if Digits(n) != s {
		panic(errNoNumber)
	}
	return n
}

func PutNum(n int) []byte {
	if n < 0 || n > maxNum {
		return nil
	}
	var b []byte
	for n > 127 {
		b = append(b, byte(n&127|128))
		n >>= 7
	}
	return append(b, byte(n))
}

func GetNum(b []byte, at int) (n int, next int, ok bool) {
	defer func() {
		if recover() != nil {
			n, next, ok = 0, 0, false
		}
	}()
	n, next = mustNum(b, at)
	return n, next, true
}

// mustNum answers the number that begins at that place and the place behind it, and panics where there is none.
func mustNum(b []byte, at int) (int, int) {
	if at < 0 || at > len(b) {
		panic(errNoNumber)
	}
	n := 0
	for i, c := range b[at:min(len(b), at+maxNumBytes)] {
		n |= int(c&127) << (7 * i)
		if c > 127 {
			continue
		}
		// A last byte 0 behind others adds nothing: the number would be shorter without it.
		if n > maxNum || c == 0 && i > 0 {
			panic(errNoNumber)
		}
		return n, at + i + 1
	}
	panic(errNoNumber)
}

func PutText(s string) []byte { return append(PutNum(len(s)), s...) }

func GetText(b []byte, at int) (s string, next int, ok bool) {
	defer func() {
		if recover() != nil {
			s, next, ok = "", 0, false
		}
	}()
	s, next = mustText(b, at)
	return s, next, true
}

// mustText answers the text that begins at that place and the place behind it, and panics where there is none.
func mustText(b []byte, at int) (string, int) {
	n, from := mustNum(b, at)
	if n > len(b)-from {
		panic(errNoText)
	}
	return string(b[from : from+n]), from + n
}

func Parts(s string, by byte) []string {
	// A conversion of the byte itself would make two bytes of one from 128 on.
	parts := strings.Split(s, string([]byte{by}))
	for i, p := range parts {
		// Split answers pieces of s; an answer shares no memory with an argument.
		parts[i] = strings.Clone(p)
	}
	return parts
}
