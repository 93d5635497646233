// Package decimal is layer 1: numbers that do not run over, and their digits. See shared/doc/01-decimal.md.
package decimal

import (
	"iter"
	"math/bits"

	"bellman/api"
)

// Add adds two numbers.
func Add(a, b uint64) (uint64, api.Errno) {
	sum, carry := bits.Add64(a, b, 0)
	if carry != 0 {
		return 0, api.ErrFull
	}
	return sum, api.OK
}

// Sub takes one from another one.
func Sub(a, b uint64) (uint64, api.Errno) {
	if a < b {
		return 0, api.ErrLow
	}
	return a - b, api.OK
}

// Mul multiplies two numbers.
func Mul(a, b uint64) (uint64, api.Errno) {
	high, low := bits.Mul64(a, b)
	if high != 0 {
		return 0, api.ErrFull
	}
	return low, api.OK
}

// Next is one more.
func Next(n, end uint64) (uint64, api.Errno) {
	if n >= end {
		return 0, api.ErrFull
	}
	return n + 1, api.OK
}

// Sum adds numbers.
func Sum(l ...uint64) (uint64, api.Errno) {
	return fold(Add, 0, l...)
}

// Clamp keeps a number between two.
func Clamp(n, least, most uint64) (uint64, api.Errno) {
	if least > most {
		return 0, api.ErrArg
	}
	return min(max(n, least), most), api.OK
}

// Text tells its text.
func Text(n uint64) string {
	return written(n, bases[ten])
}

// Hex tells its hex.
func Hex(n uint64) string {
	return written(n, bases[sixteen])
}

// Parse reads a text.
func Parse(s string) (uint64, api.Errno) {
	r := reader{text(s), bases[ten]}
	// A nought ahead makes it no number's text, however great the number is.
	if r.padded() {
		return 0, api.ErrText
	}
	return r.number()
}

// Digits reads digits.
func Digits(s string) (uint64, api.Errno) {
	return reader{text(s), bases[ten]}.number()
}

// HexDigits reads hex digits.
func HexDigits(s string) (uint64, api.Errno) {
	return reader{text(s), bases[sixteen]}.number()
}

// Each goes over what the digits are worth, from the lowest one on, each with its place.
func Each(n uint64) iter.Seq2[int, byte] {
	return digits(n, bases[ten])
}

// fold puts numbers together, one by one, up to the first refusal.
func fold[T any](put func(T, T) (T, api.Errno), first T, rest ...T) (T, api.Errno) {
	whole := first
	for _, one := range rest {
		more, e := put(whole, one)
		if e != api.OK {
			var none T
			return none, e
		}
		whole = more
	}
	return whole, api.OK
}
