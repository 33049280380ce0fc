// Package u256 has numbers of 256 bits, whose failures are told.
package u256

import (
	"math"
	"math/bits"

	"tallage/api"
)

// wordBits is how many bits a word has.
const wordBits = 64

// Of tells the number n.
func Of(n uint64) api.U { return api.U{n} }

// Int tells a as an int; false beyond 2^63 - 1.
func Int(a api.U) (int, bool) {
	if a != Of(a[0]) || a[0] > math.MaxInt64 {
		return 0, false
	}
	return int(a[0]), true
}

// Add tells the sum; false where it needs more than 256 bits.
func Add(a, b api.U) (api.U, bool) {
	var sum api.U
	var carry uint64
	for i := range len(sum) {
		sum[i], carry = bits.Add64(a[i], b[i], carry)
	}
	if carry != 0 {
		return api.U{}, false
	}
	return sum, true
}

// Sub tells the difference; false where it is below 0.
func Sub(a, b api.U) (api.U, bool) {
	var rest api.U
	var borrow uint64
	for i := range len(rest) {
		rest[i], borrow = bits.Sub64(a[i], b[i], borrow)
	}
	if borrow != 0 {
		return api.U{}, false
	}
	return rest, true
}

// Mul tells the product; false where it needs more than 256 bits.
func Mul(a, b api.U) (api.U, bool) {
	var w [8]uint64
	for i := range len(a) {
		var carry uint64
		for j := range len(b) {
			high, low := bits.Mul64(a[i], b[j])
			var c uint64
			low, c = bits.Add64(low, carry, 0)
			high += c
			w[i+j], c = bits.Add64(w[i+j], low, 0)
			carry = high + c
		}
		w[i+len(b)] = carry
	}
	if highHalf(w) != (api.U{}) {
		return api.U{}, false
	}
	return lowHalf(w), true
}

// Div tells how often b is in a, and what is left; false where b is 0.
func Div(a, b api.U) (api.U, api.U, bool) {
	if b == (api.U{}) {
		return api.U{}, api.U{}, false
	}
	// A divisor whose top bit is set makes each guess of a quotient's word
	// too great by two at most, so both numbers are shifted alike.
	shift := 256 - Bits(b)
	divisor := lowHalf(shiftLeft(b, shift))
	dividend := shiftLeft(a, shift)
	rest := highHalf(dividend)
	var quotient api.U
	for i := range len(quotient) {
		at := len(quotient) - 1 - i
		quotient[at], rest = nextWord(rest, dividend[at], divisor)
	}
	return quotient, shiftRight(rest, shift), true
}

// nextWord tells the next word of a quotient, and what is left: rest is below
// the divisor, and next is the dividend's word that follows it.
func nextWord(rest api.U, next uint64, divisor api.U) (uint64, api.U) {
	guess := uint64(math.MaxUint64)
	if rest[3] < divisor[3] {
		guess, _ = bits.Div64(rest[3], rest[2], divisor[3])
	}
	left := [5]uint64{next, rest[0], rest[1], rest[2], rest[3]}
	var carry, borrow uint64
	for i := range len(divisor) {
		high, low := bits.Mul64(divisor[i], guess)
		low, c := bits.Add64(low, carry, 0)
		carry = high + c
		left[i], borrow = bits.Sub64(left[i], low, borrow)
	}
	left[4], borrow = bits.Sub64(left[4], carry, borrow)
	for borrow != 0 {
		guess--
		var c uint64
		for i := range len(divisor) {
			left[i], c = bits.Add64(left[i], divisor[i], c)
		}
		left[4], c = bits.Add64(left[4], 0, c)
		borrow -= c
	}
	return guess, api.U{left[0], left[1], left[2], left[3]}
}

// lowHalf tells the lower four of eight words.
func lowHalf(w [8]uint64) api.U { return api.U{w[0], w[1], w[2], w[3]} }

// highHalf tells the upper four of eight words.
func highHalf(w [8]uint64) api.U { return api.U{w[4], w[5], w[6], w[7]} }

// shiftLeft tells a times 2^by, by being 0 to 255.
func shiftLeft(a api.U, by int) [8]uint64 {
	var w [8]uint64
	words, rest := by/wordBits, by%wordBits
	for i := range len(a) {
		w[i+words] |= a[i] << rest
		w[i+words+1] |= a[i] >> (wordBits - rest)
	}
	return w
}

// shiftRight tells a divided by 2^by, by being 0 to 255.
func shiftRight(a api.U, by int) api.U {
	var w api.U
	words, rest := by/wordBits, by%wordBits
	for i := range len(a) - words {
		w[i] = a[i+words] >> rest
		if i+words+1 < len(a) {
			w[i] |= a[i+words+1] << (wordBits - rest)
		}
	}
	return w
}

// Cmp tells -1, 0 or 1: a is less than b, the same, or more.
func Cmp(a, b api.U) int {
	if a == b {
		return 0
	}
	if _, ok := Sub(a, b); ok {
		return 1
	}
	return -1
}

// Min tells the lesser one.
func Min(a, b api.U) api.U {
	if Cmp(a, b) > 0 {
		return b
	}
	return a
}

// Bits tells how many binary digits a has.
func Bits(a api.U) int {
	most := 0
	for i := range len(a) {
		if a[i] != 0 {
			most = i*wordBits + bits.Len64(a[i])
		}
	}
	return most
}

// Bytes tells the 32 bytes of a, the greatest first.
func Bytes(a api.U) []byte {
	b := make([]byte, 32)
	for i := range len(b) {
		b[len(b)-1-i] = byte(a[i/8] >> (i % 8 * 8))
	}
	return b
}

// FromBytes tells the number of 32 bytes; false of any other count.
func FromBytes(b []byte) (api.U, bool) {
	var a api.U
	if len(b) != 32 {
		return a, false
	}
	for i := range len(b) {
		a[i/8] |= uint64(b[len(b)-1-i]) << (i % 8 * 8)
	}
	return a, true
}

// Text tells a in decimal digits.
func Text(a api.U) string {
	if a == (api.U{}) {
		return "0"
	}
	var digits [78]byte
	at := len(digits)
	for a != (api.U{}) {
		var digit api.U
		a, digit, _ = Div(a, Of(10))
		at--
		digits[at] = '0' + byte(digit[0])
	}
	return string(digits[at:])
}

// Parse tells the number of a text that Text tells of one.
func Parse(s string) (api.U, bool) {
	if s == "" || len(s) > 1 && s[0] == '0' {
		return api.U{}, false
	}
	var a api.U
	for i := range len(s) {
		if s[i] < '0' || s[i] > '9' {
			return api.U{}, false
		}
		tens, fits := Mul(a, Of(10))
		sum, ok := Add(tens, Of(uint64(s[i]-'0')))
		if !fits || !ok {
			return api.U{}, false
		}
		a = sum
	}
	return a, true
}
