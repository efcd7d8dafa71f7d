package value

import "math"

// farthest is how far from 0 an Int may be: -2^63 is so far, but 2^63 is one more than may be.
const farthest = 1 << 63

// leadingInt is the number that stands at the begin of s, behind blanks.
func leadingInt(s string) int64 {
	for s != "" && isBlank(s[0]) {
		s = s[1:]
	}
	below := s != "" && s[0] == '-'
	if below || s != "" && s[0] == '+' {
		s = s[1:]
	}
	far := leadingDigits(s)
	if below {
		// 0 less 2^63 wraps round to -2^63, which is what is meant.
		return -int64(far)
	}
	return int64(min(far, math.MaxInt64))
}

// leadingDigits is the number that the digits at the begin of s tell, or farthest, if that is beyond.
func leadingDigits(s string) uint64 {
	var n uint64
	for i := range len(s) {
		if s[i] < '0' || s[i] > '9' {
			break
		}
		if n > farthest/10 {
			return farthest
		}
		n = min(n*10+uint64(s[i]-'0'), farthest)
	}
	return n
}

// isBlank: may c stand ahead of a number?
func isBlank(c byte) bool {
	return c == ' ' || 9 <= c && c <= 13
}

// add is a + b; is it within 64 bits?
func add(a, b int64) (int64, bool) {
	sum := a + b
	return sum, (sum > a) == (b > 0)
}

// subtract is a - b; is it within 64 bits?
func subtract(a, b int64) (int64, bool) {
	rest := a - b
	return rest, (rest < a) == (b > 0)
}

// multiply is a * b; is it within 64 bits?
func multiply(a, b int64) (int64, bool) {
	if b == 0 {
		return 0, true
	}
	product := a * b
	// -2^63 by -1 wraps round to itself, also when it is divided again.
	return product, product/b == a && !isTooFar(a, b)
}

// isTooFar: is a by b, times or divided, 2^63 for the one reason that below 0 there is one number more?
func isTooFar(a, b int64) bool {
	return a == math.MinInt64 && b == -1
}

// absolute is how far n is from 0; is it within 64 bits?
func absolute(n int64) (int64, bool) {
	if n < 0 {
		return subtract(0, n)
	}
	return n, true
}

// addWithin is a + b, or the greatest or the least number, if that is beyond 64 bits.
func addWithin(a, b int64) int64 {
	sum, within := add(a, b)
	if within {
		return sum
	}
	if b > 0 {
		return math.MaxInt64
	}
	return math.MinInt64
}
