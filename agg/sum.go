package agg

import "math/bits"

// A sum stands in two numbers, its lowest 64 bits and its highest, by two's complement: so what it is on the way may be beyond 64 bits.

// plus is sum and n, together.
func plus(sum [2]uint64, n int64) [2]uint64 {
	low, carry := bits.Add64(sum[0], uint64(n), 0)
	high, _ := bits.Add64(sum[1], highest(n), carry)
	return [2]uint64{low, high}
}

// number is sum as one number; is it within 64 bits?
func number(sum [2]uint64) (int64, bool) {
	n := int64(sum[0])
	return n, sum[1] == highest(n)
}

// highest is the bits above its 64 of n: all those of a number below 0.
func highest(n int64) uint64 {
	return uint64(n >> 63)
}
