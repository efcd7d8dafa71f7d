package bytes

import (
	"math"
	"math/big"
	"testing"

	"cardindex/api"
)

// ordinary numbers and edges: each power of two, one less and one more.
func someNumbers() []uint64 {
	l := []uint64{0, 5, 300, 1000000, math.MaxUint64}
	for i := range 64 {
		p := uint64(1) << i
		l = append(l, p-1, p, p+1)
	}
	return l
}

// digitsOf says the chapter's words in another way: by division, with big numbers.
func digitsOf(n uint64) []byte {
	var out []byte
	rest, base, digit := new(big.Int).SetUint64(n), big.NewInt(128), new(big.Int)
	for {
		rest.DivMod(rest, base, digit)
		if rest.Sign() == 0 {
			return append(out, byte(digit.Int64()))
		}
		out = append(out, byte(digit.Int64()+128))
	}
}

// numberAt says the chapter's words about GetUint in another way: the digits are collected first, then judged.
func numberAt(b []byte, at int) (uint64, int, api.Errno) {
	if at < 0 || at > len(b) {
		return 0, 0, api.ErrArg
	}
	end, ended := at, false
	for end < len(b) && !ended {
		ended = b[end] < 128
		end++
	}
	if !ended && end-at < 10 {
		return 0, 0, api.ErrShort
	}
	sum := new(big.Int)
	for i := end - 1; i >= at; i-- {
		sum.Mul(sum, big.NewInt(128))
		sum.Add(sum, big.NewInt(int64(b[i]%128)))
	}
	if !ended || end-at > 1 && b[end-1] == 0 || !sum.IsUint64() {
		return 0, 0, api.ErrBytes
	}
	return sum.Uint64(), end, api.OK
}

// P1.1: how numbers are written.
func TestUintWrites(t *testing.T) {
	for _, c := range []struct {
		n    uint64
		want string
	}{
		{0, "\x00"}, {1, "\x01"}, {5, "\x05"}, {127, "\x7f"}, {128, "\x80\x01"}, {129, "\x81\x01"},
		{255, "\xff\x01"}, {256, "\x80\x02"}, {300, "\xac\x02"}, {16383, "\xff\x7f"}, {16384, "\x80\x80\x01"},
		{1<<63 - 1, "\xff\xff\xff\xff\xff\xff\xff\xff\x7f"},
		{1 << 63, "\x80\x80\x80\x80\x80\x80\x80\x80\x80\x01"},
		{math.MaxUint64, "\xff\xff\xff\xff\xff\xff\xff\xff\xff\x01"},
	} {
		if got := string(Uint(nil, c.n)); got != c.want {
			t.Errorf("%d is written %q, not %q", c.n, got, c.want)
		}
	}
	for _, n := range someNumbers() {
		if got, want := string(Uint(nil, n)), string(digitsOf(n)); got != want {
			t.Errorf("%d is written %q, not %q", n, got, want)
		}
		if got, want := string(Uint([]byte("ahead"), n)), "ahead"+string(digitsOf(n)); got != want {
			t.Errorf("%d is written behind ahead %q, not %q", n, got, want)
		}
	}
}

// P1.2: what GetUint tells, and refuses.
func TestGetUintTells(t *testing.T) {
	for _, c := range []struct {
		b    string
		at   int
		n    uint64
		next int
		err  api.Errno
	}{
		{"\x00", 0, 0, 1, api.OK},
		{"\x7f", 0, 127, 1, api.OK},
		{"\x80\x01", 0, 128, 2, api.OK},
		{"\x80\x01", 1, 1, 2, api.OK},
		{"\x09\xac\x02", 1, 300, 3, api.OK},
		{"\x09\xac\x02\x80\x00", 1, 300, 3, api.OK},
		{"\xff\xff\xff\xff\xff\xff\xff\xff\x7f", 0, 1<<63 - 1, 9, api.OK},
		{"\x80\x80\x80\x80\x80\x80\x80\x80\x80\x01", 0, 1 << 63, 10, api.OK},
		{"\xff\xff\xff\xff\xff\xff\xff\xff\xff\x01", 0, math.MaxUint64, 10, api.OK},
		{"", -1, 0, 0, api.ErrArg},
		{"", 1, 0, 0, api.ErrArg},
		{"\x05", -1, 0, 0, api.ErrArg},
		{"\x05", 2, 0, 0, api.ErrArg},
		{"\x05", math.MaxInt, 0, 0, api.ErrArg},
		{"\x05", math.MinInt, 0, 0, api.ErrArg},
		{"", 0, 0, 0, api.ErrShort},
		{"\x05", 1, 0, 0, api.ErrShort},
		{"\x80", 0, 0, 0, api.ErrShort},
		{"\xff\xff\xff\xff\xff\xff\xff\xff\xff", 0, 0, 0, api.ErrShort},
		{"\x80\x00", 0, 0, 0, api.ErrBytes},
		{"\xff\x80\x00", 0, 0, 0, api.ErrBytes},
		{"\x80\x80\x80\x80\x80\x80\x80\x80\x80\x00", 0, 0, 0, api.ErrBytes},
		{"\x80\x80\x80\x80\x80\x80\x80\x80\x80\x02", 0, 0, 0, api.ErrBytes},
		{"\x80\x80\x80\x80\x80\x80\x80\x80\x80\x03", 0, 0, 0, api.ErrBytes},
		{"\xff\xff\xff\xff\xff\xff\xff\xff\xff\x7f", 0, 0, 0, api.ErrBytes},
		{"\x80\x80\x80\x80\x80\x80\x80\x80\x80\x80", 0, 0, 0, api.ErrBytes},
		{"\x80\x80\x80\x80\x80\x80\x80\x80\x80\x81", 0, 0, 0, api.ErrBytes},
		{"\x80\x80\x80\x80\x80\x80\x80\x80\x80\x80\x00", 0, 0, 0, api.ErrBytes},
		{"\x80\x80\x80\x80\x80\x80\x80\x80\x80\x80\x01", 0, 0, 0, api.ErrBytes},
		{"\x80\x80\x80\x80\x80\x80\x80\x80\x80\x81\x00", 0, 0, 0, api.ErrBytes},
	} {
		n, next, err := GetUint([]byte(c.b), c.at)
		if n != c.n || next != c.next || err != c.err {
			t.Errorf("%q at %d: %d, next %d, error %d", c.b, c.at, n, next, err)
		}
	}
}

// checkGetUint holds GetUint at all places, and one past each end, against numberAt.
func checkGetUint(t *testing.T, b []byte) {
	t.Helper()
	for at := -1; at <= len(b)+1; at++ {
		n, next, err := GetUint(b, at)
		wantN, wantNext, wantErr := numberAt(b, at)
		if n != wantN || next != wantNext || err != wantErr {
			t.Fatalf("%q at %d: %d, next %d, error %d; not %d, next %d, error %d", b, at, n, next, err, wantN, wantNext, wantErr)
		}
	}
}

// P1.2: all short strings of a few bytes, and of such behind eight digits (where the tenth one is near).
func TestGetUintOfAllShort(t *testing.T) {
	few := []byte{0, 1, 2, 127, 128, 129, 255}
	var grow func(b []byte, left int)
	grow = func(b []byte, left int) {
		checkGetUint(t, b)
		if left == 0 {
			return
		}
		for _, c := range few {
			grow(append(b[:len(b):len(b)], c), left-1)
		}
	}
	grow(nil, 4)
	grow([]byte{128, 128, 128, 128, 128, 128, 128, 128}, 3)
	grow([]byte{255, 255, 255, 255, 255, 255, 255, 255}, 3)
}

// P1.3: what is written is read back, from wherever it begins, with whatever behind it.
func TestUintIsReadBack(t *testing.T) {
	for _, ahead := range []string{"", "\x00", "\xff", "\x80\x80\x80"} {
		for _, behind := range []string{"", "\x00", "\x80", "\xff\xff"} {
			for _, n := range someNumbers() {
				b := Uint([]byte(ahead), n)
				end := len(b)
				b = append(b, behind...)
				got, next, err := GetUint(b, len(ahead))
				if got != n || next != end || err != api.OK {
					t.Fatalf("%d in %q at %d: %d, next %d, error %d", n, b, len(ahead), got, next, err)
				}
			}
		}
	}
}

// scramble tells bytes that look like none in particular, always the same.
func scramble(n int) []byte {
	b := make([]byte, n)
	x := uint32(1)
	for i := range b {
		x = x*1664525 + 1013904223
		b[i] = byte(x >> 24)
	}
	return b
}

// P1.3: from any place on, as many numbers are read as there are bytes below 128 in what was read.
func TestNumbersAreCountedByLastDigits(t *testing.T) {
	b := scramble(2000)
	for from := range len(b) + 1 {
		at, numbers := from, 0
		for range len(b) + 1 { // each number has a byte at least
			_, next, err := GetUint(b, at)
			if err != api.OK {
				break
			}
			at, numbers = next, numbers+1
		}
		last := 0
		for _, c := range b[from:at] {
			if c < 128 {
				last++
			}
		}
		if numbers != last {
			t.Fatalf("from %d to %d: %d numbers, %d last digits", from, at, numbers, last)
		}
	}
}

// P1.2: bytes that none wrote are told as the chapter says, too.
func FuzzGetUint(f *testing.F) {
	f.Add([]byte{172, 2, 128, 0})
	f.Add(scramble(50))
	f.Fuzz(func(t *testing.T, b []byte) {
		checkGetUint(t, b)
	})
}
