package record

import (
	"math"
	"slices"
	"testing"

	"cardindex/api"
)

// row_test.go: P3.1, rows as bytes.

// P3.1: what Put tells.
func TestPutTells(t *testing.T) {
	for _, c := range []struct {
		row  []api.Value
		want string
	}{
		{nil, "\x00"},
		{list(), "\x00"},
		{list(null), "\x01\x00"},
		{list(null, null), "\x02\x00\x00"},
		{list(num(0)), "\x01\x01\x00"},
		{list(num(1)), "\x01\x01\x01"},
		{list(num(127)), "\x01\x01\x7f"},
		{list(num(128)), "\x01\x02\x00\x80"},
		{list(num(255)), "\x01\x02\x00\xff"},
		{list(num(256)), "\x01\x02\x01\x00"},
		{list(num(-1)), "\x01\x01\xff"},
		{list(num(-128)), "\x01\x01\x80"},
		{list(num(-129)), "\x01\x02\xff\x7f"},
		{list(num(32767)), "\x01\x02\x7f\xff"},
		{list(num(32768)), "\x01\x03\x00\x80\x00"},
		{list(num(-32769)), "\x01\x03\xff\x7f\xff"},
		{list(num(1<<55 - 1)), "\x01\x07\x7f\xff\xff\xff\xff\xff\xff"},
		{list(num(1 << 55)), "\x01\x08\x00\x80\x00\x00\x00\x00\x00\x00"},
		{list(num(-1 << 55)), "\x01\x07\x80\x00\x00\x00\x00\x00\x00"},
		{list(num(-1<<55 - 1)), "\x01\x08\xff\x7f\xff\xff\xff\xff\xff\xff"},
		{list(num(math.MaxInt64)), "\x01\x08\x7f\xff\xff\xff\xff\xff\xff\xff"},
		{list(num(math.MinInt64)), "\x01\x08\x80\x00\x00\x00\x00\x00\x00\x00"},
		{list(blob("")), "\x01\x0a"},
		{list(text("")), "\x01\x0b"},
		{list(blob("\x00")), "\x01\x0c\x00"},
		{list(text("hi")), "\x01\x0fhi"},
		{list(blob(xs(58))), "\x01\x7e" + xs(58)},
		{list(text(xs(58))), "\x01\x7f" + xs(58)},
		{list(blob(xs(59))), "\x01\x80\x01" + xs(59)},
		{list(text(xs(59))), "\x01\x81\x01" + xs(59)},
		{list(blob(xs(api.MaxValue))), "\x01\x8a\x80\x08" + xs(api.MaxValue)},
		{list(text(xs(api.MaxValue))), "\x01\x8b\x80\x08" + xs(api.MaxValue)},
		{list(text("a"), num(-1), null, blob("b"), num(256)), "\x05\x0d\x01\x00\x0c\x02a\xffb\x01\x00"},
		// The chapter's example.
		{list(null, num(1), num(-129), text("hi"), blob("\x00")), "\x05\x00\x01\x02\x0f\x0c\x01\xff\x7fhi\x00"},
		{many(127, null), "\x7f" + zeros(127)},
		{many(128, null), "\x80\x01" + zeros(128)},
		{many(api.MaxCols, null), "\xc8\x01" + zeros(api.MaxCols)},
	} {
		b, err := Put(c.row)
		if string(b) != c.want || err != api.OK {
			t.Errorf("Put%s = %.40q, error %d, not %.40q", short(c.row), b, err, c.want)
		}
	}
}

// checkRow holds Put against bytesOf, and what it tells is read back.
func checkRow(t *testing.T, row []api.Value) {
	t.Helper()
	b, err := Put(row)
	if want := bytesOf(row); err != api.OK || !slices.Equal(b, want) {
		t.Fatalf("Put%s = %.40q, error %d, not %.40q", short(row), b, err, want)
	}
	back, err := Get(b)
	if err != api.OK || !slices.Equal(back, row) {
		t.Fatalf("Get(Put%s) = %s, error %d", short(row), short(back), err)
	}
}

// P3.1: rows of all kinds are put, and read back.
func TestRowsAreReadBack(t *testing.T) {
	for _, n := range edgeInts() {
		checkRow(t, list(num(n)))
		checkRow(t, list(text("a"), num(n), num(-n), null))
	}
	for n := int64(-70000); n <= 70000; n++ {
		checkRow(t, list(num(n)))
	}
	for _, row := range someRows() {
		checkRow(t, row)
	}
	for n := range 200 {
		checkRow(t, list(text(xs(n)), blob(zeros(n))))
	}
	for _, n := range []int{8186, 8187, 8188, 16384, api.MaxValue - 1, api.MaxValue} {
		checkRow(t, list(text(xs(n)), num(int64(n)), blob(zeros(n))))
	}
	checkRow(t, slices.Concat(many(50, num(-300)), many(50, text("a")), many(50, blob("\x00\xff")), many(50, null)))
}

// checkRefused: Put tells this error, and nothing beside it (R2).
func checkRefused(t *testing.T, row []api.Value, want api.Errno) {
	t.Helper()
	if b, err := Put(row); err != want || b != nil {
		t.Errorf("Put%s = %.40q, error %d, not %d", short(row), b, err, want)
	}
}

// P3.1: what Put refuses, and in which order.
func TestPutRefuses(t *testing.T) {
	checkRefused(t, many(api.MaxCols+1, null), api.ErrLong)
	checkRefused(t, many(100000, null), api.ErrLong)
	for _, v := range wrongValues() {
		checkRefused(t, list(v), api.ErrArg)
		checkRefused(t, list(null, v), api.ErrArg)
		checkRefused(t, list(v, text("a")), api.ErrArg)
		checkRefused(t, append(many(api.MaxCols-1, num(1)), v), api.ErrArg)
		// ErrArg comes ahead of bytes that are too many, but behind values that are.
		checkRefused(t, append(many(20, text(xs(api.MaxValue))), v), api.ErrArg)
		checkRefused(t, append(many(api.MaxCols, null), v), api.ErrLong)
	}
	checkRefused(t, many(api.MaxCols, text(xs(api.MaxValue))), api.ErrLong)
	checkRefused(t, many(16, blob(xs(api.MaxValue))), api.ErrLong)
}

// fullRow is a row of so many bytes more than a row may have, all counted: one for how many values, three for each sort, the strings.
func fullRow(beyond int) []api.Value {
	left := api.MaxRow - 1 - 16*3 - 15*api.MaxValue
	return append(many(15, text(xs(api.MaxValue))), blob(xs(left+beyond)))
}

// P3.1: a row has MaxRow bytes at most.
func TestRowOfMaxRow(t *testing.T) {
	for beyond := -2; beyond <= 0; beyond++ {
		row := fullRow(beyond)
		if b := put(t, row); len(b) != api.MaxRow+beyond {
			t.Fatalf("%d bytes, not %d", len(b), api.MaxRow+beyond)
		}
		checkRow(t, row)
	}
	for beyond := 1; beyond <= 3; beyond++ {
		checkRefused(t, fullRow(beyond), api.ErrLong)
		b := bytesOf(fullRow(beyond))
		if row, err := Get(b); err != api.ErrBytes || row != nil {
			t.Errorf("Get of %d bytes: %s, error %d", len(b), short(row), err)
		}
	}
	// An int's byte, and a NULL's sort, count too.
	row := fullRow(-2)
	checkRow(t, append(row, num(1)))
	checkRefused(t, append(row, num(128)), api.ErrLong)
	checkRow(t, append(row, null, null))
	checkRefused(t, append(row, null, null, null), api.ErrLong)
}

// P3.1: what Get refuses.
func TestGetRefuses(t *testing.T) {
	for _, b := range []string{
		"",                     // no number of values
		"\x80",                 // one that does not end
		"\x80\x00",             // one with a digit more than it has
		"\x81\x00\x00",         // so, too
		"\x00\x00",             // more than the row
		"\x01",                 // no sort
		"\x01\x80",             // one that does not end
		"\x01\x80\x00",         // one with a digit more than it has
		"\x02\x00",             // one sort of two
		"\x01\x00\x00",         // NULL has no bytes
		"\x01\x01",             // an int without its byte
		"\x01\x02\x01",         // with one of two
		"\x01\x01\x00\x00",     // with one more
		"\x01\x02\x00\x7f",     // with more bytes than tell it
		"\x01\x02\xff\x80",     // so, below 0
		"\x01\x02\x00\x00",     // so, of 0
		"\x01\x02\xff\xff",     // so, of -1
		"\x01\x03\x00\x7f\xff", // of three
		"\x01\x08" + zeros(8),  // of eight
		"\x01\x08\xff\x80" + zeros(6),
		"\x01\x09" + zeros(9), // no sort
		"\x01\x09\x7f" + zeros(8),
		"\x01\x09\x80" + zeros(8),
		"\x01\x09\x01\x00\x80" + zeros(6),
		"\x01\x09",
		"\x01\x0c",              // a blob without its byte
		"\x01\x0d",              // a text without its byte
		"\x01\x0fh",             // with one of two
		"\x01\x0fhi!",           // with one more
		"\x01\x8b\x00",          // a sort with a digit more than it has
		"\xc9\x01" + zeros(201), // 201 values
		"\xff\xff\xff\xff\xff\xff\xff\xff\xff\x01",     // 2^64 - 1 values
		"\x01\xff\xff\xff\xff\xff\xff\xff\xff\xff\x01", // so great a sort
		"\x01\xfe\xff\xff\xff\xff\xff\xff\xff\xff\x01",
		"\x01\x80\x80\x80\x80\x80\x80\x80\x80\x80\x02", // beyond 64 bits
		"\x01\x8c\x80\x08" + xs(api.MaxValue+1),        // a blob that is too long
		"\x01\x8d\x80\x08" + xs(api.MaxValue+1),        // a text that is too long
	} {
		if row, err := Get([]byte(b)); err != api.ErrBytes || row != nil {
			t.Errorf("Get(%.40q) = %s, error %d", b, short(row), err)
		}
	}
	if row, err := Get(nil); err != api.ErrBytes || row != nil {
		t.Errorf("Get(nil) = %s, error %d", short(row), err)
	}
}

// checkGet holds Get against rowOf.
func checkGet(t *testing.T, b []byte) {
	t.Helper()
	row, err := Get(b)
	want, wantErr := rowOf(b)
	if err != wantErr || !slices.Equal(row, want) || err != api.OK && row != nil {
		t.Fatalf("Get(%.40q) = %s, error %d; not %s, error %d", b, short(row), err, short(want), wantErr)
	}
}

// P3.1: all short lists of a few bytes are told as the chapter says.
func TestGetOfAllShort(t *testing.T) {
	check := func(b []byte) { checkGet(t, b) }
	grow(nil, []byte{0, 1, 2, 3, 9, 10, 11, 12, 13, 127, 128, 255}, 5, check)
	all := make([]byte, 256)
	for i := range all {
		all[i] = byte(i)
	}
	grow(nil, all, 2, check)
	grow([]byte{1, 1}, all, 2, check)
	grow([]byte{1, 2}, all, 2, check)
	grow([]byte{1, 9, 0, 128, 0, 0, 0, 0, 0}, []byte{0, 1, 255}, 3, check)
}

// P3.1: of the bytes of a row each beginning, each one longer, and each with one byte changed, are told as the chapter says.
func TestGetOfSpoiledRows(t *testing.T) {
	for _, row := range someRows() {
		b := put(t, row)
		for i := range b {
			checkGet(t, b[:i])
			for _, by := range []byte{1, 2, 128, 255} {
				spoiled := slices.Clone(b)
				spoiled[i] += by
				checkGet(t, spoiled)
			}
		}
		checkGet(t, append(slices.Clone(b), 0))
		checkGet(t, append(slices.Clone(b), 255))
	}
}

// P3.3: there is one form of each row, and of each form one row.
func TestOneFormOfRows(t *testing.T) {
	seen := map[string][]api.Value{}
	for _, row := range someRows() {
		b := string(put(t, row))
		if other, there := seen[b]; there {
			t.Errorf("%s and %s are both %q", short(other), short(row), b)
		}
		seen[b] = row
	}
	grow(nil, []byte{0, 1, 2, 10, 11, 12, 13, 128, 255}, 5, func(b []byte) {
		row, err := Get(b)
		if err == api.OK && !slices.Equal(put(t, row), b) {
			t.Fatalf("%q is another form of %s", b, short(row))
		}
	})
}

// P3.1: bytes that none wrote are told as the chapter says, too.
func FuzzGet(f *testing.F) {
	f.Add([]byte{5, 0, 1, 2, 15, 12, 1, 255, 127, 104, 105, 0})
	f.Add([]byte{1, 2, 0, 127})
	f.Add(scramble(1, 50))
	f.Fuzz(func(t *testing.T, b []byte) {
		checkGet(t, b)
	})
}
