package record

import (
	"bytes"
	"math"
	"slices"
	"strings"
	"testing"

	"cardindex/api"
)

// key_test.go: P3.2, keys; P3.3, how they compare.

// P3.2: what Key tells.
func TestKeyTells(t *testing.T) {
	for _, c := range []struct {
		row  []api.Value
		desc []bool
		want string
	}{
		{nil, nil, ""},
		{list(), []bool{}, ""},
		{list(null), []bool{false}, "\x01"},
		{list(null), []bool{true}, "\xfe"},
		{list(num(0)), []bool{false}, "\x02\x80\x00\x00\x00\x00\x00\x00\x00"},
		{list(num(1)), []bool{false}, "\x02\x80\x00\x00\x00\x00\x00\x00\x01"},
		{list(num(258)), []bool{false}, "\x02\x80\x00\x00\x00\x00\x00\x01\x02"},
		{list(num(-1)), []bool{false}, "\x02\x7f\xff\xff\xff\xff\xff\xff\xff"},
		{list(num(-1)), []bool{true}, "\xfd\x80\x00\x00\x00\x00\x00\x00\x00"},
		{list(num(math.MinInt64)), []bool{false}, "\x02\x00\x00\x00\x00\x00\x00\x00\x00"},
		{list(num(math.MaxInt64)), []bool{false}, "\x02\xff\xff\xff\xff\xff\xff\xff\xff"},
		{list(num(math.MaxInt64)), []bool{true}, "\xfd\x00\x00\x00\x00\x00\x00\x00\x00"},
		{list(text("")), []bool{false}, "\x03\x00\x00"},
		{list(blob("")), []bool{false}, "\x04\x00\x00"},
		{list(blob("")), []bool{true}, "\xfb\xff\xff"},
		{list(text("ab")), []bool{false}, "\x03ab\x00\x00"},
		{list(blob("ab")), []bool{false}, "\x04ab\x00\x00"},
		{list(text("\x00")), []bool{false}, "\x03\x00\xff\x00\x00"},
		{list(text("\x00")), []bool{true}, "\xfc\xff\x00\xff\xff"},
		{list(blob("a\x00\xff\x00")), []bool{false}, "\x04a\x00\xff\xff\x00\xff\x00\x00"},
		{list(blob("a\x00\xff\x00")), []bool{true}, "\xfb\x9e\xff\x00\x00\xff\x00\xff\xff"},
		{list(null, text("a"), null), []bool{false, true, true}, "\x01\xfc\x9e\xff\xff\xfe"},
		{list(text("a"), num(1)), []bool{true, false}, "\xfc\x9e\xff\xff\x02\x80\x00\x00\x00\x00\x00\x00\x01"},
		{many(api.MaxCols, null), make([]bool, api.MaxCols), strings.Repeat("\x01", api.MaxCols)},
	} {
		b, err := Key(c.row, c.desc)
		if string(b) != c.want || err != api.OK {
			t.Errorf("Key%s by %v = %q, error %d, not %q", short(c.row), c.desc, b, err, c.want)
		}
	}
}

// checkKey holds Key against keyOf, and what it tells is read back.
func checkKey(t *testing.T, row []api.Value, desc []bool) {
	t.Helper()
	b, err := Key(row, desc)
	if want := keyOf(row, desc); err != api.OK || string(b) != want {
		t.Fatalf("Key%s by %v = %.40q, error %d, not %.40q", short(row), desc, b, err, want)
	}
	back, err := Unkey(b, desc)
	if err != api.OK || !slices.Equal(back, row) {
		t.Fatalf("Unkey of Key%s by %v = %s, error %d", short(row), desc, short(back), err)
	}
}

// P3.2: keys of rows of all kinds, by all flags, are read back.
func TestKeysAreReadBack(t *testing.T) {
	for _, row := range someRows() {
		for _, desc := range allFlags(len(row)) {
			checkKey(t, row, desc)
		}
	}
	for _, n := range edgeInts() {
		checkKey(t, list(num(n)), []bool{false})
		checkKey(t, list(num(n)), []bool{true})
	}
	for _, desc := range allFlags(2) {
		checkKey(t, list(text(xs(api.MaxValue)), blob(xs(api.MaxValue-1))), desc)
		checkKey(t, list(text(zeros(api.MaxValue)), blob(zeros(api.MaxValue-1))), desc)
	}
	row := slices.Concat(many(50, num(-300)), many(50, text("a")), many(50, blob("\x00\xff")), many(50, null))
	desc := make([]bool, api.MaxCols)
	checkKey(t, row, desc)
	for i := range desc {
		desc[i] = i%3 == 0
	}
	checkKey(t, row, desc)
}

// checkNoKey: Key tells this error, and nothing beside it (R2).
func checkNoKey(t *testing.T, row []api.Value, flags int, want api.Errno) {
	t.Helper()
	if b, err := Key(row, make([]bool, flags)); err != want || b != nil {
		t.Errorf("Key%s by %d flags = %.40q, error %d, not %d", short(row), flags, b, err, want)
	}
}

// P3.2: what Key refuses, and in which order.
func TestKeyRefuses(t *testing.T) {
	const most = api.MaxCols
	checkNoKey(t, many(most+1, null), most+1, api.ErrLong)
	checkNoKey(t, many(most+1, null), most, api.ErrLong)
	checkNoKey(t, many(most+1, null), 0, api.ErrLong)
	for _, v := range wrongValues() {
		checkNoKey(t, list(v), 1, api.ErrArg)
		checkNoKey(t, list(null, v), 2, api.ErrArg)
		checkNoKey(t, list(v, text("a")), 2, api.ErrArg)
		checkNoKey(t, list(v), 0, api.ErrArg)
		// ErrArg comes ahead of bytes that are too many, but behind values that are.
		checkNoKey(t, append(many(20, text(xs(api.MaxValue))), v), 21, api.ErrArg)
		checkNoKey(t, append(many(most, null), v), most+1, api.ErrLong)
	}
	checkNoKey(t, nil, 1, api.ErrArg)
	checkNoKey(t, list(null), 0, api.ErrArg)
	checkNoKey(t, list(null), 2, api.ErrArg)
	checkNoKey(t, list(null, null), 1, api.ErrArg)
	checkNoKey(t, many(most, null), most-1, api.ErrArg)
	checkNoKey(t, many(most, null), most+1, api.ErrArg)
	checkNoKey(t, many(20, text(xs(api.MaxValue))), 19, api.ErrArg)
	checkNoKey(t, many(most, text(zeros(api.MaxValue))), most, api.ErrLong)
	checkNoKey(t, many(16, text(xs(api.MaxValue))), 16, api.ErrLong)
	checkNoKey(t, many(8, blob(zeros(api.MaxValue))), 8, api.ErrLong)
}

// fullKey is a row whose key has so many bytes more than a key may have: of each string three bytes beside its own.
func fullKey(beyond int) []api.Value {
	left := api.MaxRow - 16*3 - 15*api.MaxValue
	return append(many(15, text(xs(api.MaxValue))), blob(xs(left+beyond)))
}

// P3.2: a key has MaxRow bytes at most.
func TestKeyOfMaxRow(t *testing.T) {
	for _, falling := range []bool{false, true} {
		desc := slices.Repeat([]bool{falling}, 17)
		for beyond := -2; beyond <= 0; beyond++ {
			row := fullKey(beyond)
			if b := key(t, row, desc[:16]); len(b) != api.MaxRow+beyond {
				t.Fatalf("%d bytes, not %d", len(b), api.MaxRow+beyond)
			}
			checkKey(t, row, desc[:16])
		}
		for beyond := 1; beyond <= 3; beyond++ {
			checkNoKey(t, fullKey(beyond), 16, api.ErrLong)
			b := []byte(keyOf(fullKey(beyond), desc[:16]))
			if row, err := Unkey(b, desc[:16]); err != api.ErrBytes || row != nil {
				t.Errorf("Unkey of %d bytes: %s, error %d", len(b), short(row), err)
			}
		}
		// A NULL's byte counts, an int's nine, and a 0 twice.
		checkKey(t, append(fullKey(-1), null), desc)
		checkNoKey(t, append(fullKey(0), null), 17, api.ErrLong)
		checkKey(t, append(fullKey(-9), num(1)), desc)
		checkNoKey(t, append(fullKey(-8), num(1)), 17, api.ErrLong)
		checkKey(t, append(fullKey(-5), text("\x00")), desc)
		checkNoKey(t, append(fullKey(-4), text("\x00")), 17, api.ErrLong)
	}
}

// P3.2: what Unkey refuses, rising and falling.
func TestUnkeyRefuses(t *testing.T) {
	for _, c := range []struct {
		b     string
		flags int
	}{
		{"\x01", 0},                             // more than a row without values
		{"", 1},                                 // a value is wanting
		{"\x01", 2},                             // the second one
		{"\x01\x01", 1},                         // one more than there are flags
		{"\x00", 1},                             // no kind
		{"\x05", 1},                             // no kind
		{"\xff", 1},                             // no kind
		{"\x05ab\x00\x00", 1},                   // no kind
		{"\x02", 1},                             // an int without bytes
		{"\x02\x80\x00\x00\x00\x00\x00\x00", 1}, // with seven of eight
		{"\x02\x80" + zeros(8), 1},              // with one more
		{"\x03", 1},                             // a text without an end
		{"\x03a", 1},                            // so, too
		{"\x03a\x00", 1},                        // with half of it
		{"\x03a\x00\xff", 1},                    // with a 0 alone
		{"\x03a\x00\xff\x00", 1},                // with half of it, behind a 0
		{"\x03a\x00\x01\x00\x00", 1},            // with a 0 that is neither
		{"\x03a\x00\xfe\x00\x00", 1},            // so, too
		{"\x04\x00a\x00\x00", 1},                // so, too
		{"\x03a\x00\x00\x00", 1},                // with one more behind its end
		{"\x03a\x00\x00\xff", 1},                // so, too
		{"\x04ab\x00", 1},                       // a blob with half an end
		{"\x03" + xs(api.MaxValue+1) + "\x00\x00", 1},                         // a text that is too long
		{"\x04" + xs(api.MaxValue+1) + "\x00\x00", 1},                         // a blob that is too long
		{"\x03" + strings.Repeat("\x00\xff", api.MaxValue+1) + "\x00\x00", 1}, // so, of bytes 0
		{"\x03" + xs(api.MaxValue) + "\x00\xff\x00\x00", 1},                   // so, by the last one
		{strings.Repeat("\x01", api.MaxCols+1), api.MaxCols + 1},              // more flags than may be
		{strings.Repeat("\x01", api.MaxCols), api.MaxCols + 1},                // so, too
		{"", api.MaxCols + 1}, // so, too
	} {
		for _, falling := range []bool{false, true} {
			b := c.b
			if falling {
				b = turned(b)
			}
			desc := slices.Repeat([]bool{falling}, c.flags)
			if row, err := Unkey([]byte(b), desc); err != api.ErrBytes || row != nil {
				t.Errorf("Unkey(%.40q) by %d flags %v = %s, error %d", b, c.flags, falling, short(row), err)
			}
		}
	}
}

// P3.2: each column is turned by its own flag.
func TestUnkeyByOtherFlags(t *testing.T) {
	for _, row := range someRows() {
		for _, desc := range allFlags(len(row)) {
			b := key(t, row, desc)
			for _, other := range allFlags(len(row)) {
				checkUnkey(t, b, other)
				if back, err := Unkey(b, other); !slices.Equal(desc, other) && err == api.OK {
					t.Fatalf("a key of %s by %v is one of %s by %v", short(row), desc, short(back), other)
				}
			}
		}
	}
}

// checkUnkey holds Unkey against keyRow.
func checkUnkey(t *testing.T, b []byte, desc []bool) {
	t.Helper()
	row, err := Unkey(b, desc)
	want, wantErr := keyRow(string(b), desc)
	if err != wantErr || !slices.Equal(row, want) || err != api.OK && row != nil {
		t.Fatalf("Unkey(%.40q) by %v = %s, error %d; not %s, error %d", b, desc, short(row), err, short(want), wantErr)
	}
}

// P3.2: all short lists of a few bytes are told as the chapter says.
func TestUnkeyOfAllShort(t *testing.T) {
	for flags := range 4 {
		for _, desc := range allFlags(flags) {
			grow(nil, []byte{0, 1, 2, 3, 4, 5, 250, 251, 252, 253, 254, 255}, 4, func(b []byte) { checkUnkey(t, b, desc) })
		}
	}
	for _, ahead := range []string{"\x03", "\x04a"} {
		grow([]byte(ahead), []byte{0, 1, 'a', 254, 255}, 6, func(b []byte) { checkUnkey(t, b, []bool{false}) })
		grow([]byte(turned(ahead)), []byte{0, 1, 'a', 254, 255}, 6, func(b []byte) { checkUnkey(t, b, []bool{true}) })
	}
}

// P3.2: of a key each beginning, each one longer, and each with one byte changed, are told as the chapter says.
func TestUnkeyOfSpoiledKeys(t *testing.T) {
	for _, row := range someRows() {
		for _, desc := range allFlags(len(row)) {
			b := key(t, row, desc)
			for i := range b {
				checkUnkey(t, b[:i], desc)
				for _, by := range []byte{1, 255} {
					spoiled := slices.Clone(b)
					spoiled[i] += by
					checkUnkey(t, spoiled, desc)
				}
			}
			checkUnkey(t, append(slices.Clone(b), 0), desc)
			checkUnkey(t, append(slices.Clone(b), 255), desc)
		}
	}
}

// checkOrder: two keys compare as their rows do, and neither is the begin of the other one, unless they are the same.
func checkOrder(t *testing.T, a, b []api.Value, keyA, keyB []byte, desc []bool) {
	t.Helper()
	want := compareRows(a, b, desc)
	if got := bytes.Compare(keyA, keyB); got != want {
		t.Fatalf("%s and %s by %v: keys %d, rows %d", short(a), short(b), desc, got, want)
	}
	if want != 0 && bytes.HasPrefix(keyB, keyA) {
		t.Fatalf("by %v the key of %s is the begin of that of %s", desc, short(a), short(b))
	}
	if want == 0 && !slices.Equal(a, b) {
		t.Fatalf("%s and %s have one key by %v", short(a), short(b), desc)
	}
}

// checkOrders holds all rows of one length against one another.
func checkOrders(t *testing.T, rows [][]api.Value, desc []bool) {
	t.Helper()
	var keys [][]byte
	for _, row := range rows {
		keys = append(keys, key(t, row, desc))
	}
	for i, a := range rows {
		for j, b := range rows {
			checkOrder(t, a, b, keys[i], keys[j], desc)
		}
	}
}

// P3.3: two keys of one list of flags compare as their rows do; no key is the begin of another one.
func TestKeysCompareAsRows(t *testing.T) {
	byLen := map[int][][]api.Value{}
	for _, row := range someRows() {
		byLen[len(row)] = append(byLen[len(row)], row)
	}
	for n, rows := range byLen {
		for _, desc := range allFlags(n) {
			checkOrders(t, rows, desc)
		}
	}
	var ints [][]api.Value
	for _, n := range edgeInts() {
		ints = append(ints, list(num(n)))
	}
	checkOrders(t, ints, []bool{false})
	checkOrders(t, ints, []bool{true})
}

// P3.3: strings that differ in little, with a column behind them that would have it otherwise.
func TestKeysOfStringsCompareAsRows(t *testing.T) {
	var rows [][]api.Value
	grow(nil, []byte{0, 1, 255}, 3, func(b []byte) {
		rows = append(rows, list(text(string(b)), num(-1)), list(text(string(b)), blob("\xff")), list(blob(string(b)), null))
	})
	for _, desc := range allFlags(2) {
		checkOrders(t, rows, desc)
	}
}

// P3.3: strings that are as long as may be.
func TestKeysOfLongStringsCompareAsRows(t *testing.T) {
	var rows [][]api.Value
	for _, s := range []string{
		xs(api.MaxValue), xs(api.MaxValue - 1), xs(api.MaxValue-1) + "\x00", xs(api.MaxValue-1) + "y",
		zeros(api.MaxValue), zeros(api.MaxValue - 1), zeros(api.MaxValue-1) + "\x01", "\x00\xff",
	} {
		rows = append(rows, list(text(s)), list(blob(s)))
	}
	checkOrders(t, rows, []bool{false})
	checkOrders(t, rows, []bool{true})
}

// The chapter's examples that no table above has.
func TestNullIsAheadOfAll(t *testing.T) {
	up := []bool{false}
	if bytes.Compare(key(t, list(null), up), key(t, list(num(math.MinInt64)), up)) != -1 {
		t.Error("the key of NULL is not ahead of that of -2^63")
	}
}

// P3.2: bytes that none wrote are told as the chapter says, too.
func FuzzUnkey(f *testing.F) {
	f.Add([]byte{252, 255, 0, 255, 255}, byte(1), byte(1))
	f.Add([]byte{2, 127, 255, 255, 255, 255, 255, 255, 255, 1}, byte(2), byte(0))
	f.Add(scramble(2, 50), byte(8), byte(85))
	f.Fuzz(func(t *testing.T, b []byte, flags, set byte) {
		desc := make([]bool, flags)
		for i := range desc {
			desc[i] = set>>(i%8)&1 == 1
		}
		checkUnkey(t, b, desc)
	})
}

// P3.3: keys of two strings each, with ints between them, compare as their rows do.
func FuzzKeysCompare(f *testing.F) {
	f.Add("a", int64(1), "", "a\x00", int64(-1), "\xff", byte(5))
	f.Fuzz(func(t *testing.T, s1 string, n1 int64, t1, s2 string, n2 int64, t2 string, set byte) {
		if max(len(s1), len(s2), len(t1), len(t2)) > api.MaxValue {
			return
		}
		a, b := list(text(s1), num(n1), blob(t1)), list(text(s2), num(n2), blob(t2))
		desc := allFlags(3)[set%8]
		checkKey(t, a, desc)
		checkKey(t, b, desc)
		checkOrder(t, a, b, key(t, a, desc), key(t, b, desc), desc)
	})
}
