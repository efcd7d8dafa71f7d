package record

import (
	"encoding/binary"
	"math"
	"math/big"
	"slices"
	"strings"
	"testing"

	"cardindex/api"
	"cardindex/value"
)

// some_test.go: what the tests are made of; the chapter's words, said in another way.

var null = api.Value{}

func num(n int64) api.Value   { return api.Value{Kind: api.VInt, N: n} }
func text(s string) api.Value { return api.Value{Kind: api.VText, S: s} }
func blob(s string) api.Value { return api.Value{Kind: api.VBlob, S: s} }

// list is values as a row.
func list(l ...api.Value) []api.Value { return l }

// many is a row of n times v.
func many(n int, v api.Value) []api.Value { return slices.Repeat(list(v), n) }

// xs is n bytes.
func xs(n int) string { return strings.Repeat("x", n) }

// zeros is n bytes 0.
func zeros(n int) string { return strings.Repeat("\x00", n) }

// edgeInts: each power of two, and those around it, above and below 0.
func edgeInts() []int64 {
	l := []int64{0, math.MinInt64, math.MaxInt64}
	for i := range 63 {
		p := int64(1) << i
		l = append(l, p-1, p, p+1, -p-1, -p, -p+1)
	}
	return l
}

// someStrings: those that are near one another where they end, or where a 0 stands.
func someStrings() []string {
	return []string{
		"", "\x00", "\x00\x00", "\x00\x01", "\x00\xfe", "\x00\xff", "\x00\xff\x00", "\x00\x00\xff", "\x01", "\x01\x00", "\x02",
		"a", "a\x00", "a\x00\x00", "a\x00b", "a\x01", "a\xff", "aa", "ab", "b", "it's", "é", "\xfe", "\xff", "\xff\x00", "\xff\xff",
	}
}

// someValues: of each kind.
func someValues() []api.Value {
	l := list(null)
	for _, n := range []int64{
		math.MinInt64, math.MinInt64 + 1, -1 << 32, -256, -255, -129, -128, -2, -1, 0, 1, 2, 127, 128, 255, 256, 1 << 32, math.MaxInt64 - 1, math.MaxInt64,
	} {
		l = append(l, num(n))
	}
	for _, s := range someStrings() {
		l = append(l, text(s), blob(s))
	}
	return l
}

// fewValues: of each kind a few, for what is tried in all combinations.
func fewValues() []api.Value {
	return list(null, num(math.MinInt64), num(-1), num(0), num(128), text(""), text("\x00"), text("a"), blob(""), blob("\x00\xff"), blob("b"))
}

// someRows: without values, of one, and of two, three in all combinations of a few.
func someRows() [][]api.Value {
	l := [][]api.Value{nil}
	for _, v := range someValues() {
		l = append(l, list(v))
	}
	for _, a := range fewValues() {
		for _, b := range fewValues() {
			l = append(l, list(a, b))
			for _, c := range fewValues() {
				l = append(l, list(a, b, c))
			}
		}
	}
	return l
}

// wrongValues: of kinds that are none, with what their kind does not name, or too long.
func wrongValues() []api.Value {
	return list(
		api.Value{Kind: 4}, api.Value{Kind: 255}, api.Value{N: 1}, api.Value{S: "a"},
		api.Value{Kind: api.VInt, S: "a"}, api.Value{Kind: api.VInt, N: 1, S: "\x00"},
		api.Value{Kind: api.VText, N: 1}, api.Value{Kind: api.VText, N: -1, S: "a"}, text(xs(api.MaxValue+1)),
		api.Value{Kind: api.VBlob, N: 1}, api.Value{Kind: api.VBlob, N: -1, S: "a"}, blob(xs(api.MaxValue+1)),
	)
}

// allFlags is all lists of n flags.
func allFlags(n int) [][]bool {
	var l [][]bool
	for i := range 1 << n {
		desc := make([]bool, n)
		for j := range desc {
			desc[j] = i>>j&1 == 1
		}
		l = append(l, desc)
	}
	return l
}

// bytesOf says in another way what the bytes of a row are: how many bytes an int has is tried out from 1 on.
func bytesOf(row []api.Value) []byte {
	out := binary.AppendUvarint(nil, uint64(len(row)))
	var behind []byte
	for _, v := range row {
		var sort int
		switch v.Kind {
		case api.VInt:
			var eight [8]byte
			binary.BigEndian.PutUint64(eight[:], uint64(v.N))
			sort = 1
			for !tells(eight[8-sort:], v.N) {
				sort++
			}
			behind = append(behind, eight[8-sort:]...)
		case api.VText:
			sort = 2*len(v.S) + 11
		case api.VBlob:
			sort = 2*len(v.S) + 10
		}
		out = binary.AppendUvarint(out, uint64(sort))
		behind = append(behind, v.S...)
	}
	return append(out, behind...)
}

// tells: do these bytes tell n by two's complement?
func tells(b []byte, n int64) bool {
	all := new(big.Int).SetBytes(b)
	if b[0] >= 128 {
		all.Sub(all, new(big.Int).Lsh(big.NewInt(1), uint(8*len(b))))
	}
	return all.Cmp(big.NewInt(n)) == 0
}

// rowOf says in another way which right row has the bytes b: they are read as generously as may be, and then written again.
func rowOf(b []byte) ([]api.Value, api.Errno) {
	n, size := binary.Uvarint(b)
	if size <= 0 || n > 200 || len(b) > 1<<20 {
		return nil, api.ErrBytes
	}
	rest := b[size:]
	var sorts []uint64
	for range n {
		sort, size := binary.Uvarint(rest)
		if size <= 0 || sort > 2*65536+11 {
			return nil, api.ErrBytes
		}
		sorts, rest = append(sorts, sort), rest[size:]
	}
	var row []api.Value
	for _, sort := range sorts {
		v, has := api.Value{}, int(sort)
		if sort >= 10 {
			has = (int(sort) - 10) / 2
		}
		if has > len(rest) {
			return nil, api.ErrBytes
		}
		if sort >= 10 {
			v = []api.Value{{Kind: api.VBlob, S: string(rest[:has])}, {Kind: api.VText, S: string(rest[:has])}}[sort%2]
		} else if sort > 0 {
			eight := slices.Repeat([]byte{byte(int8(rest[0]) >> 7)}, 8)
			eight = append(eight, rest[:has]...)
			v = num(int64(binary.BigEndian.Uint64(eight[len(eight)-8:])))
		}
		row, rest = append(row, v), rest[has:]
	}
	if !slices.Equal(bytesOf(row), b) {
		return nil, api.ErrBytes
	}
	return row, api.OK
}

// keyOf says in another way what a key is: parts as strings, turned when they are whole.
func keyOf(row []api.Value, desc []bool) string {
	var key strings.Builder
	for i, v := range row {
		part := "\x01"
		switch v.Kind {
		case api.VInt:
			// The highest bit of N turned is as much as 2^63 added to N.
			far := new(big.Int).Add(big.NewInt(v.N), new(big.Int).Lsh(big.NewInt(1), 63))
			part = "\x02" + string(far.FillBytes(make([]byte, 8)))
		case api.VText:
			part = "\x03" + strings.ReplaceAll(v.S, "\x00", "\x00\xff") + "\x00\x00"
		case api.VBlob:
			part = "\x04" + strings.ReplaceAll(v.S, "\x00", "\x00\xff") + "\x00\x00"
		}
		if desc[i] {
			part = turned(part)
		}
		key.WriteString(part)
	}
	return key.String()
}

// turned is s with each bit turned.
func turned(s string) string {
	b := []byte(s)
	for i := range b {
		b[i] = ^b[i]
	}
	return string(b)
}

// keyRow says in another way which row's key by these flags b is: part by part it is asked where it could end.
func keyRow(b string, desc []bool) ([]api.Value, api.Errno) {
	if len(desc) > 200 || len(b) > 1<<20 {
		return nil, api.ErrBytes
	}
	var row []api.Value
	rest := b
	for _, falling := range desc {
		plain := rest
		if falling {
			plain = turned(rest)
		}
		v, size := firstPart(plain)
		if size == 0 || len(v.S) > 65536 {
			return nil, api.ErrBytes
		}
		row, rest = append(row, v), rest[size:]
	}
	if rest != "" {
		return nil, api.ErrBytes
	}
	return row, api.OK
}

// firstPart is the value whose part b begins with, and how many bytes it has; 0, if there is none.
func firstPart(b string) (api.Value, int) {
	switch {
	case strings.HasPrefix(b, "\x01"):
		return null, 1
	case strings.HasPrefix(b, "\x02") && len(b) >= 9:
		return num(int64(binary.BigEndian.Uint64([]byte(b[1:9])) - 1<<63)), 9
	case strings.HasPrefix(b, "\x03"), strings.HasPrefix(b, "\x04"):
		kind := api.VText
		if b[0] == 4 {
			kind = api.VBlob
		}
		var s strings.Builder
		at := 1
		for {
			to := strings.IndexByte(b[at:], 0)
			if to < 0 || at+to+1 == len(b) {
				return null, 0
			}
			s.WriteString(b[at : at+to])
			at += to + 2
			switch b[at-1] {
			case 0:
				return api.Value{Kind: kind, S: s.String()}, at
			case 255:
				s.WriteByte(0)
			default:
				return null, 0
			}
		}
	}
	return null, 0
}

// compareRows is -1, 0 or 1, as the row a is below b by these flags, the same, or above.
func compareRows(a, b []api.Value, desc []bool) int {
	for i, falling := range desc {
		c := value.Compare(a[i], b[i])
		if falling {
			c = -c
		}
		if c != 0 {
			return c
		}
	}
	return 0
}

// short is a row as it is told in a test's message.
func short(row []api.Value) string {
	var l []string
	for _, v := range row {
		if len(v.S) > 20 {
			v.S = v.S[:20]
		}
		l = append(l, value.Show(v))
	}
	s := strings.Join(l, ", ")
	return "(" + s[:min(len(s), 200)] + ")"
}

// put is the bytes of a row that has some.
func put(t *testing.T, row []api.Value) []byte {
	t.Helper()
	b, err := Put(row)
	if err != api.OK {
		t.Fatalf("Put%s: error %d", short(row), err)
	}
	return b
}

// key is the key of a row that has one.
func key(t *testing.T, row []api.Value, desc []bool) []byte {
	t.Helper()
	b, err := Key(row, desc)
	if err != api.OK {
		t.Fatalf("Key%s by %v: error %d", short(row), desc, err)
	}
	return b
}

// scramble tells bytes that look like none in particular, always the same of one seed.
func scramble(seed uint32, n int) []byte {
	b := make([]byte, n)
	for i := range b {
		seed = seed*1664525 + 1013904223
		b[i] = byte(seed >> 24)
	}
	return b
}

// grow hands all lists of at most n of these bytes to do, each behind ahead.
func grow(ahead, of []byte, n int, do func([]byte)) {
	do(ahead)
	if n == 0 {
		return
	}
	for _, c := range of {
		grow(append(ahead[:len(ahead):len(ahead)], c), of, n-1, do)
	}
}
