package bytes

import (
	"math"
	"strings"
	"testing"

	"cardindex/api"
)

// strings as a list of bytes.
func listOf(l ...string) [][]byte {
	var out [][]byte
	for _, s := range l {
		out = append(out, []byte(s))
	}
	return out
}

// sameList: are two lists the same, element by element (R6)?
func sameList(a, b [][]byte) bool {
	if len(a) != len(b) {
		return false
	}
	for i := range a {
		if string(a[i]) != string(b[i]) {
			return false
		}
	}
	return true
}

// P1.1: how strings are written.
func TestBlobWrites(t *testing.T) {
	long := strings.Repeat("x", 128)
	for _, c := range []struct{ out, b, want string }{
		{"", "", "\x00"},
		{"", "ab", "\x02ab"},
		{"", "\x00\xff", "\x02\x00\xff"},
		{"", long[:127], "\x7f" + long[:127]},
		{"", long, "\x80\x01" + long},
		{"ahead", "", "ahead\x00"},
		{"ahead", "ab", "ahead\x02ab"},
	} {
		if got := string(Blob([]byte(c.out), []byte(c.b))); got != c.want {
			t.Errorf("%q behind %q is written %q, not %q", c.b, c.out, got, c.want)
		}
	}
	if got := string(Blob(nil, nil)); got != "\x00" {
		t.Errorf("no string is written %q", got)
	}
}

// P1.1: how lists are written.
func TestBlobsWrites(t *testing.T) {
	for _, c := range []struct {
		out  string
		l    [][]byte
		want string
	}{
		{"", nil, "\x00"},
		{"", [][]byte{}, "\x00"},
		{"", [][]byte{nil}, "\x01\x00"},
		{"", [][]byte{[]byte("ab"), nil}, "\x02\x02ab\x00"},
		{"", listOf("", "a", "bc"), "\x03\x00\x01a\x02bc"},
		{"ahead", nil, "ahead\x00"},
		{"ahead", listOf("ab"), "ahead\x01\x02ab"},
		{"", make([][]byte, 128), "\x80\x01" + strings.Repeat("\x00", 128)},
	} {
		if got := string(Blobs([]byte(c.out), c.l)); got != c.want {
			t.Errorf("%q behind %q is written %q, not %q", c.l, c.out, got, c.want)
		}
	}
}

// P1.2: what GetBlob tells, and refuses; of several errors the first.
func TestGetBlobTells(t *testing.T) {
	for _, c := range []struct {
		b        string
		at, most int
		want     string
		next     int
		err      api.Errno
	}{
		{"\x02ab", 0, 2, "ab", 3, api.OK},
		{"\x02ab", 0, math.MaxInt, "ab", 3, api.OK},
		{"zz\x02abzz", 2, 2, "ab", 5, api.OK},
		{"\x00", 0, 0, "", 1, api.OK},
		{"zz\x00", 2, 0, "", 3, api.OK},
		{"\x02ab", -1, 2, "", 0, api.ErrArg},
		{"\x02ab", 4, 2, "", 0, api.ErrArg},
		{"\x02ab", -1, -1, "", 0, api.ErrArg},
		{"", 0, 2, "", 0, api.ErrShort},
		{"\x02ab", 3, 2, "", 0, api.ErrShort},
		{"\x80", 0, -1, "", 0, api.ErrShort},
		{"\x80\x00", 0, -1, "", 0, api.ErrBytes},
		{"\x80\x80\x80\x80\x80\x80\x80\x80\x80\x02", 0, 2, "", 0, api.ErrBytes},
		{"\x02ab", 0, 1, "", 0, api.ErrLong},
		{"\x02ab", 0, 0, "", 0, api.ErrLong},
		{"\x02ab", 0, -1, "", 0, api.ErrLong},
		{"\x00", 0, -1, "", 0, api.ErrLong},
		{"\x00", 0, math.MinInt, "", 0, api.ErrLong},
		{"\x02a", 0, 1, "", 0, api.ErrLong},
		{"\x02a", 0, 2, "", 0, api.ErrShort},
		{"\x02", 0, 2, "", 0, api.ErrShort},
		{"\xff\xff\xff\xff\xff\xff\xff\xff\xff\x01ab", 0, math.MaxInt, "", 0, api.ErrLong},
		{"\x80\x80\x80\x80\x80\x80\x80\x80\x80\x01ab", 0, math.MaxInt, "", 0, api.ErrLong},
		{"\xff\xff\xff\xff\xff\xff\xff\xff\x7fab", 0, math.MaxInt, "", 0, api.ErrShort},
	} {
		got, next, err := GetBlob([]byte(c.b), c.at, c.most)
		if string(got) != c.want || next != c.next || err != c.err {
			t.Errorf("%q at %d, most %d: %q, next %d, error %d", c.b, c.at, c.most, got, next, err)
		}
	}
}

// P1.2: what GetBlobs tells, and refuses; of several errors the first.
func TestGetBlobsTells(t *testing.T) {
	two := "\x02\x02ab\x00"
	for _, c := range []struct {
		b              string
		at, many, most int
		want           [][]byte
		next           int
		err            api.Errno
	}{
		{two, 0, 2, 2, listOf("ab", ""), 5, api.OK},
		{two, 0, math.MaxInt, math.MaxInt, listOf("ab", ""), 5, api.OK},
		{"zz" + two + "zz", 2, 2, 2, listOf("ab", ""), 7, api.OK},
		{"\x00", 0, 0, 0, nil, 1, api.OK},
		{"\x00", 0, 0, -1, nil, 1, api.OK},
		{"\x02\x00\x00", 0, 2, 0, listOf("", ""), 3, api.OK},
		{two, -1, 2, 2, nil, 0, api.ErrArg},
		{two, 6, 2, 2, nil, 0, api.ErrArg},
		{two, 6, -1, -1, nil, 0, api.ErrArg},
		{two, 5, 2, 2, nil, 0, api.ErrShort},
		{"\x80", 0, -1, -1, nil, 0, api.ErrShort},
		{"\x80\x00", 0, -1, -1, nil, 0, api.ErrBytes},
		{two, 0, 1, 2, nil, 0, api.ErrLong},
		{two, 0, 0, 2, nil, 0, api.ErrLong},
		{two, 0, -1, 2, nil, 0, api.ErrLong},
		{"\x00", 0, -1, 2, nil, 0, api.ErrLong},
		{"\x00", 0, math.MinInt, 2, nil, 0, api.ErrLong},
		{two, 0, 2, 1, nil, 0, api.ErrLong},
		{two, 0, 2, -1, nil, 0, api.ErrLong},
		{"\x01\x00", 0, 1, -1, nil, 0, api.ErrLong},
		{"\x03\x02ab\x00", 0, 2, 2, nil, 0, api.ErrLong},
		{"\x03\x02ab\x00", 0, 3, 2, nil, 0, api.ErrShort},
		{"\x02", 0, 2, 2, nil, 0, api.ErrShort},
		{"\x02\x02ab\x02a", 0, 2, 2, nil, 0, api.ErrShort},
		{"\x02\x02ab\x80", 0, 2, 2, nil, 0, api.ErrShort},
		{"\x02\x02ab\x80\x00", 0, 2, 2, nil, 0, api.ErrBytes},
		{"\x02\x02ab\x03abc", 0, 2, 2, nil, 0, api.ErrLong},
		{"\x02\x03abc\x80\x00", 0, 2, 2, nil, 0, api.ErrLong},
		{"\x02\x80\x00\x03abc", 0, 2, 2, nil, 0, api.ErrBytes},
		{"\xff\xff\xff\xff\xff\xff\xff\xff\xff\x01\x00", 0, math.MaxInt, 2, nil, 0, api.ErrLong},
		{"\xff\xff\xff\xff\xff\xff\xff\xff\x7f\x00", 0, math.MaxInt, 2, nil, 0, api.ErrShort},
	} {
		got, next, err := GetBlobs([]byte(c.b), c.at, c.many, c.most)
		if !sameList(got, c.want) || next != c.next || err != c.err {
			t.Errorf("%q at %d, many %d, most %d: %q, next %d, error %d", c.b, c.at, c.many, c.most, got, next, err)
		}
	}
}

// P1.3: strings and lists are read back, from wherever they begin, with whatever behind them.
func TestBlobsAreReadBack(t *testing.T) {
	long := string(scramble(70000))
	lists := [][][]byte{nil, listOf(""), listOf("", "", ""), listOf("ab", ""), listOf("\x80", "\x00", long[:127], long[:128]), listOf(long, "x"), make([][]byte, 300)}
	for _, ahead := range []string{"", "\x00", "\x80\xff"} {
		for _, behind := range []string{"", "\x00", "\x80"} {
			for _, l := range lists {
				b := Blobs([]byte(ahead), l)
				end := len(b)
				got, next, err := GetBlobs(append(b, behind...), len(ahead), len(l), len(long))
				if !sameList(got, l) || next != end || err != api.OK {
					t.Fatalf("a list of %d behind %q, ahead of %q: %d, next %d, error %d", len(l), ahead, behind, len(got), next, err)
				}
				for _, s := range l {
					b := Blob([]byte(ahead), s)
					end := len(b)
					got, next, err := GetBlob(append(b, behind...), len(ahead), len(s))
					if string(got) != string(s) || next != end || err != api.OK {
						t.Fatalf("a string of %d behind %q, ahead of %q: %d, next %d, error %d", len(s), ahead, behind, len(got), next, err)
					}
				}
			}
		}
	}
}

// P1.3: a limit lets through just what is no longer than it.
func TestLimitsLetThrough(t *testing.T) {
	for size := range 200 {
		one := Blob(nil, scramble(size))
		list := Blobs(nil, make([][]byte, size))
		within := Blobs(nil, [][]byte{nil, scramble(size)})
		for limit := size - 2; limit <= size+2; limit++ {
			want := api.OK
			if limit < size {
				want = api.ErrLong
			}
			if _, _, err := GetBlob(one, 0, limit); err != want {
				t.Errorf("a string of %d, most %d: error %d", size, limit, err)
			}
			if _, _, err := GetBlobs(list, 0, limit, 0); err != want {
				t.Errorf("a list of %d, many %d: error %d", size, limit, err)
			}
			if _, _, err := GetBlobs(within, 0, 2, limit); err != want {
				t.Errorf("a list with a string of %d, most %d: error %d", size, limit, err)
			}
		}
	}
}

// R2: whatever bytes there are, nothing is told beside an error; what is told is what is written there.
func FuzzGetBlobs(f *testing.F) {
	f.Add([]byte("\x02\x02ab\x00"), 0, 2, 2)
	f.Add([]byte("\x02\x02ab\x80\x00"), 0, 2, 2)
	f.Add(scramble(50), 7, 100, 100)
	f.Fuzz(func(t *testing.T, b []byte, at, many, most int) {
		l, next, err := GetBlobs(b, at, many, most)
		if err != api.OK {
			if len(l) != 0 || next != 0 {
				t.Fatalf("beside error %d: %q, next %d", err, l, next)
			}
			return
		}
		if string(Blobs(nil, l)) != string(b[at:next]) {
			t.Fatalf("%q at %d is told %q, next %d", b, at, l, next)
		}
		for _, s := range l {
			if len(l) > many || len(s) > most {
				t.Fatalf("%q is past many %d, most %d", l, many, most)
			}
		}
	})
}
