package bytes

import (
	"testing"

	"cardindex/api"
)

// roomy is s with spare room behind it, the whole of which is told, too.
func roomy(s string) (b, whole []byte) {
	whole = make([]byte, len(s)+64)
	for i := range whole {
		whole[i] = 0xee
	}
	copy(whole, s)
	return whole[:len(s)], whole
}

// spoil writes over all that b has, its spare room too.
func spoil(b []byte) {
	b = b[:cap(b)]
	for i := range b {
		b[i] = 0x55
	}
}

// R3: writers change neither what they are handed nor its spare room, and their answers share none of it.
func TestWritersKeepTheirHandsOff(t *testing.T) {
	writers := map[string]func(out, b []byte) []byte{
		"Uint of one digit":  func(out, _ []byte) []byte { return Uint(out, 5) },
		"Uint of ten digits": func(out, _ []byte) []byte { return Uint(out, 1<<63) },
		"Blob":               func(out, b []byte) []byte { return Blob(out, b) },
		"Blob of nothing":    func(out, _ []byte) []byte { return Blob(out, nil) },
		"Blobs":              func(out, b []byte) []byte { return Blobs(out, [][]byte{b, b}) },
		"Blobs of nothing":   func(out, _ []byte) []byte { return Blobs(out, nil) },
	}
	for name, write := range writers {
		for _, s := range []string{"", "ahead"} {
			out, wholeOut := roomy(s)
			b, wholeB := roomy("ab")
			beforeOut, beforeB := string(wholeOut), string(wholeB)
			first := write(out, b)
			told := string(first)
			second := write(out, b)
			if string(wholeOut) != beforeOut || string(wholeB) != beforeB {
				t.Errorf("%s behind %q: what was handed in is changed", name, s)
			}
			spoil(first)
			if string(wholeOut) != beforeOut || string(wholeB) != beforeB {
				t.Errorf("%s behind %q: the answer shares what was handed in", name, s)
			}
			if string(second) != told {
				t.Errorf("%s behind %q: two answers share memory", name, s)
			}
			spoil(wholeOut)
			spoil(wholeB)
			if string(second) != told {
				t.Errorf("%s behind %q: what was handed in is kept", name, s)
			}
		}
	}
}

// R3: one written number is the begin of two lists; neither is seen in the other.
func TestOneBeginOfTwo(t *testing.T) {
	begin := Uint(nil, 300)
	one := Uint(begin, 1)
	two := Blob(begin, []byte("ab"))
	if string(one) != "\xac\x02\x01" || string(two) != "\xac\x02\x02ab" {
		t.Errorf("%q, %q", one, two)
	}
}

// R3: out may be the string itself, or a part of it.
func TestOutWithinItself(t *testing.T) {
	out, whole := roomy("ab")
	before := string(whole)
	if got := string(Blob(out, out)); got != "ab\x02ab" {
		t.Errorf("%q", got)
	}
	if got := string(Blob(out[:1], out)); got != "a\x02ab" {
		t.Errorf("%q", got)
	}
	if got := string(Blobs(out[:0], [][]byte{out, out[1:]})); got != "\x02\x02ab\x01b" {
		t.Errorf("%q", got)
	}
	if string(whole) != before {
		t.Error("what was handed in is changed")
	}
}

// R3: a list that is handed in stays as it is, its spare room too.
func TestBlobsKeepsTheList(t *testing.T) {
	whole := [][]byte{[]byte("ab"), []byte("c"), []byte("spare")}
	Blobs(nil, whole[:2])
	if string(whole[0]) != "ab" || string(whole[1]) != "c" || string(whole[2]) != "spare" {
		t.Errorf("%q", whole)
	}
}

// P1.2, R3: readers change nothing, and the strings they tell are in memory of their own.
func TestReadersGiveNewMemory(t *testing.T) {
	b, whole := roomy("\x03\x02ab\x00\x02cd")
	before := string(whole)
	l, _, err := GetBlobs(b, 0, 3, 2)
	if err != api.OK || len(l) != 3 {
		t.Fatal(l, err)
	}
	one, _, err := GetBlob(b, 1, 2)
	if err != api.OK {
		t.Fatal(err)
	}
	GetUint(b, 0)
	spoil(l[0])
	spoil(l[1])
	if string(whole) != before {
		t.Error("a string shares what was handed in")
	}
	if string(l[2]) != "cd" {
		t.Error("two strings of a list share memory")
	}
	if string(one) != "ab" {
		t.Error("two answers share memory")
	}
	spoil(whole)
	if string(l[2]) != "cd" || string(one) != "ab" {
		t.Error("what was handed in is kept")
	}
}

// R3: readers leave what they refuse as it is, too.
func TestReadersRefuseAndChangeNothing(t *testing.T) {
	b, whole := roomy("\x02\x02ab\x80\x00")
	before := string(whole)
	for at := -1; at <= len(b)+1; at++ {
		for limit := -1; limit <= 3; limit++ {
			GetUint(b, at)
			GetBlob(b, at, limit)
			GetBlobs(b, at, limit, limit)
		}
	}
	if string(whole) != before {
		t.Error("what was handed in is changed")
	}
}

// R2: beside an error every other result is zero, at all places and limits of many bytes.
func TestNothingBesideAnError(t *testing.T) {
	b := append([]byte("\x03\x02ab\x00\x80\x00\x02\x01a\x80\x80\x80\x80\x80\x80\x80\x80\x80\x02"), scramble(100)...)
	for at := -2; at <= len(b)+2; at++ {
		if n, next, err := GetUint(b, at); err != api.OK && (n != 0 || next != 0) {
			t.Errorf("GetUint at %d: %d, next %d beside error %d", at, n, next, err)
		}
		for most := -2; most <= 130; most += 3 {
			if s, next, err := GetBlob(b, at, most); err != api.OK && (s != nil || next != 0) {
				t.Errorf("GetBlob at %d, most %d: %q, next %d beside error %d", at, most, s, next, err)
			}
			for many := -1; many <= 5; many++ {
				if l, next, err := GetBlobs(b, at, many, most); err != api.OK && (l != nil || next != 0) {
					t.Errorf("GetBlobs at %d, many %d, most %d: %q, next %d beside error %d", at, many, most, l, next, err)
				}
			}
		}
	}
}
