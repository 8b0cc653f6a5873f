package octets_test

import (
	"bytes"
	"math"
	"strings"
	"testing"

	"ledgerstone/api"
	"ledgerstone/octets"
)

// A reader and a writer of numbers of one size, widened so that one test can go through all four.
type numberKind struct {
	name string
	size int
	read func(b []byte, at int) (uint64, bool)
	add  func(b []byte, v uint64) []byte
}

func numberKinds() []numberKind {
	return []numberKind{
		{"8", 1,
			func(b []byte, at int) (uint64, bool) { v, ok := octets.U8(b, at); return uint64(v), ok },
			func(b []byte, v uint64) []byte { return octets.Add8(b, uint8(v)) }},
		{"16", 2,
			func(b []byte, at int) (uint64, bool) { v, ok := octets.U16(b, at); return uint64(v), ok },
			func(b []byte, v uint64) []byte { return octets.Add16(b, uint16(v)) }},
		{"32", 4,
			func(b []byte, at int) (uint64, bool) { v, ok := octets.U32(b, at); return uint64(v), ok },
			func(b []byte, v uint64) []byte { return octets.Add32(b, uint32(v)) }},
		{"64", 8, octets.U64, octets.Add64},
	}
}

// patterns are numbers whose bytes differ, with edges of every size; cut to their lowest size bytes.
func patterns(size int) []uint64 {
	all := []uint64{0, 1, 0x7f, 0x80, 0xff, 0x100, 258, 0x7fff, 0x8000, 0xffff, 0x10000,
		0x7fffffff, 0x80000000, 0x80000001, 0xffffffff, 0x100000000,
		0x0123456789abcdef, 0xfedcba9876543210, math.MaxInt64, 1 << 63, math.MaxUint64}
	for i := range all {
		all[i] &= math.MaxUint64 >> (64 - 8*size)
	}
	return all
}

// bytesOf is the document's form of a number, told by division so that it shares no way with the program.
func bytesOf(v uint64, size int) []byte {
	var out []byte
	for range size {
		out = append([]byte{byte(v % 256)}, out...)
		v /= 256
	}
	return out
}

// withSpare is a copy of b with spare room behind it that is filled with 0xee.
func withSpare(b []byte, spare int) []byte {
	room := append(bytes.Clone(b), bytes.Repeat([]byte{0xee}, spare)...)
	return room[:len(b):len(room)]
}

func wholeRoom(b []byte) []byte {
	return b[:cap(b)]
}

// Chapter 1, example 1.
func TestExampleNumbers(t *testing.T) {
	if v, ok := octets.U16([]byte{1, 2}, 0); v != 258 || !ok {
		t.Error(v, ok)
	}
	if v, ok := octets.U32([]byte{0x80, 0, 0, 1}, 0); v != 2147483649 || !ok {
		t.Error(v, ok)
	}
	if v, ok := octets.U8([]byte{5}, 0); v != 5 || !ok {
		t.Error(v, ok)
	}
	if v, ok := octets.U64(make([]byte, 7), 0); v != 0 || ok {
		t.Error(v, ok)
	}
	for _, at := range []int{1, -1} {
		if v, ok := octets.U16([]byte{1, 2}, at); v != 0 || ok {
			t.Error(at, v, ok)
		}
	}
}

// Chapter 1, example 2.
func TestExampleAdded(t *testing.T) {
	if b := octets.Add32([]byte{9}, 258); !bytes.Equal(b, []byte{9, 0, 0, 1, 2}) {
		t.Error(b)
	}
	b, err := octets.AddText(nil, "\x05\x06")
	if err != api.OK || !bytes.Equal(b, []byte{0, 2, 5, 6}) {
		t.Error(b, err)
	}
	if s, end, ok := octets.Text(b, 0); s != "\x05\x06" || end != 4 || !ok {
		t.Error(s, end, ok)
	}
	if s, end, ok := octets.Text(b, 1); s != "" || end != 0 || ok {
		t.Error(s, end, ok)
	}
}

// P1.1: the highest byte first, from any place at which all bytes are there.
func TestReadNumbers(t *testing.T) {
	for _, k := range numberKinds() {
		for _, v := range patterns(k.size) {
			for ahead := range 4 {
				for behind := range 3 {
					b := bytes.Repeat([]byte{0xa5}, ahead)
					b = append(b, bytesOf(v, k.size)...)
					b = append(b, bytes.Repeat([]byte{0x5a}, behind)...)
					if got, ok := k.read(b, ahead); got != v || !ok {
						t.Errorf("U%s(% x, %d) = %x %v, want %x", k.name, b, ahead, got, ok, v)
					}
				}
			}
		}
	}
}

// P1.1: false, and 0 beside it, just where a byte is wanting; no place panics (R1).
func TestReadNumbersOutside(t *testing.T) {
	for _, k := range numberKinds() {
		for length := range 12 {
			// Spare room of ones: a reader that looks past the end would find bytes there.
			b := withSpare(bytes.Repeat([]byte{0xff}, length), 16)
			for at := -10; at <= length+10; at++ {
				got, ok := k.read(b, at)
				want := at >= 0 && at+k.size <= length
				if ok != want || !ok && got != 0 {
					t.Errorf("U%s of %d bytes at %d = %x %v", k.name, length, at, got, ok)
				}
			}
			for _, at := range farPlaces() {
				if got, ok := k.read(b, at); got != 0 || ok {
					t.Errorf("U%s of %d bytes at %d = %x %v", k.name, length, at, got, ok)
				}
			}
		}
		if got, ok := k.read(nil, 0); got != 0 || ok {
			t.Errorf("U%s of none = %x %v", k.name, got, ok)
		}
	}
}

func farPlaces() []int {
	var out []int
	for i := range 10 {
		out = append(out, math.MaxInt-i, math.MinInt+i, math.MaxInt32+i, math.MinInt32-i, math.MaxUint32-i)
	}
	return out
}

// P1.2: b, then the number's bytes, the highest first, and nothing else.
func TestAddNumbers(t *testing.T) {
	starts := [][]byte{nil, {}, {9}, {0, 0, 0}, bytes.Repeat([]byte{0xc3}, 300)}
	for _, k := range numberKinds() {
		for _, v := range patterns(k.size) {
			for _, start := range starts {
				want := append(bytes.Clone(start), bytesOf(v, k.size)...)
				if got := k.add(start, v); !bytes.Equal(got, want) {
					t.Errorf("Add%s(% x, %x) = % x, want % x", k.name, start, v, got, want)
				}
			}
		}
	}
}

// P1.3: the length in two bytes, then the bytes, for all lengths that may be.
func TestAddText(t *testing.T) {
	for _, n := range []int{0, 1, 2, 255, 256, 257, 4096, 65534, 65535} {
		for _, start := range [][]byte{nil, {}, {9}, {1, 2, 3}} {
			s := strings.Repeat("\xfe", n)
			want := append(bytes.Clone(start), bytesOf(uint64(n), 2)...)
			want = append(want, s...)
			got, err := octets.AddText(start, s)
			if err != api.OK || !bytes.Equal(got, want) {
				t.Errorf("AddText of %d bytes behind %d: %d bytes, %d", n, len(start), len(got), err)
			}
			if back, end, ok := octets.Text(got, len(start)); back != s || end != len(want) || !ok {
				t.Errorf("Text of %d bytes behind %d: %d bytes, %d, %v", n, len(start), len(back), end, ok)
			}
		}
	}
}

// P1.3, R2: a text that is too long is refused, and nothing is told beside the error.
func TestAddTextTooLong(t *testing.T) {
	for _, n := range []int{65536, 65537, 131072, 1 << 20} {
		for _, start := range [][]byte{nil, {1, 2}} {
			if b, err := octets.AddText(start, strings.Repeat("x", n)); err != api.ErrLong || b != nil {
				t.Errorf("AddText of %d bytes: %d bytes, %d", n, len(b), err)
			}
		}
	}
}

// P1.3: a text that is cut anywhere is none, even if bytes stand in the spare room.
func TestTextCut(t *testing.T) {
	for _, n := range []int{0, 1, 2, 7, 300} {
		whole, err := octets.AddText([]byte{0xff, 0xff}, strings.Repeat("q", n))
		if err != api.OK {
			t.Fatal(err)
		}
		for length := range len(whole) {
			if s, end, ok := octets.Text(whole[:length], 2); s != "" || end != 0 || ok {
				t.Errorf("Text of %d bytes, cut to %d: %q %d %v", n, length, s, end, ok)
			}
		}
	}
	longest, _ := octets.AddText(nil, strings.Repeat("q", api.MaxText))
	if s, end, ok := octets.Text(longest[:len(longest)-1], 0); s != "" || end != 0 || ok {
		t.Error(len(s), end, ok)
	}
}

// P1.3: no text at places below 0, at the end and past it.
func TestTextOutside(t *testing.T) {
	// Noughts would be the length of an empty text wherever they were read.
	for length := range 6 {
		b := withSpare(make([]byte, length), 8)
		places := farPlaces()
		for at := -6; at <= length+6; at++ {
			places = append(places, at)
		}
		for _, at := range places {
			s, end, ok := octets.Text(b, at)
			want := at >= 0 && at <= length-2
			wantEnd := 0
			if want {
				wantEnd = at + 2
			}
			if s != "" || end != wantEnd || ok != want {
				t.Errorf("Text of %d noughts at %d = %q %d %v", length, at, s, end, ok)
			}
		}
	}
	if s, end, ok := octets.Text(nil, 0); s != "" || end != 0 || ok {
		t.Error(s, end, ok)
	}
}

// P1.3: what stands behind a text is no part of it.
func TestTextWithMoreBehind(t *testing.T) {
	b := []byte{7, 0, 3, 'a', 'b', 'c', 'd', 'e'}
	if s, end, ok := octets.Text(b, 1); s != "abc" || end != 6 || !ok {
		t.Error(s, end, ok)
	}
}

// P1.4: numbers put one behind the other are read at their places, and what stood ahead is as it was.
func TestNumbersInARow(t *testing.T) {
	b := []byte{0xd1, 0xd2}
	type spot struct {
		kind  numberKind
		at    int
		value uint64
	}
	var spots []spot
	for _, k := range numberKinds() {
		for _, v := range patterns(k.size) {
			before := bytes.Clone(b)
			spots = append(spots, spot{k, len(b), v})
			b = k.add(b, v)
			if len(b) != len(before)+k.size || !bytes.HasPrefix(b, before) {
				t.Fatalf("Add%s: %d bytes became %d", k.name, len(before), len(b))
			}
		}
	}
	for _, s := range spots {
		if got, ok := s.kind.read(b, s.at); got != s.value || !ok {
			t.Errorf("U%s at %d = %x %v, want %x", s.kind.name, s.at, got, ok, s.value)
		}
	}
}

// P1.4: texts put one behind the other are read one behind the other, whatever their bytes.
func TestTextsInARow(t *testing.T) {
	var every strings.Builder
	for i := range 256 {
		every.WriteByte(byte(i))
	}
	texts := []string{"", "a", "", "\x00", "\x00\x00", "\xff\xfe\x80", "\xc3\x28", "länge", every.String(),
		strings.Repeat("\x00\x05", 32767), strings.Repeat("z", api.MaxText), ""}
	b := []byte{0xd1}
	for _, s := range texts {
		before := bytes.Clone(b)
		var err api.Errno
		b, err = octets.AddText(b, s)
		if err != api.OK || !bytes.HasPrefix(b, before) {
			t.Fatal(len(s), err)
		}
	}
	at := 1
	for i, want := range texts {
		s, end, ok := octets.Text(b, at)
		if s != want || end != at+2+len(want) || !ok {
			t.Fatalf("text %d at %d: %d bytes, %d, %v", i, at, len(s), end, ok)
		}
		at = end
	}
	if at != len(b) {
		t.Errorf("the last text ends at %d of %d", at, len(b))
	}
	if s, end, ok := octets.Text(b, at); s != "" || end != 0 || ok {
		t.Error(s, end, ok)
	}
}

// adders are all the calls that answer bytes, each with something to put behind.
func adders() map[string]func(b []byte) []byte {
	out := map[string]func(b []byte) []byte{}
	for _, k := range numberKinds() {
		out["Add"+k.name] = func(b []byte) []byte { return k.add(b, 0x0102030405060708) }
	}
	for name, s := range map[string]string{"AddText of none": "", "AddText": "some text"} {
		out[name] = func(b []byte) []byte {
			got, _ := octets.AddText(b, s)
			return got
		}
	}
	return out
}

// R3: what is handed in stays, its spare room too, even if the answer is written over.
func TestAddLeavesWhatItIsGiven(t *testing.T) {
	for name, add := range adders() {
		for _, spare := range []int{0, 1, 2, 4, 8, 64} {
			b := withSpare([]byte{1, 2, 3}, spare)
			before := bytes.Clone(wholeRoom(b))
			got := wholeRoom(add(b))
			if !bytes.Equal(wholeRoom(b), before) {
				t.Errorf("%s with spare room %d: % x became % x", name, spare, before, wholeRoom(b))
			}
			for i := range got {
				got[i] = 0x77
			}
			if !bytes.Equal(wholeRoom(b), before) {
				t.Errorf("%s with spare room %d answers what it was given", name, spare)
			}
		}
	}
}

// R3: an answer does not change with what was handed in.
func TestAddKeepsNothing(t *testing.T) {
	for name, add := range adders() {
		b := withSpare([]byte{1, 2, 3}, 64)
		got := add(b)
		before := bytes.Clone(got)
		for i := range wholeRoom(b) {
			wholeRoom(b)[i] = 0x77
		}
		if !bytes.Equal(got, before) {
			t.Errorf("%s: the answer became % x", name, got)
		}
	}
}

// R3: no two answers share memory, nor spare room.
func TestAnswersShareNothing(t *testing.T) {
	for name, add := range adders() {
		for _, start := range [][]byte{nil, {}, withSpare(nil, 64), withSpare([]byte{1, 2, 3}, 64)} {
			first, second := add(start), add(start)
			before := bytes.Clone(second)
			room := wholeRoom(first)
			for i := range room {
				room[i] = ^room[i]
			}
			if !bytes.Equal(second, before) {
				t.Errorf("%s: two answers share memory", name)
			}
		}
	}
}

// R3: a refused text changes nothing either.
func TestRefusedTextLeavesWhatItIsGiven(t *testing.T) {
	b := withSpare([]byte{1, 2, 3}, 70000)
	before := bytes.Clone(wholeRoom(b))
	if _, err := octets.AddText(b, strings.Repeat("x", api.MaxText+1)); err != api.ErrLong {
		t.Error(err)
	}
	if !bytes.Equal(wholeRoom(b), before) {
		t.Error("what was handed in has changed")
	}
}

// R3: readers change nothing, and a text that was told stays what it is.
func TestReadersLeaveAndKeepNothing(t *testing.T) {
	b := withSpare([]byte{0, 3, 'a', 'b', 'c', 0, 0, 0}, 16)
	before := bytes.Clone(wholeRoom(b))
	s, end, ok := octets.Text(b, 0)
	for _, k := range numberKinds() {
		k.read(b, 0)
	}
	if !bytes.Equal(wholeRoom(b), before) {
		t.Error("what was handed in has changed")
	}
	for i := range wholeRoom(b) {
		wholeRoom(b)[i] = 0x77
	}
	if s != "abc" || end != 5 || !ok {
		t.Error(s, end, ok)
	}
}
