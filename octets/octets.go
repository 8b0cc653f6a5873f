// Package octets is layer 1: numbers and texts in bytes, the highest byte first.
package octets

import (
	"ledgerstone/api"
)

// lengthSize is how many bytes tell a text's length.
const lengthSize = 2

// U8 is the number that the byte at at says.
func U8(b []byte, at int) (uint8, bool) {
	v, ok := number(b, at, 1)
	return uint8(v), ok
}

// U16 is the number that the two bytes from at on say.
func U16(b []byte, at int) (uint16, bool) {
	v, ok := number(b, at, 2)
	return uint16(v), ok
}

// U32 is the number that the four bytes from at on say.
func U32(b []byte, at int) (uint32, bool) {
	v, ok := number(b, at, 4)
	return uint32(v), ok
}

// U64 is the number that the eight bytes from at on say.
func U64(b []byte, at int) (uint64, bool) {
	return number(b, at, 8)
}

// Add8 is b and v's byte behind it.
func Add8(b []byte, v uint8) []byte {
	return addNumber(b, uint64(v), 1)
}

// Add16 is b and v's two bytes behind it.
func Add16(b []byte, v uint16) []byte {
	return addNumber(b, uint64(v), 2)
}

// Add32 is b and v's four bytes behind it.
func Add32(b []byte, v uint32) []byte {
	return addNumber(b, uint64(v), 4)
}

// Add64 is b and v's eight bytes behind it.
func Add64(b []byte, v uint64) []byte {
	return addNumber(b, v, 8)
}

// AddText is b, the length of s and the bytes of s.
func AddText(b []byte, s string) ([]byte, api.Errno) {
	if len(s) > api.MaxText {
		return nil, api.ErrLong
	}
	start := len(b) + lengthSize
	out := longer(b, lengthSize+len(s))
	put(out[len(b):start], uint64(len(s)))
	copy(out[start:], s)
	return out, api.OK
}

// Text is the text whose length stands at at, and the place behind it.
func Text(b []byte, at int) (string, int, bool) {
	length, ok := number(b, at, lengthSize)
	if !ok {
		return "", 0, false
	}
	start := at + lengthSize
	end := start + int(length)
	if end > len(b) {
		return "", 0, false
	}
	return string(b[start:end]), end, true
}

// number reads size bytes from at on.
func number(b []byte, at, size int) (uint64, bool) {
	// at is held against the last place that will do, for at+size could wrap round.
	if at < 0 || at > len(b)-size {
		return 0, false
	}
	var v uint64
	for i := range size {
		v = v<<8 | uint64(b[at+i])
	}
	return v, true
}

// addNumber is b and behind it the lowest size bytes of v.
func addNumber(b []byte, v uint64, size int) []byte {
	out := longer(b, size)
	put(out[len(b):], v)
	return out
}

// longer copies b even where its spare room would do: that room belongs to the caller.
func longer(b []byte, more int) []byte {
	out := make([]byte, len(b)+more)
	copy(out, b)
	return out
}

// put fills room with the lowest bytes of v.
func put(room []byte, v uint64) {
	for i := range len(room) {
		room[len(room)-1-i] = byte(v >> (8 * i))
	}
}
