// Package pack encodes numbers, texts and lists as bytes, and reads them strictly.
package pack

import "strings"

// maxResult is the longest result of which the document promises anything.
const maxResult = 1<<31 - 1

func U8(n uint8) string   { return numberBytes(uint64(n), 1) }
func U16(n uint16) string { return numberBytes(uint64(n), 2) }
func U32(n uint32) string { return numberBytes(uint64(n), 4) }
func U64(n uint64) string { return numberBytes(n, 8) }

func Text(s string) string { return lengthBytes(len(s)) + s }

func List(l ...string) string {
	var b strings.Builder
	b.WriteString(lengthBytes(len(l)))
	for _, s := range l {
		b.WriteString(lengthBytes(len(s)))
		b.WriteString(s)
	}
	return b.String()
}

// Fill leaves s as it is if n is beyond what any call may return: asking for so
// many bytes could end the whole program.
func Fill(s string, n int) string {
	if n <= len(s) || n > maxResult {
		return s
	}
	return s + strings.Repeat("\x00", n-len(s))
}

func numberBytes(n uint64, size int) string {
	b := make([]byte, size)
	for i := range b {
		b[i] = byte(n >> (8 * i))
	}
	return string(b)
}

func lengthBytes(n int) string { return U32(uint32(n)) }
