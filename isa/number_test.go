package isa_test

import (
	"bytes"
	"math"
	"math/big"
	"testing"

	"platelayer/isa"
)

func TestA2SignedTakes32Bits(t *testing.T) {
	for _, c := range [][2]int{
		{0, 0}, {1, 1}, {-1, -1},
		{1<<31 - 1, 1<<31 - 1}, {1 << 31, -1 << 31}, {1<<32 - 1, -1}, {1 << 32, 0}, {1<<32 + 5, 5},
		{-1 << 31, -1 << 31}, {-1<<31 - 1, 1<<31 - 1}, {-1 << 32, 0},
		{math.MaxInt, -1}, {math.MinInt, 0}, {math.MinInt + 7, 7},
	} {
		if got := isa.Signed(c[0]); got != c[1] {
			t.Errorf("Signed(%d) is %d, not %d", c[0], got, c[1])
		}
	}
}

// inside tells whether the byte that stands k behind at is one of n bytes, in numbers that never wrap round.
func inside(at, k, n int) (int, bool) {
	p := new(big.Int).Add(big.NewInt(int64(at)), big.NewInt(int64(k)))
	if p.Sign() < 0 || p.Cmp(big.NewInt(int64(n))) >= 0 {
		return 0, false
	}
	return int(p.Int64()), true
}

// plainGet is Get's number without an end, and of that the lowest 64 bits.
func plainGet(b []byte, at, size int) int {
	n := new(big.Int)
	for k := range max(size, 0) {
		n.Lsh(n, 8)
		if p, ok := inside(at, k, len(b)); ok {
			n.Add(n, big.NewInt(int64(b[p])))
		}
	}
	n.And(n, new(big.Int).SetUint64(math.MaxUint64))
	return int(n.Uint64())
}

// plainPut is Put with a number that has as many bits as are asked for.
func plainPut(b []byte, at, size, n int) []byte {
	out := bytes.Clone(b)
	for k := range max(size, 0) {
		if p, ok := inside(at, k, len(b)); ok {
			bits := new(big.Int).Rsh(big.NewInt(int64(n)), uint(8*(size-1-k)))
			out[p] = byte(bits.And(bits, big.NewInt(255)).Int64())
		}
	}
	return out
}

var somePlaces = []int{math.MinInt, math.MinInt + 1, -20, -9, -8, -5, -4, -3, -2, -1, 0, 1, 2, 3, 4, 5, 6, 7, 8, 12, 13, 14, 15, 20, math.MaxInt - 4, math.MaxInt - 1, math.MaxInt}

func someBytes() []byte {
	return []byte{129, 2, 3, 4, 250, 6, 7, 8, 9, 10, 11, 12, 255}
}

func TestA2GetReadsNumbers(t *testing.T) {
	for _, b := range [][]byte{nil, {}, {200}, someBytes()} {
		for _, at := range somePlaces {
			for size := -2; size < 20; size++ {
				if got, want := isa.Get(b, at, size), plainGet(b, at, size); got != want {
					t.Errorf("Get(%v, %d, %d) is %d, not %d", b, at, size, got, want)
				}
			}
		}
	}
}

func TestA2PutWritesNumbers(t *testing.T) {
	for _, b := range [][]byte{nil, {}, {200}, someBytes()} {
		for _, at := range somePlaces {
			for size := -2; size < 20; size++ {
				for _, n := range []int{0, -1, 0x1a2b3c4d, -0x1a2b3c4d, math.MaxInt, math.MinInt, 0x0102030405060708} {
					if got, want := isa.Put(b, at, size, n), plainPut(b, at, size, n); !bytes.Equal(got, want) {
						t.Errorf("Put(%v, %d, %d, %d) is %v, not %v", b, at, size, n, got, want)
					}
				}
			}
		}
	}
}

func TestA2GetAndPutEndWhateverTheSize(t *testing.T) {
	b := []byte{1, 2, 3}
	for _, size := range []int{math.MinInt, math.MinInt + 7, math.MinInt + 8, -9, -1, 0} {
		for _, at := range somePlaces {
			if got := isa.Get(b, at, size); got != 0 {
				t.Errorf("Get of size %d at %d is %d", size, at, got)
			}
			if got := isa.Put(b, at, size, -1); !bytes.Equal(got, b) {
				t.Errorf("Put of size %d at %d is %v", size, at, got)
			}
		}
	}
	// The number ends far behind b: what is read is 0, and what is written is above n's bits.
	for _, size := range []int{1 << 40, 1 << 60, math.MaxInt - 1, math.MaxInt} {
		if got := isa.Get(b, 0, size); got != 0 {
			t.Errorf("Get of size %d is %d", size, got)
		}
		if got := isa.Put(b, 1, size, -2); !bytes.Equal(got, []byte{1, 255, 255}) {
			t.Errorf("Put of size %d is %v", size, got)
		}
		if got := isa.Put(b, 1, size, 77); !bytes.Equal(got, []byte{1, 0, 0}) {
			t.Errorf("Put of size %d is %v", size, got)
		}
	}
	// It begins far ahead of b, and ends with b's last byte.
	size := math.MaxInt
	if got := isa.Get(b, 3-size, size); got != 0x010203 {
		t.Errorf("Get that ends with b is %x", got)
	}
	if got := isa.Put(b, 3-size, size, 0x0a0b0c); !bytes.Equal(got, []byte{10, 11, 12}) {
		t.Errorf("Put that ends with b is %v", got)
	}
}

func TestA2WhatIsPutIsGot(t *testing.T) {
	b := someBytes()
	for _, size := range []int{1, 2, 4} {
		for at := 0; at+size <= len(b); at++ {
			n := 0x9a8b7c6d & (1<<(8*size) - 1)
			if got := isa.Get(isa.Put(b, at, size, n), at, size); got != n {
				t.Errorf("%x is put at %d, %x is got", n, at, got)
			}
		}
	}
}

func TestA2PutAnswersNewMemory(t *testing.T) {
	room := []byte{1, 2, 3, 4, 90, 91, 92, 93}
	b := room[:4]
	for _, at := range []int{-1, 0, 2, 3, 4, 9} {
		got := isa.Put(b, at, 4, -1)
		if len(got) != 4 {
			t.Fatalf("Put at %d answers %d bytes", at, len(got))
		}
		for k := range got[:cap(got)] {
			got[:cap(got)][k] = 55
		}
		if !bytes.Equal(room, []byte{1, 2, 3, 4, 90, 91, 92, 93}) {
			t.Fatalf("Put at %d leaves %v", at, room)
		}
	}
	if got := isa.Get(b, 3, 2); got != 0x0400 {
		t.Errorf("Get looks at the spare room: %x", got)
	}
}
