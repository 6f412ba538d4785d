package match_test

import (
	"bytes"
	"fmt"
	"math"
	"testing"

	"slabvault/api"
	"slabvault/match"
)

// wantPack holds what Pack answers.
func wantPack(t *testing.T, b, want []byte) {
	t.Helper()
	if got, e := match.Pack(b); e != api.OK || !bytes.Equal(got, want) {
		t.Errorf("Pack(%s) = %s, %d, not %s", brief(b), brief(got), e, brief(want))
	}
}

// wantTokens holds that Pack tells these tokens.
func wantTokens(t *testing.T, b []byte, l ...[]byte) {
	t.Helper()
	wantPack(t, b, tokens(l...))
}

// wantPlain holds that Pack tells the byte 0 and the bytes.
func wantPlain(t *testing.T, b []byte) {
	t.Helper()
	wantPack(t, b, plain(b))
}

// wantUnpack holds what Unpack answers of what is good.
func wantUnpack(t *testing.T, b []byte, most int, want []byte) {
	t.Helper()
	if got, e := match.Unpack(b, most); e != api.OK || !bytes.Equal(got, want) {
		t.Errorf("Unpack(%s, %d) = %s, %d, not %s", brief(b), most, brief(got), e, brief(want))
	}
}

// refuse holds that Unpack answers an error, and nothing beside it.
func refuse(t *testing.T, b []byte, most int, want api.Errno) {
	t.Helper()
	if got, e := match.Unpack(b, most); e != want || len(got) != 0 {
		t.Errorf("Unpack(%s, %d) = %s, %d, not error %d", brief(b), most, brief(got), e, want)
	}
}

// wantJust holds that Unpack answers these bytes with just as many, and with the most, and ErrBig with one fewer.
func wantJust(t *testing.T, b, want []byte) {
	t.Helper()
	wantUnpack(t, b, len(want), want)
	wantUnpack(t, b, api.MaxData, want)
	if len(want) > 0 {
		refuse(t, b, len(want)-1, api.ErrBig)
	}
}

// brief tells bytes, however many they are.
func brief(b []byte) string {
	if len(b) > 40 {
		return fmt.Sprintf("%d bytes, %x..", len(b), b[:40])
	}
	return fmt.Sprintf("%d bytes, %x", len(b), b)
}

// join tells bytes one behind the other, in new memory.
func join(l ...[]byte) []byte { return bytes.Join(l, nil) }

// plain tells a packing of bytes as they are.
func plain(b []byte) []byte { return join([]byte{0}, b) }

// tokens tells a packing of tokens.
func tokens(l ...[]byte) []byte { return join([]byte{1}, join(l...)) }

// run tells a token of 1 to 128 bytes.
func run(b []byte) []byte { return join([]byte{byte(len(b) - 1)}, b) }

// word tells a run of a text.
func word(s string) []byte { return run([]byte(s)) }

// copied tells a token of 4 to 131 bytes that stand so many places ahead.
func copied(count, back int) []byte { return []byte{byte(124 + count), byte(back)} }

// runs tells bytes as runs, all but the last one of 128 bytes.
func runs(b []byte) []byte {
	var out []byte
	for ; len(b) > 128; b = b[128:] {
		out = append(out, run(b[:128])...)
	}
	return append(out, run(b)...)
}

// rising tells so many bytes each of which is the one ahead and 1: no two less than 256 places apart are alike.
func rising(n int) []byte {
	b := make([]byte, n)
	for i := range b {
		b[i] = byte(i)
	}
	return b
}

// cycle tells so many bytes that go round, of which each stands again just a period behind, and no sooner.
func cycle(period, n int) []byte {
	b := make([]byte, n)
	for i := range b {
		b[i] = byte(i % period)
	}
	return b
}

// same tells so many bytes that are all alike.
func same(x byte, n int) []byte { return bytes.Repeat([]byte{x}, n) }

// wrongMosts are such as Unpack refuses, those next to the edges first.
func wrongMosts() []int {
	return []int{-1, api.MaxData + 1, -2, api.MaxData + 2, -api.MaxData, 2 * api.MaxData, 1 << 31, 1 << 32, 1<<32 + 1, -1 << 32, math.MinInt, math.MinInt + 1, math.MaxInt, math.MaxInt - 1}
}

// dice tells numbers that look thrown, and are the same in each run.
type dice uint64

func (d *dice) below(n int) int {
	*d = *d*6364136223846793005 + 1442695040888963407
	return int(uint64(*d)>>33) % n
}

// bytes tells so many thrown bytes, of which there are but some kinds.
func (d *dice) bytes(n, kinds int) []byte {
	b := make([]byte, n)
	for i := range b {
		b[i] = byte(d.below(kinds))
	}
	return b
}

// mixed tells so many bytes in pieces: thrown ones, ones that are alike, and such as stood not far ahead.
func (d *dice) mixed(n int) []byte {
	var b []byte
	for len(b) < n {
		count := 1 + d.below(1<<(1+d.below(8)))
		switch d.below(4) {
		case 0:
			b = append(b, d.bytes(count, 1+d.below(256))...)
		case 1:
			b = append(b, same(byte(d.below(256)), count)...)
		default:
			back := 1 + d.below(1<<(1+d.below(9)))
			for range count {
				if back <= len(b) {
					b = append(b, b[len(b)-back])
				}
			}
		}
	}
	return b[:n]
}
