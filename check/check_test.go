package check_test

import (
	"bytes"
	"hash/crc32"
	"math"
	"testing"

	"slabvault/api"
	"slabvault/check"
)

// mixed tells so many bytes that are not all alike.
func mixed(size int) []byte {
	out := make([]byte, size)
	state := uint32(12345)
	for i := range out {
		state = state*1664525 + 1013904223
		out[i] = byte(state >> 24)
	}
	return out
}

// samples tells lists about which the sums are asked: none, short ones, all bytes alike, and long ones.
func samples() [][]byte {
	out := [][]byte{nil, {}, {0}, {255}, {0, 0}, {0, 0, 0, 0}, {255, 255, 255, 255}, []byte("ab"), []byte("123456789")}
	for size := range 40 {
		out = append(out, mixed(size), bytes.Repeat([]byte{0}, size), bytes.Repeat([]byte{255}, size))
	}
	return append(out, mixed(1000), mixed(65535), mixed(65536), mixed(100001))
}

// slowFletcher reckons as the chapter's words say, in numbers that are wide enough for anything.
func slowFletcher(b []byte) uint32 {
	var first, second uint64
	for _, x := range b {
		first = (first + uint64(x)) % 65535
		second = (second + first) % 65535
	}
	return uint32(second*65536 + first)
}

// slowMore takes bit by bit, as the chapter's words say.
func slowMore(crc uint32, b []byte) uint32 {
	register := crc ^ math.MaxUint32
	for _, x := range b {
		for bit := range 8 {
			turn := register&1 ^ uint32(x)>>bit&1
			register >>= 1
			if turn == 1 {
				register ^= 0xedb88320
			}
		}
	}
	return register ^ math.MaxUint32
}

func wantFletcher(t *testing.T, b []byte, want uint32) {
	t.Helper()
	if got := check.Fletcher(b); got != want {
		t.Errorf("Fletcher of %d bytes = %08x; want %08x", len(b), got, want)
	}
}

// P2.1
func TestFletcher(t *testing.T) {
	for _, b := range samples() {
		wantFletcher(t, b, slowFletcher(b))
	}
	wantFletcher(t, nil, 0)
	wantFletcher(t, []byte{1}, 0x00010001)
	wantFletcher(t, []byte{255}, 0x00ff00ff)
	wantFletcher(t, []byte{0, 0, 0}, 0)
	wantFletcher(t, []byte("ab"), 0x012400c3)
	wantFletcher(t, []byte{1, 0, 0}, 0x00030001)
	wantFletcher(t, []byte{0, 0, 1}, 0x00010001)
}

// P2.1: 257 bytes of 255 are 65535 together.
func TestFletchersFirstNumberReachesTheBase(t *testing.T) {
	for _, more := range []struct {
		behind []byte
		low    uint32
	}{{nil, 0}, {[]byte{0}, 0}, {[]byte{1}, 1}, {[]byte{255}, 255}} {
		b := append(bytes.Repeat([]byte{255}, 257), more.behind...)
		got := check.Fletcher(b)
		if got&0xffff != more.low || got != slowFletcher(b) {
			t.Errorf("257 times 255, and %d: %08x", more.behind, got)
		}
	}
	for _, last := range []byte{253, 254, 255} {
		b := append(bytes.Repeat([]byte{255}, 256), last)
		want := uint32(256*255+int(last)) % 65535
		if got := check.Fletcher(b); got&0xffff != want || got != slowFletcher(b) {
			t.Errorf("256 times 255, and %d: %08x", last, got)
		}
	}
}

// P2.1: a byte 1 and 65534 noughts bring the second number to 65535, with the first one still 1.
func TestFletchersSecondNumberReachesTheBase(t *testing.T) {
	for size, high := range map[int]uint32{65533: 65533, 65534: 65534, 65535: 0, 65536: 1, 65537: 2, 131070: 0, 131071: 1} {
		b := make([]byte, size)
		b[0] = 1
		wantFletcher(t, b, high<<16|1)
	}
	b := make([]byte, 258)
	b[0] = 254
	b[1] = 1
	wantFletcher(t, b, (254+257*255-65535)<<16|255)
}

// P2.1: both numbers pass the base many times.
func TestFletcherOfLongLists(t *testing.T) {
	for _, size := range []int{256, 257, 258, 513, 514, 515, 65534, 65535, 65536, 300000} {
		for _, x := range []byte{1, 2, 127, 128, 254, 255} {
			b := bytes.Repeat([]byte{x}, size)
			wantFletcher(t, b, slowFletcher(b))
		}
	}
}

func wantCrc(t *testing.T, b []byte, want uint32) {
	t.Helper()
	if got := check.Crc(b); got != want {
		t.Errorf("Crc of %d bytes = %08x; want %08x", len(b), got, want)
	}
}

// P2.2
func TestCrc(t *testing.T) {
	for _, b := range samples() {
		wantCrc(t, b, slowMore(0, b))
		wantCrc(t, b, crc32.ChecksumIEEE(b))
	}
	for x := range 256 {
		wantCrc(t, []byte{byte(x)}, slowMore(0, []byte{byte(x)}))
	}
	wantCrc(t, nil, 0)
	wantCrc(t, []byte("123456789"), 0xcbf43926)
	wantCrc(t, []byte{0}, 0xd202ef8d)
	wantCrc(t, []byte{255}, 0xff000000)
	wantCrc(t, []byte{0, 0, 0, 0}, 0x2144df1c)
}

func wantMore(t *testing.T, crc uint32, b []byte, want uint32) {
	t.Helper()
	if got := check.More(crc, b); got != want {
		t.Errorf("More(%08x, %d bytes) = %08x; want %08x", crc, len(b), got, want)
	}
}

// P2.2
func TestMoreOfAnyRegister(t *testing.T) {
	sums := []uint32{0, 1, 2, 0x7fffffff, 0x80000000, 0xffffffff, 0xfffffffe, 0xedb88320, 0x12345678}
	for bit := range 32 {
		sums = append(sums, 1<<bit, ^uint32(1<<bit))
	}
	for _, crc := range sums {
		wantMore(t, crc, nil, crc)
		for _, b := range [][]byte{{}, {0}, {1}, {128}, {255}, mixed(3), mixed(300)} {
			wantMore(t, crc, b, slowMore(crc, b))
		}
	}
	for _, b := range samples() {
		wantMore(t, 0, b, check.Crc(b))
	}
}

// P2.3
func TestSeal(t *testing.T) {
	for _, b := range samples() {
		sum := slowMore(0, b)
		want := append(bytes.Clone(b), byte(sum), byte(sum>>8), byte(sum>>16), byte(sum>>24))
		if got := check.Seal(b); !bytes.Equal(got, want) {
			t.Errorf("Seal of %d bytes: %d bytes", len(b), len(got))
		}
	}
	if got := check.Seal([]byte("123456789")); string(got) != "123456789\x26\x39\xf4\xcb" {
		t.Errorf("Seal = %x", got)
	}
	if got := check.Seal(nil); string(got) != "\x00\x00\x00\x00" {
		t.Errorf("Seal of nothing = %x", got)
	}
}

func wantUnseal(t *testing.T, b, want []byte, errno api.Errno) {
	t.Helper()
	got, e := check.Unseal(b)
	if e != errno || !bytes.Equal(got, want) {
		t.Errorf("Unseal of %d bytes %.40x: %d bytes, error %d; want %d bytes, error %d", len(b), b, len(got), int(e), len(want), int(errno))
	}
}

// P2.3
func TestUnsealOfWhatWasSealed(t *testing.T) {
	for _, b := range samples() {
		wantUnseal(t, check.Seal(b), b, api.OK)
		wantUnseal(t, check.Seal(check.Seal(b)), check.Seal(b), api.OK)
	}
}

// P2.3
func TestUnsealOfTooFewBytes(t *testing.T) {
	wantUnseal(t, nil, nil, api.ErrShort)
	for size := range 4 {
		wantUnseal(t, make([]byte, size), nil, api.ErrShort)
		wantUnseal(t, bytes.Repeat([]byte{255}, size), nil, api.ErrShort)
		wantUnseal(t, mixed(size), nil, api.ErrShort)
	}
}

// P2.3
func TestUnsealOfFourAndFiveBytes(t *testing.T) {
	wantUnseal(t, []byte{0, 0, 0, 0}, nil, api.OK)
	for i := range 4 {
		for _, x := range []byte{1, 128, 255} {
			b := make([]byte, 4)
			b[i] = x
			wantUnseal(t, b, nil, api.ErrCorrupt)
		}
	}
	wantUnseal(t, []byte{255, 255, 255, 255}, nil, api.ErrCorrupt)
	wantUnseal(t, []byte{0, 0x8d, 0xef, 0x02, 0xd2}, []byte{0}, api.OK)
	wantUnseal(t, []byte{0, 0xd2, 0x02, 0xef, 0x8d}, nil, api.ErrCorrupt)
	wantUnseal(t, []byte{1, 0x8d, 0xef, 0x02, 0xd2}, nil, api.ErrCorrupt)
	wantUnseal(t, []byte{0, 0, 0, 0, 0}, nil, api.ErrCorrupt)
}

// P2.3: what is cut off or added is not the sum of what stands ahead.
func TestUnsealOfOtherLengths(t *testing.T) {
	for _, size := range []int{1, 2, 5, 100} {
		b := check.Seal(mixed(size))
		for cut := 1; cut <= size; cut++ {
			wantUnseal(t, b[:len(b)-cut], nil, api.ErrCorrupt)
			wantUnseal(t, b[cut:], nil, api.ErrCorrupt)
		}
		wantUnseal(t, append(bytes.Clone(b), 0), nil, api.ErrCorrupt)
	}
}

func TestNothingBehindTheLengthIsRead(t *testing.T) {
	whole := check.Seal([]byte("abc"))
	for size := range len(whole) {
		want := api.ErrCorrupt
		if size < 4 {
			want = api.ErrShort
		}
		wantUnseal(t, whole[:size], nil, want)
	}
	wantCrc(t, whole[:3], slowMore(0, []byte("abc")))
	wantFletcher(t, whole[:3], slowFletcher([]byte("abc")))
}

// P2.4
func TestPieces(t *testing.T) {
	all := mixed(70)
	for first := range len(all) + 1 {
		wantMore(t, check.Crc(all[:first]), all[first:], slowMore(0, all))
		for second := first; second <= len(all); second++ {
			wantMore(t, check.More(check.Crc(all[:first]), all[first:second]), all[second:], slowMore(0, all))
		}
	}
	long, sum := mixed(100000), uint32(0)
	for at := 0; at < len(long); at += 1000 {
		sum = check.More(sum, long[at:at+1000])
	}
	wantCrc(t, long, sum)
}

// P2.5: one byte is another one, whichever.
func TestTurnedBytesHaveOtherSums(t *testing.T) {
	for _, size := range []int{1, 2, 3, 4, 5, 9, 300} {
		for _, b := range [][]byte{mixed(size), make([]byte, size), bytes.Repeat([]byte{255}, size)} {
			fletcher, crc := check.Fletcher(b), check.Crc(b)
			for _, at := range []int{0, size / 2, size - 1} {
				for x := range 256 {
					c := bytes.Clone(b)
					if c[at] == byte(x) {
						continue
					}
					c[at] = byte(x)
					if check.Fletcher(c) == fletcher || check.Crc(c) == crc {
						t.Errorf("%d bytes, of which byte %d becomes %d: a sum is the same", size, at, x)
					}
				}
			}
		}
	}
}

// P2.5: by sums modulo 255, or by one number alone, 0 and 255, or neighbours that change places, would not be told apart.
func TestNeighboursThatChangePlaces(t *testing.T) {
	for _, ahead := range []int{0, 1, 2, 257, 1000} {
		for _, behind := range []int{0, 1, 254, 255, 65534} {
			b := append(mixed(ahead), append([]byte{0, 0}, mixed(behind)...)...)
			for _, pair := range [][2]byte{{0, 1}, {0, 255}, {1, 255}, {127, 128}, {254, 255}, {9, 200}} {
				b[ahead], b[ahead+1] = pair[0], pair[1]
				one := check.Fletcher(b)
				b[ahead], b[ahead+1] = pair[1], pair[0]
				if check.Fletcher(b) == one {
					t.Errorf("%d and %d behind %d bytes, ahead of %d: one sum", pair[0], pair[1], ahead, behind)
				}
			}
		}
	}
}

// turn turns the bits of a burst about, the first one at a place that counts the lowest bit of each byte first.
func turn(b []byte, place int, burst uint32) []byte {
	out := bytes.Clone(b)
	for bit := range 32 {
		if burst>>bit&1 == 1 {
			at := place + bit
			out[at/8] ^= 1 << (at % 8)
		}
	}
	return out
}

// bursts tells patterns of so many bits, whose first and last are turned.
func bursts(length int) []uint32 {
	ends := uint32(1) | 1<<(length-1)
	all := uint32(math.MaxUint32) >> (32 - length)
	return []uint32{ends, all, ends | all&0x55555555, ends | all&0xedb88320, ends | all&0x04c11db7, ends | all&0x12345678, ends | all&^0x12345678}
}

// P2.6: all places of all lengths: at the beginning, in the sum, and across both.
func TestBursts(t *testing.T) {
	for _, size := range []int{0, 1, 2, 3, 4, 5, 8, 20} {
		for _, b := range [][]byte{mixed(size), make([]byte, size)} {
			sealed := check.Seal(b)
			for length := 1; length <= 32; length++ {
				for place := 0; place+length <= 8*len(sealed); place++ {
					for _, burst := range bursts(length) {
						wantUnseal(t, turn(sealed, place, burst), nil, api.ErrCorrupt)
					}
				}
			}
		}
	}
}

// P2.6: each pattern of 12 bits at each place about the sum's beginning.
func TestEveryShortBurstAboutTheSum(t *testing.T) {
	sealed := check.Seal(mixed(6))
	for burst := uint32(1); burst < 1<<12; burst++ {
		for place := 8*6 - 12; place <= 8*6; place++ {
			wantUnseal(t, turn(sealed, place, burst), nil, api.ErrCorrupt)
		}
	}
}

// P2.6: the polynomial itself is 33 bits long, the shortest burst that may pass, and it does: the order of the bits is the chapter's.
func TestBurstOfThirtyThreeBits(t *testing.T) {
	b := mixed(10)
	sealed := check.Seal(b)
	for place := 0; place+33 <= 8*len(sealed); place++ {
		// The first bit is the one that is shifted out where x is 1; the 32 of the rule follow it, the lowest first.
		turned := turn(turn(sealed, place, 1), place+1, 0xedb88320)
		wantUnseal(t, turned, turned[:10], api.OK)
	}
}
