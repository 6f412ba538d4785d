package match_test

import (
	"bytes"
	"math"
	"testing"

	"slabvault/api"
	"slabvault/match"
)

// packOf tells a packing, and holds what P15.1, P15.3 and P15.4 say of any bytes: it leads back, and is at most one byte longer.
func packOf(t *testing.T, b []byte) []byte {
	t.Helper()
	p, e := match.Pack(b)
	if e != api.OK || len(p) > len(b)+1 {
		t.Fatalf("Pack(%s) = %s, %d", brief(b), brief(p), e)
	}
	wantJust(t, p, b)
	return p
}

// P15.3: a packing leads back with each most that is enough, and is ErrBig with each that is not; a wrong most is ErrArg.
func TestBackWithEachMost(t *testing.T) {
	d := dice(3)
	for n := range 140 {
		for _, b := range [][]byte{rising(n), same('a', n), d.bytes(n, 2), d.mixed(n)} {
			p := packOf(t, b)
			for most := range n {
				refuse(t, p, most, api.ErrBig)
			}
			for most := n; most < n+5; most++ {
				wantUnpack(t, p, most, b)
			}
			for _, most := range wrongMosts() {
				refuse(t, p, most, api.ErrArg)
			}
		}
	}
}

// P15.3: so it does at the limit.
func TestBackOfTheMostBytes(t *testing.T) {
	d := dice(4)
	for n := api.MaxData - 2; n <= api.MaxData; n++ {
		for _, b := range [][]byte{rising(n), same(0, n), same(255, n), d.bytes(n, 2), d.bytes(n, 256), d.mixed(n), cycle(255, n), cycle(131, n)} {
			packOf(t, b)
		}
	}
}

// P15.4: each number of bytes that are alike, up to some thousands and at the limit, has a short packing; and each byte has one.
func TestShortOfBytesThatAreAlike(t *testing.T) {
	check := func(x byte, n int) {
		t.Helper()
		if p := packOf(t, same(x, n)); len(p) > n/api.MatchRatio+api.MatchConst {
			t.Errorf("of %d bytes %d: %d bytes", n, x, len(p))
		}
	}
	for n := range 5000 {
		check(byte(n%251), n)
	}
	for n := api.MaxData - 300; n <= api.MaxData; n++ {
		check(7, n)
	}
	for x := range 256 {
		for _, n := range []int{1, 64, 127, 128, 129, 130, 256, api.MaxChunk, api.MaxData} {
			check(byte(x), n)
		}
	}
}

// P15.4: at most one byte more, of bytes whose tokens are not fewer, of any length.
func TestShortOfAnyBytes(t *testing.T) {
	d := dice(5)
	for n := range 1500 {
		if p := packOf(t, rising(n)); len(p) != n+1 {
			t.Errorf("of %d rising bytes: %d bytes", n, len(p))
		}
		packOf(t, d.bytes(n, 256))
		packOf(t, d.bytes(n, 8))
	}
}

// wantAgain holds P15.5 of a row.
func wantAgain(t *testing.T, row []byte) {
	t.Helper()
	if p := packOf(t, join(row, row)); len(p) > len(row)+8 {
		t.Errorf("of %s twice: %d bytes", brief(row), len(p))
	}
}

// P15.5: rows of each length from 10 to 131 that stand twice, of all sorts: such as have no copy of their own, and such as have many, also one that reaches into the second row.
func TestAgainOfEachLength(t *testing.T) {
	d := dice(6)
	for n := 10; n <= 131; n++ {
		wantAgain(t, rising(n))
		wantAgain(t, same(9, n))
		for period := 1; period < n; period++ {
			wantAgain(t, cycle(period, n))
		}
		for kinds := 2; kinds <= 256; kinds += 1 + kinds/3 {
			for range 40 {
				wantAgain(t, d.bytes(n, kinds))
			}
		}
		for range 200 {
			wantAgain(t, d.mixed(n))
		}
		for count := 1; count < min(n, 12); count++ { // the row's end and its beginning stand together within it, so that a copy goes over the border
			for at := 0; at+2*count <= n; at += 1 + n/20 {
				row := rising(n)
				copy(row[at:], join(row[n-count:], row[:count]))
				wantAgain(t, row)
			}
		}
	}
}

// P15.5: each row of 10 to 14 bytes over two letters, and of 10 over three.
func TestAgainOfEachShortRow(t *testing.T) {
	for _, x := range []struct{ letters, n int }{{2, 10}, {2, 11}, {2, 12}, {2, 13}, {2, 14}, {3, 10}} {
		for row := range int(math.Pow(float64(x.letters), float64(x.n))) {
			b := make([]byte, x.n)
			for i, left := 0, row; i < x.n; i, left = i+1, left/x.letters {
				b[i] = byte(left % x.letters)
			}
			wantAgain(t, b)
		}
	}
}

// P15.1 to P15.3: whatever bytes come, they are packed as the second reading says, and lead back.
func TestAnyBytesAgainstTheModel(t *testing.T) {
	d := dice(7)
	for range 6000 {
		n := d.below(1 << (1 + d.below(10)))
		b := d.mixed(n)
		if d.below(3) == 0 {
			b = d.bytes(n, 1+d.below(8))
		}
		if p := packOf(t, b); !bytes.Equal(p, modelPack(b)) {
			t.Errorf("Pack(%s) = %s, not %s", brief(b), brief(p), brief(modelPack(b)))
		}
	}
}

// thrown tells tokens that are mostly whole.
func (d *dice) thrown() []byte {
	out := []byte{1}
	for range d.below(12) {
		switch d.below(20) {
		case 0:
			out = append(out, byte(d.below(256)), byte(d.below(256)))
		case 1:
			out = append(out, d.bytes(d.below(200), 256)...)
		case 2:
			out = append(out, copied(4+d.below(128), d.below(256))...)
		case 3, 4, 5, 6, 7, 8:
			out = append(out, copied(4+d.below(1<<d.below(8)), 1+d.below(1<<d.below(6)))...)
		default:
			out = append(out, run(d.bytes(1+d.below(1<<d.below(8)), 256))...)
		}
	}
	return out
}

// P15.2: whatever tokens come, they are taken as the second reading says, with each most about what they tell.
func TestAnyTokensAgainstTheModel(t *testing.T) {
	d := dice(8)
	for range 30000 {
		b := d.thrown()
		if d.below(4) == 0 {
			b = b[:d.below(len(b)+1)]
		}
		want, _ := modelUnpack(b, api.MaxData)
		for _, most := range []int{len(want) - 1, len(want), len(want) + 1, d.below(300), d.below(3000), api.MaxData} {
			wantModel(t, b, most)
		}
	}
}

// P15.2: a packing of which one byte is another one, or is cut off, is taken as the second reading says.
func TestTurnedPackings(t *testing.T) {
	d := dice(9)
	for range 300 {
		p := packOf(t, d.mixed(20+d.below(200)))
		for i := range p {
			b := bytes.Clone(p)
			b[i] ^= byte(1 << d.below(8))
			wantModel(t, b, api.MaxData)
			wantModel(t, p[:i], api.MaxData)
			b[i] = byte(d.below(256))
			wantModel(t, b, d.below(300))
		}
	}
}
