package match_test

import (
	"fmt"
	"testing"

	"slabvault/api"
	"slabvault/match"
)

// P15.1: the document's examples, and others that can be read.
func TestPackTexts(t *testing.T) {
	for _, x := range []struct{ b, want string }{
		{"abc", "\x00abc"}, {"aaaaaaaaa", "\x01\x00a\x84\x01"},
		{"", "\x00"}, {"a", "\x00a"}, {"\x00", "\x00\x00"}, {"\x01", "\x00\x01"}, {"ab", "\x00ab"}, {"aa", "\x00aa"}, {"aaa", "\x00aaa"}, {"aaaa", "\x00aaaa"}, {"aaaaa", "\x01\x00a\x80\x01"}, {"aaaaaa", "\x01\x00a\x81\x01"},
		{"aabaaba", "\x01\x02aab\x80\x03"}, {"aabaabab", "\x00aabaabab"}, {"abcabcabx", "\x01\x02abc\x81\x03\x00x"}, {"abcdabcd", "\x01\x03abcd\x80\x04"},
		{"abababab", "\x01\x01ab\x82\x02"}, {"abcabcabcabc", "\x01\x02abc\x85\x03"}, {"abcdefabcdef", "\x01\x05abcdef\x82\x06"},
		{"abcdefabcdefx", "\x01\x05abcdef\x82\x06\x00x"}, {"xabcdefabcdefxyz", "\x01\x06xabcdef\x82\x06\x02xyz"},
		{"aaaaaaabbbbbbb", "\x01\x00a\x82\x01\x00b\x82\x01"}, {"aaaaaaaxaaaaaaa", "\x01\x00a\x82\x01\x00x\x83\x08"},
	} {
		wantPack(t, []byte(x.b), []byte(x.want))
		wantJust(t, []byte(x.want), []byte(x.b))
	}
}

// P15.1: no bytes, nil or empty, are the byte 0.
func TestPackOfNoBytes(t *testing.T) {
	for _, b := range [][]byte{nil, {}, []byte("abc")[:0]} {
		wantPlain(t, b)
	}
}

// P15.1: up to 4 bytes have more bytes of tokens, whatever they are; 5 that are alike have fewer.
func TestPackOfFewBytes(t *testing.T) {
	for x := range 256 {
		for n := range 5 {
			wantPlain(t, same(byte(x), n))
		}
		for n := range 4 {
			wantPlain(t, join(same(byte(x), n), []byte{7}))
		}
		wantPlain(t, join(same(byte(x), 4), []byte{byte(x + 1)}))
		wantTokens(t, same(byte(x), 5), run([]byte{byte(x)}), copied(4, 1))
	}
}

// P15.1: tokens that are as many bytes as there are bytes are not told, such as are one fewer are; the byte 1 ahead of them is not counted.
func TestPackOfFewerBytesOfTokens(t *testing.T) {
	wantPlain(t, []byte("abcda"))
	wantTokens(t, []byte("aaaaa"), word("a"), copied(4, 1))
	wantTokens(t, []byte("aabaaba"), word("aab"), copied(4, 3))
	wantPlain(t, []byte("aabaabab"))
	wantTokens(t, []byte("abcdabcd"), word("abcd"), copied(4, 4))
	wantTokens(t, []byte("abcdabcda"), word("abcd"), copied(5, 4))
	wantPlain(t, []byte("abcdabcdx"))
	wantTokens(t, []byte("abcdabcdax"), word("abcd"), copied(5, 4), word("x"))
	wantPlain(t, []byte("aaaaaxyz"))
	wantTokens(t, []byte("aaaaaaxyz"), word("a"), copied(5, 1), word("xyz"))
	wantTokens(t, []byte("abcabcabx"), word("abc"), copied(5, 3), word("x"))
	for count := 4; count <= 131; count++ { // a copy saves all but 2 of its bytes, and 1 goes to each run
		for n := count; n <= 255; n++ {
			b := join(rising(n), rising(count))
			if costs := (n+127)/128 + 2; costs < count {
				wantTokens(t, b, runs(rising(n)), copied(count, n))
			} else {
				wantPlain(t, b)
			}
		}
	}
}

// wantWithTail holds the tokens of bytes behind which one comes that did not stand among the last 255, 60 times. These make up for what the tokens ahead of them cost. Its first one belongs to the last run.
func wantWithTail(t *testing.T, b []byte, last byte, l ...[]byte) {
	t.Helper()
	wantTokens(t, join(b, same(last, 60)), append(l, copied(59, 1))...)
}

// P15.1: what has no copy is told by runs, all but the last one of 128 bytes; such of just 127, 128 and 129 bytes are among them.
func TestRunsOfEachLength(t *testing.T) {
	for n := range 600 {
		wantPlain(t, rising(n))
		wantWithTail(t, rising(n), byte(n), runs(rising(n+1)))
	}
	for n := 1; n <= 255; n++ {
		wantTokens(t, cycle(n, n+60), runs(rising(n)), copied(60, n))
	}
}

// P15.1: a run ends ahead of a copy, and one behind it has 128 bytes of its own.
func TestRunsBetweenCopies(t *testing.T) {
	for _, n := range []int{4, 5, 63, 64, 65, 120, 126, 127, 128, 129, 130, 131} {
		for _, m := range []int{1, 2, 62, 63, 64, 65, 120, 122, 123, 124} {
			right := rising(n + m)[n:]
			wantWithTail(t, join(rising(n), rising(n), right), byte(n+m), runs(rising(n)), copied(n, n), runs(append(right, byte(n+m))))
		}
	}
	for m := 120; m <= 140; m++ {
		right := rising(100 + m)[100:]
		wantWithTail(t, join(rising(100), rising(100), right), byte(100+m), runs(rising(100)), copied(100, 100), runs(append(right, byte(100+m))))
	}
}

// P15.1: no run is begun between two copies.
func TestCopiesNextToOneAnother(t *testing.T) {
	b := []byte("abcdefgh1ijklmnop2abcdefghijklmnopabcdefgh")
	wantTokens(t, b, word("abcdefgh1ijklmnop2"), copied(8, 18), copied(8, 17), copied(8, 16))
}

// P15.1: of bytes that are alike copies reach into themselves: just 3 bytes are no copy, just 4 are one, just 131 are the longest one, and what stands behind is a copy of its own, or a run.
func TestCopiesOfEachLength(t *testing.T) {
	for count := 5; count <= 600; count++ {
		l := [][]byte{word("a")}
		for left := count; left > 0; left -= 131 {
			if n := min(left, 131); n >= 4 {
				l = append(l, copied(n, 1))
			} else {
				l = append(l, run(same('a', n)))
			}
		}
		wantTokens(t, same('a', count+1), l...)
	}
}

// P15.1: so it is of bytes that stand farther ahead. A copy ends where bytes differ.
func TestCopiesEndWhereBytesDiffer(t *testing.T) {
	b := rising(150)
	for count := range 4 {
		wantWithTail(t, join(b, b[:count], []byte{254}), 255, runs(join(b, b[:count], []byte{254, 255})))
	}
	for count := 4; count <= 131; count++ {
		wantWithTail(t, join(b, b[:count], []byte{254}), 255, runs(b), copied(count, 150), run([]byte{254, 255}))
	}
	for count := 132; count <= 134; count++ {
		wantWithTail(t, join(b, b[:count], []byte{254}), 255, runs(b), copied(131, 150), run(join(b[131:count], []byte{254, 255})))
	}
	for count := 135; count <= 150; count++ {
		wantWithTail(t, join(b, b[:count], []byte{254}), 255, runs(b), copied(131, 150), copied(count-131, 150), run([]byte{254, 255}))
	}
}

// P15.1: each distance from 1 to 255 is one, 256 is none.
func TestDistances(t *testing.T) {
	for d := 1; d <= 255; d++ {
		for _, count := range []int{8, 130, 131} {
			wantTokens(t, cycle(d, d+count), runs(rising(d)), copied(count, d))
		}
		wantTokens(t, cycle(d, d+132+60), runs(rising(d)), copied(131, d), copied(61, d))
	}
	for _, n := range []int{256, 257, 260, 300, 511, 512, 1000} {
		wantPlain(t, rising(n))
	}
	for d := 250; d <= 255; d++ {
		wantWithTail(t, join(rising(d), rising(10)), 255, runs(rising(d)), copied(10, d), word("\xff"))
	}
	wantWithTail(t, join(rising(256), rising(10)), 10, runs(join(rising(256), rising(11))))
}

// P15.1: of all distances the one with the most bytes, and of those that are as good the least.
func TestTheBestDistance(t *testing.T) {
	for _, x := range []struct {
		b string
		l [][]byte
	}{
		{"abcdXabcdYabcdZ", [][]byte{word("abcdX"), copied(4, 5), word("Y"), copied(4, 5), word("Z\n")}},
		{"abcdeXabcdYabcdeZ", [][]byte{word("abcdeX"), copied(4, 6), word("Y"), copied(5, 11), word("Z\n")}},
		{"abcdXabcdeYabcdeZ", [][]byte{word("abcdX"), copied(4, 5), word("eY"), copied(5, 6), word("Z\n")}},
		{"abcdeXabcdeYabcdeZ", [][]byte{word("abcdeX"), copied(5, 6), word("Y"), copied(5, 6), word("Z\n")}},
		{"abcde1abcdf2abcdg3abcde4", [][]byte{word("abcde1"), copied(4, 6), word("f2"), copied(4, 6), word("g3"), copied(5, 18), word("4\n")}},
		{"ababababcabababababab", [][]byte{word("ab"), copied(6, 2), word("c"), copied(8, 9), copied(4, 2), word("\n")}},
		{"aaaaaaaaabaaaaaaaaaaa", [][]byte{word("a"), copied(8, 1), word("b"), copied(9, 10), word("aa\n")}},
		{"aaaaabaaaa", [][]byte{word("a"), copied(4, 1), word("b"), copied(4, 5), word("\n")}},
	} {
		wantWithTail(t, []byte(x.b), '\n', x.l...)
	}
}

// P15.1: a copy is taken at the first place that has one, also where the next place has a longer one.
func TestTheFirstPlaceIsTaken(t *testing.T) {
	b := []byte("abcd1bcdefghij2abcdefghijabcdefghij")
	wantTokens(t, b, word("abcd1bcdefghij2"), copied(4, 15), copied(6, 11), copied(10, 10))
	b = []byte("abc1bcdefghij2abcdefghijabcdefghij")
	wantTokens(t, b, word("abc1bcdefghij2a"), copied(9, 11), copied(10, 10))
}

// P15.1: bytes of all lengths over few letters, each row of them, against the second reading.
func TestPackOfEachShortRow(t *testing.T) {
	for _, x := range []struct{ letters, most int }{{2, 13}, {3, 9}, {4, 7}} {
		for n := range x.most + 1 {
			rows := 1
			for range n {
				rows *= x.letters
			}
			for row := range rows {
				b := make([]byte, n)
				for i, left := 0, row; i < n; i, left = i+1, left/x.letters {
					b[i] = byte(left % x.letters)
				}
				wantPack(t, b, modelPack(b))
			}
		}
	}
}

// P15.1: just MaxData bytes are packed, with no copy, with many, and with copies and runs.
func TestPackOfTheMostBytes(t *testing.T) {
	wantPlain(t, rising(api.MaxData))
	l := [][]byte{word("a")}
	for range 500 {
		l = append(l, copied(131, 1))
	}
	wantTokens(t, same('a', api.MaxData), append(l, copied(api.MaxData-1-500*131, 1))...)
	d := dice(15)
	for _, b := range [][]byte{d.mixed(api.MaxData), d.bytes(api.MaxData, 2), d.bytes(api.MaxData, 5), d.bytes(api.MaxData, 256), d.mixed(api.MaxData - 1)} {
		wantPack(t, b, modelPack(b))
	}
}

// P15.1: ErrBig of more than MaxData bytes, whatever they are.
func TestPackOfTooManyBytes(t *testing.T) {
	for _, n := range []int{api.MaxData + 1, api.MaxData + 2, 2 * api.MaxData, 1 << 20} {
		for i, b := range [][]byte{make([]byte, n), rising(n), same(255, n)} {
			t.Run(fmt.Sprint(n, i), func(t *testing.T) {
				if got, e := match.Pack(b); e != api.ErrBig || len(got) != 0 {
					t.Errorf("Pack(%s) = %s, %d, not ErrBig", brief(b), brief(got), e)
				}
			})
		}
	}
}
