package match_test

import (
	"testing"

	"slabvault/api"
)

// P15.2: the document's examples, and others that can be read.
func TestUnpackTexts(t *testing.T) {
	for _, x := range []struct{ b, want string }{
		{"\x01\x00a\x84\x01", "aaaaaaaaa"}, {"\x00abc", "abc"},
		{"\x00", ""}, {"\x01", ""}, {"\x00\x00", "\x00"}, {"\x00\x01", "\x01"}, {"\x00\x02\xff", "\x02\xff"}, {"\x00\x01\x00a\x84\x01", "\x01\x00a\x84\x01"},
		{"\x01\x00a", "a"}, {"\x01\x01ab", "ab"}, {"\x01\x01ab\x80\x01", "abbbbb"}, {"\x01\x01ab\x80\x02", "ababab"}, {"\x01\x02abc\x83\x03", "abcabcabca"}, {"\x01\x02abc\x83\x02", "abcbcbcbcb"},
	} {
		wantJust(t, []byte(x.b), []byte(x.want))
	}
	for _, b := range []string{"\x01\x80\x01", "\x01\x05a", "", "\x02"} {
		refuse(t, []byte(b), 9, api.ErrCorrupt)
	}
	refuse(t, []byte("\x01\x00a\x84\x01"), 8, api.ErrBig)
}

// P15.2: tokens that Pack would never tell are taken.
func TestUnpackOfOtherTokens(t *testing.T) {
	for _, x := range []struct {
		want string
		l    [][]byte
	}{
		{"", nil},
		{"abc", [][]byte{word("abc")}}, // longer than the bytes
		{"abcd", [][]byte{word("a"), word("bc"), word("d")}},                                                           // runs that are not full
		{"aaaaaaaaa", [][]byte{word("aaaaaaaaa")}},                                                                     // a run of what a copy tells
		{"aaaaaaaaaaaaa", [][]byte{word("aaa"), copied(6, 1), copied(4, 1)}},                                           // a copy that could begin sooner, and be longer
		{"aaaaaaaaaaaa", [][]byte{word("aaa"), copied(5, 3), copied(4, 8)}},                                            // a distance that is not the least
		{"ababcdababcdabc", [][]byte{word("ababcd"), copied(5, 6), word("d"), word("abc")}},                            // a copy that ends too soon
		{"abcdeabcdabcde", [][]byte{word("abcde"), copied(4, 5), copied(4, 4), word("e")}},                             // one that is not the best
		{"abcabcabcabcabc", [][]byte{word("abcabc"), copied(4, 6), word("bcab"), word("c")}},                           // and all of that
		{"ababababababababab", [][]byte{word("ab"), copied(4, 2), copied(4, 4), copied(8, 6)}},                         // by several distances
		{"abcabcabXcabXcabX", [][]byte{word("abc"), copied(5, 3), word("X"), copied(8, 4)}},                            // behind one another
		{"\x00\x01\x80\x01\x80\x01", [][]byte{word("\x00\x01\x80\x01"), word("\x80\x01")}},                             // bytes that look like tokens
		{"\x00\x00\x00\x00\x00\x01\x01\x01\x01\x01", [][]byte{word("\x00"), copied(4, 1), word("\x01"), copied(4, 1)}}, // and noughts
	} {
		wantJust(t, tokens(x.l...), []byte(x.want))
	}
	wantJust(t, tokens(word("a"), run(rising(128)), run(rising(127))), join([]byte("a"), rising(128), rising(127)))
	wantJust(t, plain(same('a', 300)), same('a', 300))
}

// P15.2: runs of each length, ahead of and behind others.
func TestUnpackOfEachRun(t *testing.T) {
	for n := 1; n <= 128; n++ {
		b := rising(128 + n)[128:]
		wantJust(t, tokens(run(b)), b)
		wantJust(t, tokens(word("xyz"), run(b), word("a")), join([]byte("xyz"), b, []byte("a")))
		wantJust(t, tokens(run(b), copied(4, n)), join(b, join(b, b, b, b)[:4]))
	}
}

// P15.2: copies of each length by each distance, within the bytes told so far and just as far as these go; by one more, and by 0, they are ErrCorrupt.
func TestUnpackOfEachCopy(t *testing.T) {
	for count := 4; count <= 131; count++ {
		for d := 1; d <= 255; d++ {
			just := cycle(d, d+count)
			wantJust(t, tokens(runs(rising(d)), copied(count, d)), just)
			b := tokens(word("xy"), runs(rising(d)), copied(count, d), word("z"))
			wantJust(t, b, join([]byte("xy"), just, []byte("z")))
			if d > 1 {
				refuse(t, tokens(runs(rising(d-1)), copied(count, d)), api.MaxData, api.ErrCorrupt)
			}
		}
		refuse(t, tokens(copied(count, 1)), api.MaxData, api.ErrCorrupt)
		refuse(t, tokens(copied(count, 255)), api.MaxData, api.ErrCorrupt)
		refuse(t, tokens(copied(count, 0)), api.MaxData, api.ErrCorrupt)
		refuse(t, tokens(runs(rising(300)), copied(count, 0)), api.MaxData, api.ErrCorrupt)
		refuse(t, tokens(runs(rising(300)), copied(count, 1), copied(count, 0), word("a")), api.MaxData, api.ErrCorrupt)
	}
}

// P15.2: each distance is held against the bytes told so far, those of runs and of copies together.
func TestUnpackCountsWhatIsTold(t *testing.T) {
	for told := range 300 {
		for d := 1; d <= 255; d++ {
			b := tokens(copied(4, d))
			if told > 0 {
				b = tokens(runs(rising(told)), copied(4, d))
			}
			if d > told {
				refuse(t, b, api.MaxData, api.ErrCorrupt)
			} else {
				wantUnpack(t, b, told+4, join(rising(told), spread(rising(told), d, 4)))
			}
		}
	}
	wantJust(t, tokens(word("ab"), copied(4, 1), copied(4, 6)), []byte("abbbbbabbb"))
	refuse(t, tokens(word("ab"), copied(4, 1), copied(4, 7)), api.MaxData, api.ErrCorrupt)
}

// spread tells so many bytes behind others, of which each stands d places ahead.
func spread(b []byte, d, count int) []byte {
	last := b[len(b)-d:]
	return join(last, last, last, last)[:count]
}

// P15.2: what is cut off is ErrCorrupt, but behind a whole token.
func TestUnpackOfTokensThatEndEarly(t *testing.T) {
	l := [][]byte{word("a"), copied(5, 1), run(rising(128)), copied(131, 100), word("xyz"), copied(4, 255), run(rising(127)), copied(130, 3), word("z")}
	whole := map[int]bool{1: true}
	for i := range l {
		whole[len(tokens(l[:i+1]...))] = true
	}
	b := tokens(l...)
	for n := 1; n <= len(b); n++ {
		if whole[n] {
			got, _ := modelUnpack(b[:n], api.MaxData)
			wantJust(t, b[:n], got)
		} else {
			refuse(t, b[:n], api.MaxData, api.ErrCorrupt)
		}
	}
	refuse(t, b[:0], api.MaxData, api.ErrCorrupt)
}

// P15.2: each first byte of a token, with all that it asks for, and with one byte less, as the first token and behind another one.
func TestUnpackOfEachFirstByte(t *testing.T) {
	for head := range 256 {
		x := join([]byte{byte(head)}, same('a', head+1))
		if head >= 128 {
			x = []byte{byte(head), 1}
		}
		for _, ahead := range [][]byte{tokens(), tokens(word("b"))} {
			b := join(ahead, x)
			want, e := modelUnpack(b, api.MaxData)
			if head < 128 || len(ahead) > 1 {
				wantJust(t, b, want)
			} else {
				refuse(t, b, api.MaxData, e)
			}
			for n := len(ahead) + 1; n < len(b); n++ {
				refuse(t, b[:n], api.MaxData, api.ErrCorrupt)
			}
		}
	}
}

// P15.2: ErrCorrupt of no byte, nil or empty, and of each first byte above 1, whatever stands behind it.
func TestUnpackOfWrongFirstBytes(t *testing.T) {
	for _, most := range []int{0, 1, 9, api.MaxData} {
		refuse(t, nil, most, api.ErrCorrupt)
		refuse(t, []byte{}, most, api.ErrCorrupt)
		refuse(t, []byte("\x00abc")[:0], most, api.ErrCorrupt)
		for first := 2; first < 256; first++ {
			for _, behind := range [][]byte{nil, []byte("a"), word("a"), join(word("a"), copied(4, 1)), rising(300)} {
				refuse(t, join([]byte{byte(first)}, behind), most, api.ErrCorrupt)
			}
		}
	}
}

// P15.2: most may be 0 and MaxData, and is ErrArg below and above, whatever the bytes are.
func TestUnpackOfWrongMosts(t *testing.T) {
	for _, b := range [][]byte{nil, {}, {0}, {1}, plain([]byte("a")), tokens(word("a")), tokens(copied(4, 1)), {2}, {255, 0}, plain(rising(api.MaxData + 1)), tokens(runs(rising(api.MaxData + 1)))} {
		for _, most := range wrongMosts() {
			refuse(t, b, most, api.ErrArg)
		}
	}
	for _, most := range []int{0, 1, api.MaxData - 1, api.MaxData} {
		wantUnpack(t, []byte{0}, most, nil)
		wantUnpack(t, []byte{1}, most, nil)
	}
	refuse(t, plain([]byte("a")), 0, api.ErrBig)
	refuse(t, tokens(word("a")), 0, api.ErrBig)
}

// P15.2: what a token adds is held against most, whichever token it is.
func TestUnpackOfTooManyBytes(t *testing.T) {
	l := [][]byte{word("ab"), copied(9, 2), word("xyz"), copied(4, 14), copied(131, 18), run(rising(128)), word("z"), copied(130, 130)}
	for i := range l {
		b := tokens(l[:i+1]...)
		want, _ := modelUnpack(b, api.MaxData)
		for most := range len(want) {
			refuse(t, b, most, api.ErrBig)
			refuse(t, tokens(l...), most, api.ErrBig)
		}
		wantJust(t, b, want)
	}
	for n := range 300 {
		wantJust(t, plain(rising(n)), rising(n))
		for most := range n {
			refuse(t, plain(rising(n)), most, api.ErrBig)
		}
	}
}

// P15.2: just MaxData bytes are told, by runs, by copies and behind the byte 0; with one more it is ErrBig.
func TestUnpackOfTheMostBytes(t *testing.T) {
	all := rising(api.MaxData)
	wantJust(t, plain(all), all)
	wantJust(t, tokens(runs(all)), all)
	refuse(t, plain(rising(api.MaxData+1)), api.MaxData, api.ErrBig)
	refuse(t, tokens(runs(all), word("a")), api.MaxData, api.ErrBig)
	refuse(t, tokens(runs(all), copied(4, 1)), api.MaxData, api.ErrBig)
	refuse(t, tokens(runs(all[:api.MaxData-3]), copied(4, 1)), api.MaxData, api.ErrBig)
	wantJust(t, tokens(runs(all[:api.MaxData-4]), copied(4, 1)), join(all[:api.MaxData-4], same(all[api.MaxData-5], 4)))
	one := tokens(word("a"))
	for range 500 {
		one = append(one, copied(131, 1)...)
	}
	rest := api.MaxData - 1 - 500*131
	wantJust(t, join(one, copied(rest, 1)), same('a', api.MaxData))
	refuse(t, join(one, copied(rest+1, 1)), api.MaxData, api.ErrBig)
	singles := tokens()
	for range api.MaxData {
		singles = append(singles, word("a")...)
	}
	wantJust(t, singles, same('a', api.MaxData))
	refuse(t, join(singles, word("a")), api.MaxData, api.ErrBig)
	refuse(t, join([]byte{1}, same(0, 1<<20)), api.MaxData, api.ErrBig)
	refuse(t, join(tokens(word("a")), same(255, 1<<20)), api.MaxData, api.ErrCorrupt)
	refuse(t, join(tokens(runs(all[:255])), same(255, 1<<20)), api.MaxData, api.ErrBig)
}

// P15.2: of two faults the one that the chapter names first in a token, and of two tokens the first one's.
func TestUnpackOfTwoFaults(t *testing.T) {
	few, many := word("abc"), run(rising(128))
	early, ends, nought, beyond := []byte("\x7fabc"), []byte{255}, []byte{255, 0}, []byte{255, 4}
	for _, fault := range [][]byte{early, ends, nought, beyond} {
		for most := 3; most <= 200; most++ { // the token is corrupt, also where it would be too long
			refuse(t, tokens(few, fault), most, api.ErrCorrupt)
		}
		for most := range 3 { // the first token is too long, whatever the next one is
			refuse(t, tokens(few, fault), most, api.ErrBig)
			refuse(t, tokens(few, fault, few), most, api.ErrBig)
		}
		if len(fault) == 2 { // it is corrupt, whatever comes behind it
			refuse(t, tokens(few, fault, many), 3, api.ErrCorrupt)
			refuse(t, tokens(few, fault, many), 100, api.ErrCorrupt)
		}
		refuse(t, tokens(few, many, fault), 130, api.ErrBig)
		refuse(t, tokens(few, copied(131, 1), fault), 133, api.ErrBig)
		for _, most := range wrongMosts() {
			refuse(t, tokens(few, fault), most, api.ErrArg)
		}
		refuse(t, join([]byte{2}, few, fault), 0, api.ErrCorrupt)
	}
	refuse(t, join([]byte{2}, rising(300)), 9, api.ErrCorrupt)
	refuse(t, join([]byte{255}, rising(api.MaxData+1)), api.MaxData, api.ErrCorrupt)
}

// P15.2: all rows of some bytes that are, or nearly are, tokens, with each most that matters, against the second reading.
func TestUnpackOfEachShortRow(t *testing.T) {
	letters := []byte{0, 1, 2, 3, 128, 129, 255}
	for n := range 7 {
		rows := 1
		for range n {
			rows *= len(letters)
		}
		for row := range rows {
			b := make([]byte, n)
			for i, left := 0, row; i < n; i, left = i+1, left/len(letters) {
				b[i] = letters[left%len(letters)]
			}
			for _, most := range []int{-1, 0, 1, 3, 4, 5, 8, 140, api.MaxData, api.MaxData + 1} {
				wantModel(t, b, most)
			}
		}
	}
}
