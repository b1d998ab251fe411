package reedsolomon_test

import (
	"slices"
	"testing"

	"barscan/api"
	"barscan/reedsolomon"
)

// checkDecodeError checks that an error has come, and no word.
func checkDecodeError(t *testing.T, c api.Code, word, erased []int, want api.Errno) {
	t.Helper()
	got, e := reedsolomon.Decode(c, word, erased)
	if len(got.Word) != 0 || len(got.Changed) != 0 || e != want {
		t.Errorf("Decode with %v: %v, %d; want error %d", c, got, e, want)
	}
}

// checkDecode checks that a word is decoded to a codeword.
func checkDecode(t *testing.T, c api.Code, word, erased, want []int) {
	t.Helper()
	got, e := reedsolomon.Decode(c, word, erased)
	if !slices.Equal(got.Word, want) || !slices.Equal(got.Changed, differences(word, want)) || e != api.OK {
		t.Fatalf("Decode with %v of %v with %v erased: %v, %d; want %v", c, word, erased, got, e, want)
	}
}

// differences returns the indexes at which two words differ.
func differences(a, b []int) []int {
	var list []int
	for i := range a {
		if a[i] != b[i] {
			list = append(list, i)
		}
	}
	return list
}

// isWithin reports whether a codeword is within the capacity of a word with a set of erased indexes, by the definition.
func isWithin(c api.Code, word, erased, codeword []int) bool {
	errors := 0
	for _, i := range differences(word, codeword) {
		if !slices.Contains(erased, i) {
			errors++
		}
	}
	return 2*errors+len(erased) <= c.Parity
}

// checkAgainst compares Decode with a search in all codewords of the length of a word.
func checkAgainst(t *testing.T, c api.Code, codewords [][]int, word, erased []int) {
	t.Helper()
	for _, codeword := range codewords {
		if isWithin(c, word, erased, codeword) {
			checkDecode(t, c, word, erased, codeword)
			return
		}
	}
	checkDecodeError(t, c, word, erased, api.ErrErrors)
}

// codewordsOf returns all codewords with n symbols.
func codewordsOf(c api.Code, n int) [][]int {
	roots := rootsOf(c)
	return slices.DeleteFunc(allWords(c.Field, n), func(word []int) bool { return !isCodeword(c.Field, roots, word) })
}

// subsets calls try with all ascending lists of indexes of a word with n symbols.
func subsets(n int, try func(indexes []int)) {
	for set := range 1 << n {
		var indexes []int
		for i := range n {
			if set>>i&1 == 1 {
				indexes = append(indexes, i)
			}
		}
		try(indexes)
	}
}

// TestDecodeAll checks P7.5 for all words and erased indexes of tiny codes.
func TestDecodeAll(t *testing.T) {
	for _, c := range tinyCodes() {
		for n := c.Parity + 1; n < c.Field.Size; n++ {
			codewords := codewordsOf(c, n)
			for _, word := range allWords(c.Field, n) {
				subsets(n, func(erased []int) { checkAgainst(t, c, codewords, word, erased) })
			}
		}
	}
}

// TestDecode checks P7.5 for many words of larger codes, of which all codewords can be listed.
func TestDecode(t *testing.T) {
	r := newRand()
	for _, f := range []api.Field{prime(7), binary(3, 11), prime(11), binary(4, 0x13), binary(4, 0x1f)} {
		for range 40 {
			c := api.Code{Field: f, Parity: 1 + r.IntN(f.Size-2), First: r.IntN(f.Size - 1)}
			n := min(c.Parity+1+r.IntN(3), f.Size-1)
			codewords := listed(t, c, n)
			for range 15 {
				erased := r.Perm(n)[:r.IntN(min(n, c.Parity+1)+1)]
				checkAgainst(t, c, codewords, random(r, f, n), erased)
				near := damaged(r, f, codewords[r.IntN(len(codewords))], r.Perm(n)[:r.IntN(n+1)])
				checkAgainst(t, c, codewords, near, erased)
				checkAgainst(t, c, codewords, near, nil)
			}
		}
	}
}

// listed returns the codewords of all data.
func listed(t *testing.T, c api.Code, n int) [][]int {
	t.Helper()
	list := allWords(c.Field, n-c.Parity)
	for i, data := range list {
		list[i] = encode(t, c, data)
	}
	return list
}

// TestDecodeExamples checks P7.5 with the chapter's examples.
func TestDecodeExamples(t *testing.T) {
	c := api.Code{Field: prime(7), Parity: 2}
	checkDecode(t, c, []int{1, 3, 4}, nil, []int{1, 3, 3})
	checkDecode(t, c, []int{0, 0, 3}, []int{0, 1}, []int{1, 3, 3})
	checkDecode(t, c, []int{0, 0, 3}, []int{1, 0, 1, 0, 0, 1, 1}, []int{1, 3, 3})
	checkDecode(t, c, []int{1, 3, 3}, []int{2, 1}, []int{1, 3, 3})
	// The word is a codeword, but no word is within the capacity if so many symbols are erased.
	checkDecodeError(t, c, []int{1, 3, 3}, []int{0, 1, 2}, api.ErrErrors)
}

// TestRepeatedErasures checks P7.5: it makes no difference if an index occurs several times, or in which order.
func TestRepeatedErasures(t *testing.T) {
	r := newRand()
	for _, c := range codes() {
		word := encode(t, c, random(r, c.Field, shortLength(r, c)-c.Parity))
		erased := r.Perm(len(word))[:c.Parity]
		bad := damaged(r, c.Field, word, erased)
		for range 3 {
			erased = append(erased, erased...)
		}
		r.Shuffle(len(erased), func(i, j int) { erased[i], erased[j] = erased[j], erased[i] })
		checkDecode(t, c, bad, erased, word)
	}
}

// TestDecodeErrors checks P7.1 and P7.5.
func TestDecodeErrors(t *testing.T) {
	for _, c := range codes() {
		last := c.Field.Size - 1
		for _, n := range []int{0, 1, c.Parity, last + 1, last + 2, 5000} {
			if n > c.Parity && n <= last {
				continue
			}
			word := make([]int, n)
			checkDecodeError(t, c, word, nil, api.ErrLength)
			for _, i := range outside(n) {
				checkDecodeError(t, c, word, []int{i}, api.ErrArg)
			}
			if n > 0 {
				checkDecodeError(t, c, word, []int{n - 1, 0}, api.ErrLength)
			}
		}
		for _, n := range []int{c.Parity + 1, last} {
			word := make([]int, n)
			for _, i := range outside(n) {
				checkDecodeError(t, c, word, []int{0, i, 0}, api.ErrArg)
			}
			all := make([]int, n)
			for i := range all {
				all[i] = i
			}
			checkDecodeError(t, c, word, all, api.ErrErrors)
			checkDecode(t, c, word, all[:c.Parity], word)
		}
	}
}

// TestMemory checks that arguments are not changed, and that results share no memory with them.
func TestMemory(t *testing.T) {
	f := binary(8, 0x11d)
	c := api.Code{Field: f, Parity: 4, First: 1}
	data := []int{7, 0, 255, 3}
	word := encode(t, c, data)
	codeword := slices.Clone(word)
	word[0] = 99
	if !slices.Equal(data, []int{7, 0, 255, 3}) {
		t.Errorf("Encode has changed the data: %v", data)
	}
	erased := append(make([]int, 0, 20), 5, 2, 5)
	word = append(make([]int, 0, 20), codeword...)
	word[1], word[5] = 8, 9
	bad := slices.Clone(word)
	got, e := reedsolomon.Decode(c, word, erased)
	if e != api.OK || !slices.Equal(got.Word, codeword) || !slices.Equal(got.Changed, []int{1, 5}) {
		t.Fatalf("Decode: %v, %d", got, e)
	}
	got.Word[0], got.Changed[0] = 77, 77
	_ = append(got.Word, 1)
	if !slices.Equal(word, bad) || !slices.Equal(erased, []int{5, 2, 5}) || !slices.Equal(got.Changed, []int{77, 5}) {
		t.Errorf("Decode has changed %v or %v", word, erased)
	}
	syndromes, e := reedsolomon.Syndromes(c, word)
	if e != api.OK || !slices.Equal(word, bad) {
		t.Errorf("Syndromes has changed %v, %d", word, e)
	}
	before := slices.Clone(syndromes)
	locator, e := reedsolomon.Locator(f, syndromes)
	if e != api.OK || len(locator) == 0 {
		t.Fatalf("Locator: %v, %d", locator, e)
	}
	locator[0] = 77
	if !slices.Equal(syndromes, before) {
		t.Errorf("Locator has changed %v", syndromes)
	}
	// A codeword is returned as new memory, too.
	got, e = reedsolomon.Decode(c, codeword, nil)
	if e != api.OK || len(got.Changed) != 0 {
		t.Fatalf("Decode: %v, %d", got, e)
	}
	first := codeword[0]
	got.Word[0]++
	if codeword[0] != first {
		t.Errorf("Decode has returned its argument")
	}
}
