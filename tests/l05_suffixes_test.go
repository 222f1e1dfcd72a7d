package tests

import (
	"bytes"
	"math"
	"slices"
	"strings"
	"testing"

	"loop.example/g00688/impl"
)

// textSizes are small sizes, those around a power of 2, and the limit.
var textSizes = []int{0, 1, 2, 3, 4, 5, 7, 8, 9, 15, 16, 17, 31, 32, 33, 64, 65, 127, 128, 129, 255, 256, 257, 299, impl.MaxText}

// longSizes are sizes of texts that are not valid.
var longSizes = []int{impl.MaxText + 1, impl.MaxText + 2, 512, 4096, 1 << 20}

// textPatterns returns texts of n bytes: of one byte repeated, with a single
// exception, periodic ones, rising and falling ones, and irregular ones of
// few and of many bytes.
func textPatterns(n int) [][]byte {
	rules := []func(i int) byte{
		func(i int) byte { return 0 },
		func(i int) byte { return 'a' },
		func(i int) byte { return 255 },
		func(i int) byte { return byte(i + 1 - n) },
		func(i int) byte { return byte(n - 1 - i) },
		func(i int) byte { return byte(min(i, 1)) },
		func(i int) byte { return byte(255 - min(i, 1)) },
		func(i int) byte { return "ab"[i%2] },
		func(i int) byte { return "ba"[i%2] },
		func(i int) byte { return "\x00\xff\x00"[i%3] },
		func(i int) byte { return "abcabd"[i%6] },
		func(i int) byte { return byte(i % (n/2 + 1)) },
		func(i int) byte { return 'a' + byte(i&(i>>1)%2) },
		func(i int) byte { return byte((i*i*40503+12345*i+99)>>4) % 2 },
		func(i int) byte { return byte((i*i*40503 + 12345*i + 99) >> 4) },
	}
	var texts [][]byte
	for _, rule := range rules {
		x := make([]byte, n)
		for i := range x {
			x[i] = rule(i)
		}
		texts = append(texts, x)
	}
	return append(texts, fibonacciText(n))
}

// fibonacciText returns a text in which many suffixes begin alike.
func fibonacciText(n int) []byte {
	a, b := "b", "a"
	for len(b) < n {
		a, b = b, b+a
	}
	return []byte(b[:n])
}

// allTexts returns all texts of at most n of these bytes.
func allTexts(letters string, n int) [][]byte {
	texts := [][]byte{nil}
	for at := 0; at < len(texts); at++ {
		if len(texts[at]) == n {
			break
		}
		for _, b := range []byte(letters) {
			texts = append(texts, append(slices.Clone(texts[at]), b))
		}
	}
	return texts
}

func smallTexts() [][]byte {
	return slices.Concat(allTexts("ab", 7), allTexts("\x00\x7f\xff", 4), allTexts("\x7f\x80", 5))
}

func manyTexts() [][]byte {
	texts := smallTexts()
	for _, n := range textSizes {
		texts = append(texts, textPatterns(n)...)
	}
	return append(texts, []byte("abab"), []byte("mississippi"), []byte("abracadabra"))
}

// plainLess compares two suffixes byte by byte.
func plainLess(x []byte, i, j int) bool {
	for i < len(x) && j < len(x) && x[i] == x[j] {
		i, j = i+1, j+1
	}
	return j < len(x) && (i == len(x) || x[i] < x[j])
}

// plainRows sorts the suffixes as strings; their lengths tell their indices.
func plainRows(x []byte) []int {
	var suffixes []string
	for i := range len(x) + 1 {
		suffixes = append(suffixes, string(x[i:]))
	}
	slices.Sort(suffixes)
	rows := make([]int, len(suffixes))
	for k, s := range suffixes {
		rows[k] = len(x) - len(s)
	}
	return rows
}

func plainOccurs(x, p []byte) []int {
	var list []int
	for i := range len(x) + 1 {
		if i+len(p) <= len(x) && string(x[i:i+len(p)]) == string(p) {
			list = append(list, i)
		}
	}
	return list
}

// plainRowsOf counts the suffixes that are less than p, and those that begin
// with it.
func plainRowsOf(x, p []byte) (int, int) {
	text, word := string(x), string(p)
	less, with := 0, 0
	for i := range len(text) + 1 {
		if strings.HasPrefix(text[i:], word) {
			with++
		} else if text[i:] < word {
			less++
		}
	}
	return less, less + with
}

// shown returns the beginning of a text.
func shown(x []byte) []byte { return x[:min(len(x), 12)] }

func TestSuffixExamples(t *testing.T) {
	if impl.MaxText != 300 {
		t.Error("MaxText", impl.MaxText)
	}
	x := []byte("abab")
	if got := impl.SuffixRows(x); !slices.Equal(got, []int{4, 2, 0, 3, 1}) {
		t.Error("SuffixRows", got)
	}
	if got := impl.LcpRows(x); !slices.Equal(got, []int{0, 0, 2, 0, 1}) {
		t.Error("LcpRows", got)
	}
	if lo, hi := impl.RowsOf(x, []byte("ab")); lo != 1 || hi != 3 {
		t.Error("RowsOf ab", lo, hi)
	}
	if lo, hi := impl.RowsOf(x, []byte("c")); lo != 5 || hi != 5 {
		t.Error("RowsOf c", lo, hi)
	}
}

func TestTextOk(t *testing.T) {
	if !impl.TextOk(nil) || !impl.TextOk([]byte{}) {
		t.Error("the empty text")
	}
	for _, n := range textSizes {
		for k, x := range textPatterns(n) {
			if !impl.TextOk(x) {
				t.Errorf("%d bytes, pattern %d", n, k)
			}
		}
	}
	for _, n := range longSizes {
		if impl.TextOk(make([]byte, n)) {
			t.Errorf("%d bytes", n)
		}
	}
	if !impl.TextOk(make([]byte, 2*impl.MaxText)[:impl.MaxText]) {
		t.Error("MaxText bytes with more behind them")
	}
}

func TestSuffixCmp(t *testing.T) {
	texts := smallTexts()
	for _, n := range []int{16, 33, 65} {
		texts = append(texts, textPatterns(n)...)
	}
	for _, x := range texts {
		for i := range len(x) + 1 {
			for j := range len(x) + 1 {
				want := 0
				if plainLess(x, i, j) {
					want = -1
				} else if plainLess(x, j, i) {
					want = 1
				}
				if got := impl.SuffixCmp(x, i, j); got != want {
					t.Fatalf("SuffixCmp of %q, %d and %d is %d, not %d", shown(x), i, j, got, want)
				}
			}
		}
	}
}

// TestSuffixCmpOfPrefixes has suffixes each of which begins with all shorter
// ones, the empty one included.
func TestSuffixCmpOfPrefixes(t *testing.T) {
	for _, b := range []byte{0, 'a', 255} {
		x := bytes.Repeat([]byte{b}, impl.MaxText)
		for _, i := range []int{0, 1, 150, impl.MaxText - 1, impl.MaxText} {
			if got := impl.SuffixCmp(x, i, i); got != 0 {
				t.Errorf("byte %d, %d twice: %d", b, i, got)
			}
			if i == 0 {
				continue
			}
			if got, back := impl.SuffixCmp(x, i, i-1), impl.SuffixCmp(x, i-1, i); got != -1 || back != 1 {
				t.Errorf("byte %d, %d and the one before it: %d and %d", b, i, got, back)
			}
		}
	}
}

func TestSuffixCmpNoSuffix(t *testing.T) {
	for _, n := range []int{0, 1, 2, 5, 299, impl.MaxText} {
		for _, x := range textPatterns(n) {
			bad := append([]int{n + 1, n + 2, math.MinInt + n, impl.MaxText + 1, math.MaxInt - 1}, farInts...)
			for _, i := range bad {
				for _, j := range append([]int{0, n / 2, n}, bad...) {
					if got, back := impl.SuffixCmp(x, i, j), impl.SuffixCmp(x, j, i); got != 0 || back != 0 {
						t.Fatalf("%d bytes, %d and %d: %d and %d", n, i, j, got, back)
					}
				}
			}
		}
	}
}

// Promise 6, its first half: what each row has to be, told by SuffixCmp and by
// the bytes.
func checkRows(t *testing.T, x []byte, rows, lengths []int) {
	t.Helper()
	if len(rows) != len(x)+1 || len(lengths) != len(rows) {
		t.Fatalf("%q: %d rows and %d lengths", shown(x), len(rows), len(lengths))
	}
	seen := make([]bool, len(rows))
	for k, i := range rows {
		if i < 0 || i > len(x) || seen[i] {
			t.Fatalf("%q: row %d has the suffix %d, which is none or has a row already", shown(x), k, i)
		}
		seen[i] = true
		if k == 0 {
			if i != len(x) || lengths[0] != 0 {
				t.Fatalf("%q: row 0 has the suffix %d and the length %d", shown(x), i, lengths[0])
			}
			continue
		}
		j, n := rows[k-1], lengths[k]
		if impl.SuffixCmp(x, j, i) != -1 || !plainLess(x, j, i) {
			t.Fatalf("%q: the suffix %d of row %d is not less than the next one", shown(x), j, k-1)
		}
		if n < 0 || n > len(x)-max(i, j) || string(x[i:i+n]) != string(x[j:j+n]) {
			t.Fatalf("%q: the row %d has not %d bytes in common with the previous one", shown(x), k, n)
		}
		if j+n < len(x) && i+n < len(x) && x[i+n] == x[j+n] {
			t.Fatalf("%q: the row %d has more than %d bytes in common with the previous one", shown(x), k, n)
		}
	}
}

func TestSuffixRowsAndLcpRows(t *testing.T) {
	for _, x := range manyTexts() {
		rows := impl.SuffixRows(x)
		checkRows(t, x, rows, impl.LcpRows(x))
		if want := plainRows(x); !slices.Equal(rows, want) {
			t.Fatalf("SuffixRows of %q is %v, not %v", shown(x), rows, want)
		}
	}
}

func TestRowsOfEmptyAndOneByteTexts(t *testing.T) {
	for _, x := range [][]byte{nil, {}} {
		if rows, lengths := impl.SuffixRows(x), impl.LcpRows(x); !slices.Equal(rows, []int{0}) || !slices.Equal(lengths, []int{0}) {
			t.Error(rows, lengths)
		}
	}
	for b := range 256 {
		x := []byte{byte(b)}
		if rows, lengths := impl.SuffixRows(x), impl.LcpRows(x); !slices.Equal(rows, []int{1, 0}) || !slices.Equal(lengths, []int{0, 0}) {
			t.Error(b, rows, lengths)
		}
	}
}

// TestRowsOfOneByteRepeated has the rows from the end of the text on.
func TestRowsOfOneByteRepeated(t *testing.T) {
	for _, n := range textSizes {
		for _, b := range []byte{0, 'a', 255} {
			rows, lengths := impl.SuffixRows(bytes.Repeat([]byte{b}, n)), impl.LcpRows(bytes.Repeat([]byte{b}, n))
			if len(rows) != n+1 || len(lengths) != n+1 {
				t.Fatal(n, b, rows, lengths)
			}
			for k := range rows {
				if rows[k] != n-k || lengths[k] != max(0, k-1) {
					t.Fatalf("byte %d, %d times, row %d: %d and %d", b, n, k, rows[k], lengths[k])
				}
			}
		}
	}
}

// TestSuffixRowsCompareBytes has each byte once, so that the rows are those of
// the bytes, without a sign.
func TestSuffixRowsCompareBytes(t *testing.T) {
	x := make([]byte, 256)
	for i := range x {
		x[i] = byte(i*77 + 200)
	}
	for k, i := range impl.SuffixRows(x) {
		if k == 0 && i != 256 || k > 0 && int(x[i]) != k-1 {
			t.Fatalf("row %d has the suffix %d", k, i)
		}
	}
	if lengths := impl.LcpRows(x); !slices.Equal(lengths, make([]int, 257)) {
		t.Error(lengths)
	}
}

// checkInverse expects the list whose element x is the index of x.
func checkInverse(t *testing.T, list []int) {
	t.Helper()
	places, ok := impl.Inverse(list)
	if !ok || len(places) != len(list) {
		t.Fatalf("Inverse refuses %d numbers, or answers %d", len(list), len(places))
	}
	for x, k := range places {
		if k < 0 || k >= len(list) || list[k] != x {
			t.Fatalf("Inverse of %d numbers: %d has the index %d", len(list), x, k)
		}
	}
	if back, ok := impl.Inverse(places); !ok || !slices.Equal(back, list) {
		t.Fatalf("Inverse of the Inverse of %d numbers", len(list))
	}
}

// orders returns all lists of the numbers 0..n - 1.
func orders(n int) [][]int {
	if n == 0 {
		return [][]int{{}}
	}
	var lists [][]int
	for _, list := range orders(n - 1) {
		for at := range n {
			lists = append(lists, slices.Insert(slices.Clone(list), at, n-1))
		}
	}
	return lists
}

func TestInverse(t *testing.T) {
	checkInverse(t, nil)
	for n := range 7 {
		for _, list := range orders(n) {
			checkInverse(t, list)
		}
	}
	for _, n := range []int{1, 2, 64, 299, 300, impl.MaxText + 1} {
		rising, falling, mixed := make([]int, n), make([]int, n), make([]int, n)
		for k := range n {
			rising[k], falling[k], mixed[k] = k, n-1-k, (k*1009+7)%n
		}
		for _, list := range [][]int{rising, falling, mixed} {
			checkInverse(t, list)
		}
	}
	for _, x := range manyTexts() {
		checkInverse(t, impl.SuffixRows(x))
	}
}

func refuseInverse(t *testing.T, name string, list []int) {
	t.Helper()
	if places, ok := impl.Inverse(list); ok || places != nil {
		t.Errorf("%s: Inverse of %d numbers: %v %v", name, len(list), places, ok)
	}
}

func TestInverseRejects(t *testing.T) {
	for _, n := range []int{1, 2, 3, 64, 300, impl.MaxText + 1} {
		for _, at := range []int{0, n / 2, n - 1} {
			list := make([]int, n)
			for k := range list {
				list[k] = (k*1009 + 7) % n
			}
			for _, x := range append([]int{n, n + 1, 2 * n, -n, -2, 1 << 62, list[at] + 1<<32, list[at] - 1<<32}, farInts...) {
				changed := slices.Clone(list)
				changed[at] = x
				refuseInverse(t, "a number out of range", changed)
			}
			for x := range n {
				changed := slices.Clone(list)
				changed[at] = x
				if x != list[at] {
					refuseInverse(t, "a number twice", changed)
				}
			}
		}
	}
	for _, list := range [][]int{{0, 0}, {1, 1}, {1}, {1, 2}, {1, 2, 3}, {0, 2}, {0, 1, 1}, {0, 1, 0}, {2, 2, 2}, {-1}, {0, -1}, {-1, 0}} {
		refuseInverse(t, "a number missing", list)
	}
	for _, n := range []int{impl.MaxText + 2, impl.MaxText + 3, 1000, 1 << 20} {
		rising := make([]int, n)
		for k := range rising {
			rising[k] = k
		}
		refuseInverse(t, "too many numbers", rising)
		refuseInverse(t, "too many numbers, all 0", make([]int, n))
		refuseInverse(t, "the first of too many numbers missing", rising[1:])
		checkInverse(t, rising[:impl.MaxText+1])
	}
}

// TestInverseAllSmall tries all lists of at most four numbers in -1..4.
func TestInverseAllSmall(t *testing.T) {
	for n := range 5 {
		valid := orders(n)
		for code := range int(math.Pow(6, float64(n))) {
			list := make([]int, n)
			for k := range list {
				list[k] = code%6 - 1
				code /= 6
			}
			isOrder := slices.ContainsFunc(valid, func(v []int) bool { return slices.Equal(v, list) })
			if _, ok := impl.Inverse(list); ok != isOrder {
				t.Fatalf("Inverse of %v: %v", list, ok)
			}
		}
	}
}

// wordsFor returns words that occur in the text and words that don't: pieces of
// it as they are, with a byte more, and with the last byte changed.
func wordsFor(x []byte) [][]byte {
	words := [][]byte{nil, {}, {0}, {0, 0}, {255}, {255, 255}, {'a'}, {'b'}, []byte("ab"), []byte("ba"), {127}, {128}}
	n := len(x)
	for _, i := range []int{0, 1, n / 3, n / 2, n - 2, n - 1} {
		for _, size := range []int{1, 2, 3, 7, n / 3, n - 1, n} {
			if i < 0 || size < 1 || i+size > n {
				continue
			}
			word := x[i : i+size]
			words = append(words, word)
			for _, b := range []byte{0, 'a', 'b', 255} {
				words = append(words, append(slices.Clone(word), b))
			}
			for _, add := range []byte{1, 255} {
				changed := slices.Clone(word)
				changed[size-1] += add
				words = append(words, changed)
			}
		}
	}
	return append(words, append(slices.Clone(x), x...), make([]byte, n+1), bytes.Repeat([]byte{255}, n+1))
}

// checkWord expects of Occurs and of RowsOf what the plain search finds, and
// that the rows of the one are the indices of the other: promise 6, its last
// part.
func checkWord(t *testing.T, x, p []byte, rows []int) {
	t.Helper()
	found, want := impl.Occurs(x, p), plainOccurs(x, p)
	if !slices.Equal(found, want) {
		t.Fatalf("%q in %q: Occurs is %v, not %v", shown(p), shown(x), found, want)
	}
	lo, hi := impl.RowsOf(x, p)
	wantLo, wantHi := plainRowsOf(x, p)
	if lo != wantLo || hi != wantHi {
		t.Fatalf("%q in %q: RowsOf is %d and %d, not %d and %d", shown(p), shown(x), lo, hi, wantLo, wantHi)
	}
	indices := slices.Clone(rows[lo:hi])
	slices.Sort(indices)
	if !slices.Equal(indices, found) {
		t.Fatalf("%q in %q: the rows have the suffixes %v, Occurs is %v", shown(p), shown(x), indices, found)
	}
}

func TestOccursAndRowsOf(t *testing.T) {
	for _, x := range manyTexts() {
		rows := impl.SuffixRows(x)
		for _, p := range wordsFor(x) {
			checkWord(t, x, p, rows)
		}
	}
}

func TestOccursAndRowsOfAllSmall(t *testing.T) {
	for _, x := range allTexts("ab", 6) {
		rows := impl.SuffixRows(x)
		for _, p := range allTexts("abc", 4) {
			checkWord(t, x, p, rows)
		}
	}
}

// TestEmptyWord: every suffix begins with the empty word, the empty suffix too.
func TestEmptyWord(t *testing.T) {
	for _, x := range manyTexts() {
		for _, p := range [][]byte{nil, {}} {
			found := impl.Occurs(x, p)
			if len(found) != len(x)+1 {
				t.Fatalf("%q: the empty word occurs at %v", shown(x), found)
			}
			for k, i := range found {
				if i != k {
					t.Fatalf("%q: the empty word occurs at %v", shown(x), found)
				}
			}
			if lo, hi := impl.RowsOf(x, p); lo != 0 || hi != len(x)+1 {
				t.Fatalf("%q: the empty word has the rows %d to %d", shown(x), lo, hi)
			}
		}
	}
}

// TestEmptySuffix: it is the first row, and begins with no word but the empty
// one.
func TestEmptySuffix(t *testing.T) {
	for _, x := range append(smallTexts(), textPatterns(impl.MaxText)...) {
		for _, p := range wordsFor(x) {
			if len(p) == 0 {
				continue
			}
			if slices.Contains(impl.Occurs(x, p), len(x)) {
				t.Fatalf("%q: the empty suffix begins with %q", shown(x), shown(p))
			}
			if lo, _ := impl.RowsOf(x, p); lo == 0 {
				t.Fatalf("%q: the row 0 is not less than %q", shown(x), shown(p))
			}
		}
	}
}

func TestRowsOfAbsentWords(t *testing.T) {
	cases := []struct {
		text, word string
		row        int
	}{
		{"", "a", 1}, {"", "\x00", 1}, {"", "\xff\xff", 1},
		{"b", "a", 1}, {"b", "c", 2}, {"b", "ba", 2}, {"b", "bb", 2}, {"\x00", "\x00\x00", 2}, {"\xff", "\xff\x00", 2},
		{"bdbd", "a", 1}, {"bdbd", "\x00", 1}, {"bdbd", "bc", 1}, {"bdbd", "bda", 2}, {"bdbd", "bdbc", 2},
		{"bdbd", "bdbda", 3}, {"bdbd", "bdbdb", 3}, {"bdbd", "c", 3}, {"bdbd", "be", 3},
		{"bdbd", "da", 4}, {"bdbd", "dbc", 4}, {"bdbd", "dbda", 5}, {"bdbd", "dc", 5}, {"bdbd", "e", 5}, {"bdbd", "\xff", 5},
		{"abab", "aa", 1}, {"abab", "abc", 3}, {"abab", "ac", 3}, {"abab", "bb", 5}, {"abab", "ababa", 3},
	}
	for _, c := range cases {
		x, p := []byte(c.text), []byte(c.word)
		if lo, hi := impl.RowsOf(x, p); lo != c.row || hi != c.row {
			t.Errorf("%q in %q: RowsOf is %d and %d, not %d", p, x, lo, hi, c.row)
		}
		if found := impl.Occurs(x, p); len(found) != 0 {
			t.Errorf("%q in %q: Occurs is %v", p, x, found)
		}
	}
}

// TestOverlappingWords has words each of which begins within the previous one.
func TestOverlappingWords(t *testing.T) {
	x := bytes.Repeat([]byte{'a'}, impl.MaxText)
	for _, size := range []int{1, 2, 150, 299, impl.MaxText} {
		found := impl.Occurs(x, x[:size])
		if len(found) != impl.MaxText+1-size || found[0] != 0 || found[len(found)-1] != impl.MaxText-size {
			t.Errorf("%d bytes: %d indices", size, len(found))
		}
		if lo, hi := impl.RowsOf(x, x[:size]); lo != size || hi != impl.MaxText+1 {
			t.Errorf("%d bytes: the rows %d to %d", size, lo, hi)
		}
	}
	for _, p := range [][]byte{append(slices.Clone(x), 'a'), bytes.Repeat([]byte{'a'}, 1<<20)} {
		lo, hi := impl.RowsOf(x, p)
		if found := impl.Occurs(x, p); len(found) != 0 || lo != impl.MaxText+1 || hi != lo {
			t.Errorf("a word of %d bytes: %d indices, the rows %d to %d", len(p), len(found), lo, hi)
		}
	}
}

func TestSuffixesOfLongTexts(t *testing.T) {
	for _, n := range longSizes {
		for k, x := range [][]byte{make([]byte, n), bytes.Repeat([]byte("ab"), n)[:n], fibonacciText(n)} {
			if rows, lengths := impl.SuffixRows(x), impl.LcpRows(x); rows != nil || lengths != nil {
				t.Errorf("%d bytes, text %d: %d rows, %d lengths", n, k, len(rows), len(lengths))
			}
			for _, p := range [][]byte{nil, {}, {0}, {'a'}, {'b'}, {255}, x[:1], x} {
				lo, hi := impl.RowsOf(x, p)
				if found := impl.Occurs(x, p); found != nil || lo != 0 || hi != 0 {
					t.Errorf("%d bytes, text %d: %d indices, the rows %d to %d", n, k, len(found), lo, hi)
				}
			}
			for _, i := range []int{math.MinInt, -1, 0, 1, 2, 299, 300, 301, n - 1, n, n + 1, math.MaxInt} {
				for _, j := range []int{-1, 0, 1, 3, 300, n - 2, n} {
					if got, back := impl.SuffixCmp(x, i, j), impl.SuffixCmp(x, j, i); got != 0 || back != 0 {
						t.Errorf("%d bytes, text %d: %d and %d: %d and %d", n, k, i, j, got, back)
					}
				}
			}
		}
	}
}

// spoilNumbers overwrites the numbers, and those behind them.
func spoilNumbers(list []int) {
	list = list[:cap(list)]
	for k := range list {
		list[k] = -77
	}
}

func TestSuffixesLeaveArgumentsAlone(t *testing.T) {
	for _, n := range []int{0, 1, 5, 64, impl.MaxText} {
		for _, x := range textPatterns(n) {
			all := append(slices.Clone(x), "aabb\x00\x00\xff\xff"...)
			word := append(slices.Clone(x[:n/3]), "aabb"...)
			before, wordBefore := slices.Clone(all), slices.Clone(word)
			y, p := all[:n], word[:n/3]
			if !impl.TextOk(y) || !slices.Equal(impl.SuffixRows(y), plainRows(x)) {
				t.Fatal("the bytes behind the text are read", n)
			}
			checkRows(t, x, impl.SuffixRows(y), impl.LcpRows(y))
			checkWord(t, y, p, plainRows(x))
			impl.SuffixCmp(y, 0, n)
			if !bytes.Equal(all, before) || !bytes.Equal(word, wordBefore) {
				t.Fatal("an argument is changed, or what is behind it", n)
			}
		}
	}
}

func TestSuffixResultsAreTheirOwn(t *testing.T) {
	for _, n := range []int{0, 1, 5, 64, impl.MaxText} {
		for _, x := range textPatterns(n) {
			before := slices.Clone(x)
			results := [][]int{impl.SuffixRows(x), impl.LcpRows(x), impl.Occurs(x, nil), impl.SuffixRows(x), impl.LcpRows(x), impl.Occurs(x, nil)}
			var want [][]int
			for _, list := range results {
				want = append(want, slices.Clone(list))
			}
			for k := range 3 {
				if !slices.Equal(want[k], want[k+3]) {
					t.Fatal("the same call returns something else", n)
				}
			}
			for k := range results {
				spoilNumbers(results[k])
				for m := k + 1; m < len(results); m++ {
					if !slices.Equal(results[m], want[m]) {
						t.Fatal("two results share memory", n)
					}
				}
			}
			if !bytes.Equal(x, before) || !slices.Equal(impl.SuffixRows(x), want[0]) || !slices.Equal(impl.LcpRows(x), want[1]) {
				t.Fatal("a result is kept", n)
			}
		}
	}
}

func TestInverseOwnsItsResult(t *testing.T) {
	for _, n := range []int{0, 1, 2, 64, impl.MaxText + 1} {
		all := make([]int, n, n+3)
		for k := range all {
			all[k] = (k*1009 + 7) % n
		}
		behind := append(all, 0, -1, math.MaxInt)
		before := slices.Clone(behind)
		places, ok := impl.Inverse(all)
		again, _ := impl.Inverse(all)
		want := slices.Clone(places)
		spoilNumbers(places)
		if !ok || !slices.Equal(behind, before) || !slices.Equal(again, want) {
			t.Fatal("Inverse shares memory, or changes its list", n)
		}
		spoilNumbers(behind)
		if !slices.Equal(again, want) {
			t.Fatal("Inverse keeps its list", n)
		}
	}
}
