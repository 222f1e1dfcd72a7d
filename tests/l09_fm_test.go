package tests

import (
	"bytes"
	"math"
	"slices"
	"testing"

	"loop.example/g00688/impl"
)

// notRates are no rates; some are ones if only their last bits are looked at.
var notRates = append([]int{0, -2, -impl.MaxRate, impl.MaxRate + 1, impl.MaxRate + 2, 2 * impl.MaxRate, 256 + 1, 1<<32 + 1, 1<<32 - 1, math.MinInt + 1}, farInts...)

// ratesFor returns rates for a text of n bytes: the least ones, some that
// divide n or n + 1, the neighbors of n, and the greatest ones.
func ratesFor(n int) []int {
	var rates []int
	for _, r := range []int{1, 2, 3, 7, 32, n/2 + 1, n - 1, n, n + 1, impl.MaxRate - 1, impl.MaxRate} {
		if r >= 1 && r <= impl.MaxRate {
			rates = append(rates, r)
		}
	}
	slices.Sort(rates)
	return slices.Compact(rates)
}

// fmTexts returns small texts, and all patterns at sizes around those of a
// word and at the limit.
func fmTexts() [][]byte {
	texts := slices.Concat(allTexts("ab", 5), allTexts("\x00\x7f\xff", 3))
	for _, n := range []int{1, 2, 6, 9, 63, 64, 65, 128, impl.MaxText} {
		texts = append(texts, textPatterns(n)...)
	}
	all := make([]byte, 256)
	for i := range all {
		all[i] = byte(i*77 + 200)
	}
	return append(texts, all, []byte("abab"), []byte("mississippi"), []byte("abracadabra"))
}

func mustFm(t *testing.T, x []byte, rate int) impl.Fm {
	t.Helper()
	f, ok := impl.FmOf(x, rate)
	if !ok {
		t.Fatalf("FmOf refuses %d bytes and the rate %d: %q", len(x), rate, shown(x))
	}
	return f
}

func isZeroFm(f impl.Fm) bool {
	return f.N == 0 && f.Rate == 0 && isZeroWave(f.Bwt) && len(f.C) == 0 && isZeroBits(f.Mark) && isZeroPacked(f.Sa) && isZeroPacked(f.Isa)
}

func sameFm(f, g impl.Fm) bool {
	return f.N == g.N && f.Rate == g.Rate && sameWave(f.Bwt, g.Bwt) && slices.Equal(f.C, g.C) &&
		sameBits(f.Mark, g.Mark) && samePacked(f.Sa, g.Sa) && samePacked(f.Isa, g.Isa)
}

func cloneFm(f impl.Fm) impl.Fm {
	f.Bwt, f.C = cloneWave(f.Bwt), slices.Clone(f.C)
	f.Mark.Words = slices.Clone(f.Mark.Words)
	f.Sa.Bits.Words = slices.Clone(f.Sa.Bits.Words)
	f.Isa.Bits.Words = slices.Clone(f.Isa.Bits.Words)
	return f
}

// binaryWidth counts the binary digits of n.
func binaryWidth(n int) int {
	width := 0
	for 1<<width <= n {
		width++
	}
	return width
}

// plainFm collects what the chapter names from the sorted suffixes. The text
// may be too long, and the rate too great.
func plainFm(t *testing.T, x []byte, rate int) impl.Fm {
	t.Helper()
	rows := plainRows(x)
	var marks, numbers, places []int
	for _, i := range rows {
		marks = append(marks, 0)
		if i%rate == 0 {
			marks[len(marks)-1] = 1
			numbers = append(numbers, i/rate)
		}
	}
	for i := 0; i <= len(x); i += rate {
		places = append(places, slices.Index(rows, i))
	}
	b, width := plainBwt(x), binaryWidth(len(x))
	return impl.Fm{
		N: len(x), Rate: rate, Bwt: plainWave(b), C: plainLess258(b),
		Mark: mustBits(t, marks), Sa: mustPack(t, numbers, width), Isa: mustPack(t, places, width),
	}
}

func TestFmExamples(t *testing.T) {
	if impl.MaxRate != 64 {
		t.Error("MaxRate", impl.MaxRate)
	}
	f := mustFm(t, []byte("abab"), 2)
	if f.N != 4 || f.Rate != 2 || !slices.Equal(impl.WaveList(f.Bwt), []int{99, 99, 0, 98, 98}) || len(f.C) != 258 {
		t.Error(f)
	}
	if !sameBits(f.Mark, impl.Bits{N: 5, Words: []uint64{7}}) {
		t.Error("Mark", f.Mark)
	}
	if f.Sa.Width != 3 || !slices.Equal(impl.PackList(f.Sa), []int{2, 1, 0}) {
		t.Error("Sa", f.Sa)
	}
	if f.Isa.Width != 3 || !slices.Equal(impl.PackList(f.Isa), []int{2, 1, 0}) {
		t.Error("Isa", f.Isa)
	}
	for k, want := range []int{0, 0, 0, 1, 1} {
		if got := impl.FmHops(f, k); got != want {
			t.Error("FmHops", k, got)
		}
	}
}

// checkFm expects the fields that the words of the chapter give, and that the
// text is recovered: promise 10, its first part.
func checkFm(t *testing.T, x []byte, rate int) impl.Fm {
	t.Helper()
	f := mustFm(t, x, rate)
	if want := plainFm(t, x, rate); !sameFm(f, want) {
		t.Fatalf("FmOf of %q, %d bytes, and the rate %d: %v, not %v", shown(x), len(x), rate, f, want)
	}
	if !impl.FmOk(f) {
		t.Fatalf("FmOk of the index of %q, %d bytes, and the rate %d", shown(x), len(x), rate)
	}
	if y := impl.FmText(f); !bytes.Equal(y, x) {
		t.Fatalf("FmText of the index of %q, %d bytes, and the rate %d is %q", shown(x), len(x), rate, shown(y))
	}
	return f
}

// TestFmOfAndBack has texts of one byte and of equal bytes, and ones of the
// greatest length, with rates that divide the length and ones that do not,
// and rates greater than the text.
func TestFmOfAndBack(t *testing.T) {
	for _, x := range fmTexts() {
		for _, rate := range ratesFor(len(x)) {
			checkFm(t, x, rate)
		}
	}
}

func TestFmOfAllRates(t *testing.T) {
	for _, n := range []int{0, 1, 10, 62, 63, 64, 65, impl.MaxText} {
		x := textPatterns(n)[13]
		for rate := 1; rate <= impl.MaxRate; rate++ {
			f := checkFm(t, x, rate)
			if f.Isa.N != n/rate+1 || f.Sa.N != f.Isa.N || impl.Rank(f.Mark, 1, n+1) != f.Sa.N {
				t.Fatalf("%d bytes, rate %d: %d marked rows, %d and %d numbers", n, rate, impl.Rank(f.Mark, 1, n+1), f.Sa.N, f.Isa.N)
			}
		}
	}
}

func TestFmOfEmptyText(t *testing.T) {
	for _, x := range [][]byte{nil, {}} {
		for _, rate := range []int{1, 2, impl.MaxRate} {
			f := checkFm(t, x, rate)
			if f.N != 0 || !slices.Equal(impl.WaveList(f.Bwt), []int{0}) || f.C[0] != 0 || f.C[1] != 1 || f.C[257] != 1 {
				t.Error(f)
			}
			if !sameBits(f.Mark, impl.Bits{N: 1, Words: []uint64{1}}) || !samePacked(f.Sa, impl.Packed{N: 1}) || !samePacked(f.Isa, impl.Packed{N: 1}) {
				t.Error(f.Mark, f.Sa, f.Isa)
			}
			if impl.FmLf(f, 0) != 0 || impl.FmSa(f, 0) != 0 || impl.FmIsa(f, 0) != 0 || impl.FmHops(f, 0) != 0 {
				t.Error("row 0 of the rate", rate)
			}
			if impl.FmLf(f, 1) != -1 || impl.FmSa(f, 1) != -1 || impl.FmIsa(f, 1) != -1 || impl.FmHops(f, 1) != -1 {
				t.Error("row 1 of the rate", rate)
			}
			checkFmWord(t, f, x, nil)
			checkFmWord(t, f, x, []byte{0})
			checkFmWord(t, f, x, []byte{255, 255})
			if got, ok := impl.FmExtract(f, 0, 0); !ok || len(got) != 0 {
				t.Error("FmExtract", got, ok)
			}
		}
	}
}

// TestFmOfOneByte has all bytes, the first and the last included.
func TestFmOfOneByte(t *testing.T) {
	for v := range 256 {
		for _, rate := range []int{1, 2, impl.MaxRate} {
			x := []byte{byte(v)}
			f := checkFm(t, x, rate)
			checkFmRows(t, f, x, []int{0, 1})
			for _, p := range [][]byte{nil, x, {byte(v), byte(v)}, {byte(v + 1)}, {byte(v - 1)}, {0}, {255}} {
				checkFmWord(t, f, x, p)
			}
		}
	}
}

func TestFmOfRejects(t *testing.T) {
	for _, n := range longSizes {
		for _, x := range [][]byte{make([]byte, n), bytes.Repeat([]byte("ab"), n)[:n], fibonacciText(n)} {
			for _, rate := range append([]int{1, 2, impl.MaxRate}, notRates...) {
				if f, ok := impl.FmOf(x, rate); ok || !isZeroFm(f) {
					t.Errorf("%d bytes, rate %d: %v", n, rate, ok)
				}
			}
		}
	}
	for _, n := range []int{0, 1, 2, 64, impl.MaxText} {
		for _, x := range textPatterns(n) {
			for _, rate := range notRates {
				if f, ok := impl.FmOf(x, rate); ok || !isZeroFm(f) {
					t.Errorf("%d bytes, rate %d: %v", n, rate, ok)
				}
			}
		}
	}
	for r := range 300 {
		for _, rate := range []int{-r, impl.MaxRate + 1 + r} {
			if f, ok := impl.FmOf([]byte("abab"), rate); ok || !isZeroFm(f) {
				t.Errorf("rate %d: %v", rate, ok)
			}
		}
	}
}

// someRows are rows or suffixes of a text of n bytes: all of them for short
// ones, and otherwise those at the ends, around half, and some in between.
func someRows(n int) []int {
	var rows []int
	for k := range n + 1 {
		if n < 12 || k < 3 || k > n-3 || k == n/2 || k%64 == 0 || k%37 == 5 {
			rows = append(rows, k)
		}
	}
	return rows
}

// checkFmRows expects of each row the suffix and the step that the sorted
// suffixes give, that rows and suffixes are inverse, and that as many steps as
// FmHops says, fewer than the rate, lead to a marked row: promise 10, its
// middle part.
func checkFmRows(t *testing.T, f impl.Fm, x []byte, some []int) {
	t.Helper()
	rows, lf := plainRows(x), plainLf(plainBwt(x))
	for _, k := range some {
		i := rows[k]
		if got := impl.FmSa(f, k); got != i {
			t.Fatalf("%q, %d bytes, rate %d: FmSa of row %d is %d, not %d", shown(x), len(x), f.Rate, k, got, i)
		}
		if got := impl.FmIsa(f, i); got != k {
			t.Fatalf("%q, %d bytes, rate %d: FmIsa of the suffix %d is %d, not %d", shown(x), len(x), f.Rate, i, got, k)
		}
		if got := impl.FmLf(f, k); got != lf[k] {
			t.Fatalf("%q, %d bytes, rate %d: FmLf of row %d is %d, not %d", shown(x), len(x), f.Rate, k, got, lf[k])
		}
		hops := 0
		for at := k; f.Mark.Words[at/64]>>(at%64)&1 == 0; at = lf[at] {
			hops++
		}
		if got := impl.FmHops(f, k); got != hops || got >= f.Rate || got != i%f.Rate {
			t.Fatalf("%q, %d bytes, rate %d: FmHops of row %d is %d, not %d", shown(x), len(x), f.Rate, k, got, hops)
		}
	}
}

func TestFmRowsAndSuffixes(t *testing.T) {
	for _, x := range fmTexts() {
		for _, rate := range ratesFor(len(x)) {
			if len(x) > 12 && rate > 3 && rate != 7 && rate != len(x) && rate < impl.MaxRate {
				continue
			}
			checkFmRows(t, mustFm(t, x, rate), x, someRows(len(x)))
		}
	}
}

// TestFmAllRows has all rows of long texts, marked and not.
func TestFmAllRows(t *testing.T) {
	all := make([]int, impl.MaxText+1)
	for k := range all {
		all[k] = k
	}
	texts := textPatterns(impl.MaxText)
	for _, x := range [][]byte{texts[1], texts[13], texts[14]} {
		for _, rate := range []int{1, 7, impl.MaxRate} {
			checkFmRows(t, mustFm(t, x, rate), x, all)
		}
	}
}

// TestFmRowOfEnds has the row of the complete text and that of the empty
// suffix, whether it is marked or not.
func TestFmRowOfEnds(t *testing.T) {
	for _, x := range fmTexts() {
		n := len(x)
		for _, rate := range ratesFor(n) {
			f := mustFm(t, x, rate)
			whole := slices.Index(plainBwt(x), 0)
			if impl.FmIsa(f, 0) != whole || impl.FmSa(f, whole) != 0 || impl.FmHops(f, whole) != 0 || impl.FmLf(f, whole) != 0 {
				t.Fatalf("%q, %d bytes, rate %d: the complete text, row %d", shown(x), n, rate, whole)
			}
			if impl.FmIsa(f, n) != 0 || impl.FmSa(f, 0) != n || impl.FmHops(f, 0) != n%rate {
				t.Fatalf("%q, %d bytes, rate %d: the empty suffix", shown(x), n, rate)
			}
			if marked := f.Mark.Words[0]&1 == 1; marked != (n%rate == 0) {
				t.Fatalf("%q, %d bytes, rate %d: row 0 is marked: %v", shown(x), n, rate, marked)
			}
		}
	}
}

func TestFmNoRow(t *testing.T) {
	for _, n := range []int{0, 1, 2, 5, 64, 299, impl.MaxText} {
		for _, x := range textPatterns(n) {
			for _, rate := range []int{1, 2, impl.MaxRate} {
				f := mustFm(t, x, rate)
				for _, k := range append([]int{-2, -n - 1, n + 1, n + 2, impl.MaxText + 1, n + 1<<32, math.MinInt + n}, farInts...) {
					if impl.FmSa(f, k) != -1 || impl.FmIsa(f, k) != -1 || impl.FmLf(f, k) != -1 || impl.FmHops(f, k) != -1 {
						t.Fatalf("%d bytes, rate %d: row and suffix %d", n, rate, k)
					}
				}
			}
		}
	}
}

// checkFmWord expects of FmRows and FmLocate what the plain search finds.
func checkFmWord(t *testing.T, f impl.Fm, x, p []byte) {
	t.Helper()
	wantLo, wantHi := plainRowsOf(x, p)
	if lo, hi := impl.FmRows(f, p); lo != wantLo || hi != wantHi {
		t.Fatalf("%q in %q, rate %d: FmRows is %d and %d, not %d and %d", shown(p), shown(x), f.Rate, lo, hi, wantLo, wantHi)
	}
	if got, want := impl.FmLocate(f, p), plainOccurs(x, p); !slices.Equal(got, want) {
		t.Fatalf("%q in %q, rate %d: FmLocate is %v, not %v", shown(p), shown(x), f.Rate, few(got), few(want))
	}
}

// TestFmWords has the empty word, words that occur and words that do not, the
// complete text and longer words.
func TestFmWords(t *testing.T) {
	for at, x := range fmTexts() {
		words := wordsFor(x)
		rates := ratesFor(len(x))
		for k, p := range words {
			if len(x) > 12 && len(p) > 1 && (k+at)%7 != 0 {
				continue
			}
			checkFmWord(t, mustFm(t, x, rates[(k+at)%len(rates)]), x, p)
		}
	}
}

func TestFmWordsAllSmall(t *testing.T) {
	for _, x := range allTexts("bd", 4) {
		for _, rate := range []int{1, 2, 3, impl.MaxRate} {
			f := mustFm(t, x, rate)
			for _, p := range slices.Concat(allTexts("abcd", 2), allTexts("bd", 5), allTexts("\x00\xff", 1)) {
				checkFmWord(t, f, x, p)
			}
		}
	}
}

// TestFmWholeTextAsWord has the text itself, and the words that are longer or
// shorter by one byte at either end.
func TestFmWholeTextAsWord(t *testing.T) {
	for _, x := range fmTexts() {
		f := mustFm(t, x, 3)
		for _, b := range []byte{0, 'b', 255} {
			checkFmWord(t, f, x, append(slices.Clone(x), b))
			checkFmWord(t, f, x, append([]byte{b}, x...))
		}
		if len(x) > 0 {
			checkFmWord(t, f, x, x[1:])
			checkFmWord(t, f, x, x[:len(x)-1])
			checkFmWord(t, f, x, slices.Concat(x, x[:1]))
		}
		checkFmWord(t, f, x, x)
		if list := impl.FmLocate(f, x); len(list) != 1 || list[0] != 0 {
			t.Fatalf("%q: the text occurs at %v", shown(x), list)
		}
	}
}

// TestFmLongWords: bytes beyond the length of the text decide nothing.
func TestFmLongWords(t *testing.T) {
	for _, n := range []int{0, 1, 9, 64, impl.MaxText} {
		for _, x := range textPatterns(n) {
			f := mustFm(t, x, 7)
			for _, b := range []byte{0, 'a', 255} {
				more := bytes.Repeat([]byte{b}, 1<<20)
				for _, p := range [][]byte{more[:n+2], more[:2*n+3], append(slices.Clone(x), more[:5]...), append(slices.Clone(x), more[:400]...)} {
					checkFmWord(t, f, x, p)
				}
				for _, p := range [][]byte{more, append(slices.Clone(x), more...)} {
					lo, hi := impl.FmRows(f, p)
					if want, _ := plainRowsOf(x, p[:n+1]); lo != want || hi != want {
						t.Fatalf("%d bytes, a word of %d: the rows %d to %d", n, len(p), lo, hi)
					}
					if list := impl.FmLocate(f, p); len(list) != 0 {
						t.Fatalf("%d bytes, a word of %d: it occurs at %v", n, len(p), few(list))
					}
				}
			}
		}
	}
}

// TestFmWordAfterBytes: a word occurs where a byte precedes it, or at the
// beginning: promise 10, its last part.
func TestFmWordAfterBytes(t *testing.T) {
	texts := slices.Concat(allTexts("ab", 4), [][]byte{{0, 255, 0, 255, 255}, []byte("abracadabra"), textPatterns(30)[13]})
	for k, x := range texts {
		f := mustFm(t, x, 1+k%5)
		for _, p := range [][]byte{nil, {0}, {'a'}, {'b'}, {255}, []byte("ab"), []byte("ba"), []byte("abra"), x} {
			var list []int
			if bytes.HasPrefix(x, p) {
				list = append(list, 0)
			}
			for c := range 256 {
				for _, i := range impl.FmLocate(f, append([]byte{byte(c)}, p...)) {
					list = append(list, i+1)
				}
			}
			slices.Sort(list)
			if got := impl.FmLocate(f, p); !slices.Equal(got, list) {
				t.Fatalf("%q in %q: it occurs at %v, and after bytes at %v", p, x, got, list)
			}
		}
	}
}

func checkExtract(t *testing.T, f impl.Fm, x []byte, i, j int) {
	t.Helper()
	if got, ok := impl.FmExtract(f, i, j); !ok || !bytes.Equal(got, x[i:j]) {
		t.Fatalf("%q, %d bytes, rate %d: FmExtract of %d to %d is %q, %v", shown(x), len(x), f.Rate, i, j, shown(got), ok)
	}
}

// TestFmExtract has no bytes, all bytes, and beginnings and ends that are
// multiples of the rate and ones that are not.
func TestFmExtract(t *testing.T) {
	for _, x := range slices.Concat(allTexts("ab", 4), textPatterns(9)) {
		for _, rate := range ratesFor(len(x)) {
			f := mustFm(t, x, rate)
			for j := range len(x) + 1 {
				for i := range j + 1 {
					checkExtract(t, f, x, i, j)
				}
			}
		}
	}
	for _, n := range []int{63, 65, 299, impl.MaxText} {
		for _, x := range textPatterns(n) {
			for _, rate := range []int{1, 7, impl.MaxRate} {
				f := mustFm(t, x, rate)
				for _, i := range []int{0, 1, 7, n / 2, n - 1, n} {
					for _, size := range []int{0, 1, 2, 57, n - i} {
						if i+size <= n {
							checkExtract(t, f, x, i, i+size)
						}
					}
				}
			}
		}
	}
}

func TestFmExtractRejects(t *testing.T) {
	for _, n := range []int{0, 1, 2, 5, 64, impl.MaxText} {
		for k, x := range textPatterns(n)[10:15] {
			f := mustFm(t, x, 1+3*k)
			bad := append([]int{-2, -n - 1, n + 1, n + 2, n + 1<<32, math.MinInt + 1, math.MaxInt - 1}, farInts...)
			for _, i := range bad {
				for _, j := range append([]int{0, n / 2, n, i - 1, i + 1}, bad...) {
					if got, ok := impl.FmExtract(f, i, j); ok || got != nil {
						t.Fatalf("%d bytes, %d to %d: %q", n, i, j, got)
					}
					if got, ok := impl.FmExtract(f, j, i); ok || got != nil {
						t.Fatalf("%d bytes, %d to %d: %q", n, j, i, got)
					}
				}
			}
			for _, i := range []int{1, n/2 + 1, n} {
				for _, j := range []int{0, i / 2, i - 1} {
					if got, ok := impl.FmExtract(f, i, j); i > j && (ok || got != nil) {
						t.Fatalf("%d bytes, %d to %d: %q", n, i, j, got)
					}
				}
			}
		}
	}
}

// refuseFm expects that no function answers for this index.
func refuseFm(t *testing.T, name string, f impl.Fm) {
	t.Helper()
	if ok, x := impl.FmOk(f), impl.FmText(f); ok || x != nil {
		t.Fatalf("%s: N is %d, Rate %d: FmOk %v, FmText %q", name, f.N, f.Rate, ok, shown(x))
	}
	if impl.FmLf(f, 0) != -1 || impl.FmSa(f, 0) != -1 || impl.FmIsa(f, 0) != -1 || impl.FmHops(f, 0) != -1 {
		t.Fatalf("%s: row or suffix 0", name)
	}
	if got, ok := impl.FmExtract(f, 0, 0); ok || got != nil {
		t.Fatalf("%s: FmExtract: %q, %v", name, got, ok)
	}
	for _, p := range [][]byte{nil, {'a'}} {
		lo, hi := impl.FmRows(f, p)
		if list := impl.FmLocate(f, p); lo != -1 || hi != -1 || list != nil {
			t.Fatalf("%s: %q has the rows %d to %d, and occurs at %v", name, p, lo, hi, list)
		}
	}
}

// brokenTexts are those of which indices are changed in one field.
func brokenTexts() [][]byte {
	texts := [][]byte{nil, {'a'}, {0}, {255}, []byte("ab"), []byte("ba"), []byte("aaaa"), []byte("abab"), []byte("mississippi")}
	for _, n := range []int{63, 64, impl.MaxText} {
		all := textPatterns(n)
		texts = append(texts, all[1], all[10], all[14])
	}
	return texts
}

func TestFmOfOtherNumbers(t *testing.T) {
	for _, x := range brokenTexts() {
		n := len(x)
		for _, rate := range ratesFor(n) {
			f := plainFm(t, x, rate)
			if !impl.FmOk(f) {
				t.Fatal("the test has no valid index", n, rate)
			}
			for _, other := range append([]int{n - 1, n + 1, n + 64, -n - 1, n + 1<<32, impl.MaxText + 1}, farInts...) {
				g := f
				g.N = other
				refuseFm(t, "another N", g)
			}
			for _, other := range append([]int{rate + 64, rate + 1<<32, -rate}, notRates...) {
				g := f
				g.Rate = other
				refuseFm(t, "no rate", g)
			}
			for _, other := range []int{1, 2, 3, n - 1, n, n + 1, rate - 1, rate + 1, impl.MaxRate} {
				if other < 1 || other > impl.MaxRate || other == rate {
					continue
				}
				g := f
				g.Rate = other
				// Rates greater than the text mark the same row, the only one.
				if rate > n && other > n {
					if !impl.FmOk(g) || !sameFm(g, mustFm(t, x, other)) {
						t.Fatal("another rate greater than the text", n, rate, other)
					}
					continue
				}
				refuseFm(t, "another rate", g)
			}
		}
	}
	refuseFm(t, "the zero value", impl.Fm{})
	refuseFm(t, "a rate only", impl.Fm{Rate: 1})
}

// TestFmOfOtherBwt has a matrix that is not valid, is not that of a text, or
// is that of another one.
func TestFmOfOtherBwt(t *testing.T) {
	for _, x := range brokenTexts() {
		b := plainBwt(x)
		for _, rate := range []int{1, 2, impl.MaxRate} {
			f := plainFm(t, x, rate)
			change := func(name string, w impl.Wave) {
				t.Helper()
				g := f
				g.Bwt = w
				refuseFm(t, name, g)
			}
			change("no matrix", impl.Wave{})
			change("the empty list", plainWave(nil))
			change("the text instead of its symbols", plainWave(symbolsBefore(x)))
			change("a symbol fewer", plainWave(b[:len(b)-1]))
			change("a symbol more", plainWave(append(slices.Clone(b), 98)))
			change("no end", plainWave(slices.Repeat([]int{98}, len(b))))
			change("only ends, and one too many", plainWave(make([]int, len(b)+1)))
			change("more symbols than a text has", plainWave(make([]int, impl.MaxSyms+1)))
			for _, k := range []int{0, len(b) / 2, len(b) - 1} {
				for _, s := range []int{0, 1, b[k] ^ 1, 256, 257, 511} {
					if s == b[k] {
						continue
					}
					other := slices.Clone(b)
					other[k] = s
					change("another symbol", plainWave(other))
				}
				for level := range 9 {
					w := cloneWave(f.Bwt)
					w.Levels[level].Words[k/64] ^= 1 << (k % 64)
					change("a changed bit", w)
				}
			}
			for level := range 9 {
				w := cloneWave(f.Bwt)
				w.Zeros[level]++
				change("another number of zeros", w)
				w = cloneWave(f.Bwt)
				w.Levels[level].Words = append(w.Levels[level].Words, 0)
				change("a word too many", w)
				w = cloneWave(f.Bwt)
				w.Levels[level].Words[len(b)/64%len(w.Levels[level].Words)] ^= 1 << (len(b) % 64)
				change("a bit after the last one", w)
			}
			w := cloneWave(f.Bwt)
			w.N++
			change("another number of symbols", w)
			w = cloneWave(f.Bwt)
			w.Levels = w.Levels[:8]
			change("too few levels", w)
		}
	}
}

// walkedFm fills the fields by the walk that the index of a text allows, for
// any list of symbols: a row that is met again has the number it gets last, and
// one that is not met has the number 0.
func walkedFm(t *testing.T, b []int, rate int) impl.Fm {
	t.Helper()
	n, lf := len(b)-1, plainLf(b)
	suffixes := make([]int, n+1)
	for i, k := n, 0; i >= 0; i, k = i-1, lf[k] {
		suffixes[k] = i
	}
	var marks, numbers []int
	places := make([]int, n/rate+1)
	for k, i := range suffixes {
		marks = append(marks, 0)
		if i%rate == 0 {
			marks[k] = 1
			numbers = append(numbers, i/rate)
			places[i/rate] = k
		}
	}
	width := binaryWidth(n)
	return impl.Fm{
		N: n, Rate: rate, Bwt: plainWave(b), C: plainLess258(b),
		Mark: mustBits(t, marks), Sa: mustPack(t, numbers, width), Isa: mustPack(t, places, width),
	}
}

// TestFmOfNoText has lists that are not of a text, with the fields that they
// would give.
func TestFmOfNoText(t *testing.T) {
	lists := slices.Concat(allSymLists([]int{0, 1, 2}, 5), allSymLists([]int{0, 98, topSym, 257}, 3))
	for _, b := range lists[1:] {
		for _, rate := range []int{1, 2, impl.MaxRate} {
			if slices.Contains(b, 0) && isOfText(b) && slices.Max(b) <= topSym {
				x, _ := impl.BwtText(b)
				if f := mustFm(t, x, rate); !sameFm(f, walkedFm(t, b, rate)) {
					t.Fatal("the test has another index", b, rate)
				}
				continue
			}
			refuseFm(t, "symbols that are not of a text", walkedFm(t, b, rate))
		}
	}
}

// symbolsBefore has the symbols in the order of the text.
func symbolsBefore(x []byte) []int {
	b := []int{0, 0}
	for _, v := range x {
		b = append(b, int(v)+1)
	}
	return b
}

// TestFmOfAnotherText has one field of the index of a text of the same length
// and with the same bytes, or of the same text with another rate.
func TestFmOfAnotherText(t *testing.T) {
	pairs := [][2]string{{"ab", "ba"}, {"aab", "baa"}, {"abab", "aabb"}, {"mississippi", "ippississim"}, {"a", "b"}, {"abab", "acac"}, {"a", "aa"}, {"", "a"}}
	pairs = append(pairs, [2]string{string(textPatterns(impl.MaxText)[7]), string(textPatterns(impl.MaxText)[8])})
	for _, pair := range pairs {
		for _, rates := range [][2]int{{1, 1}, {1, 2}, {2, 2}, {2, 1}, {2, 3}, {3, 2}, {3, 3}, {impl.MaxRate, 1}, {1, impl.MaxRate}} {
			for _, same := range []bool{false, true} {
				f := plainFm(t, []byte(pair[0]), rates[0])
				g := plainFm(t, []byte(pair[1]), rates[1])
				if same {
					g = plainFm(t, []byte(pair[0]), rates[1])
				}
				mixFields(t, f, g)
				mixFields(t, g, f)
			}
		}
	}
}

// mixFields replaces each field by that of another index.
func mixFields(t *testing.T, f, g impl.Fm) {
	t.Helper()
	mixed := slices.Repeat([]impl.Fm{f}, 7)
	mixed[0].N = g.N
	mixed[1].Rate = g.Rate
	mixed[2].Bwt = g.Bwt
	mixed[3].C = g.C
	mixed[4].Mark = g.Mark
	mixed[5].Sa = g.Sa
	mixed[6].Isa = g.Isa
	for k, h := range mixed {
		if sameFm(h, f) || sameFm(h, g) {
			continue
		}
		// Where both rates are greater than the text, Rate is all that differs.
		if k == 1 && f.Rate > f.N && g.Rate > f.N {
			continue
		}
		refuseFm(t, "a field of another index", h)
	}
}

func TestFmOfOtherCounts(t *testing.T) {
	for _, x := range brokenTexts() {
		for _, rate := range []int{1, 2, impl.MaxRate} {
			f := plainFm(t, x, rate)
			change := func(name string, c []int) {
				t.Helper()
				g := f
				g.C = c
				refuseFm(t, name, g)
			}
			for _, k := range []int{0, 1, 2, 97, 98, 99, 128, 255, 256, 257} {
				for _, add := range []int{-1, 1, 1 << 32, math.MinInt} {
					c := slices.Clone(f.C)
					c[k] += add
					change("another count", c)
				}
			}
			change("no counts", nil)
			change("the empty list of counts", []int{})
			change("257 counts", f.C[:257])
			change("257 counts, without the first one", f.C[1:])
			change("259 counts", append(slices.Clone(f.C), len(x)+1))
			change("259 counts, with a first one", append([]int{0}, f.C...))
			change("all counts 0", make([]int, 258))
			change("one count", []int{0})
		}
	}
}

func TestFmOfOtherMarks(t *testing.T) {
	for _, x := range brokenTexts() {
		n := len(x)
		for _, rate := range []int{1, 2, 3, impl.MaxRate} {
			f := plainFm(t, x, rate)
			change := func(name string, v impl.Bits) {
				t.Helper()
				g := f
				g.Mark = v
				refuseFm(t, name, g)
			}
			marks := impl.BitsList(f.Mark)
			for _, k := range someRows(n) {
				other := slices.Clone(marks)
				other[k] = 1 - other[k]
				change("a changed mark", mustBits(t, other))
			}
			for k := 1; k <= n; k++ {
				if n < 12 && marks[k] != marks[k-1] {
					other := slices.Clone(marks)
					other[k], other[k-1] = other[k-1], other[k]
					change("two marks exchanged", mustBits(t, other))
				}
			}
			change("no marks", impl.Bits{})
			change("a mark fewer", mustBits(t, marks[:n]))
			change("a mark 0 more", mustBits(t, append(slices.Clone(marks), 0)))
			change("a mark 1 more", mustBits(t, append(slices.Clone(marks), 1)))
			words := f.Mark.Words
			change("a word too many", impl.Bits{N: n + 1, Words: append(slices.Clone(words), 0)})
			change("a word too few", impl.Bits{N: n + 1, Words: words[:len(words)-1]})
			change("another N", impl.Bits{N: n + 2, Words: words})
			change("N of -1", impl.Bits{N: -1, Words: words})
			if (n+1)%64 != 0 {
				after := slices.Clone(words)
				after[len(after)-1] |= 1 << ((n + 1) % 64)
				change("a bit after the last one", impl.Bits{N: n + 1, Words: after})
				after[len(after)-1] |= 1 << 63
				change("bits after the last one", impl.Bits{N: n + 1, Words: after})
			}
		}
	}
}

// otherPacked returns values that differ from the packed list in one thing.
func otherPacked(t *testing.T, p impl.Packed) map[string]impl.Packed {
	t.Helper()
	others := map[string]impl.Packed{}
	list := impl.PackList(p)
	for name, k := range map[string]int{"the first": 0, "a middle": len(list) / 2, "the last": len(list) - 1} {
		if p.Width == 0 {
			break
		}
		changed := slices.Clone(list)
		changed[k] ^= 1
		others[name+" number changed"] = mustPack(t, changed, p.Width)
		changed[k] = list[k] ^ 1<<(p.Width-1)
		others[name+" number changed much"] = mustPack(t, changed, p.Width)
	}
	others["a number fewer"] = mustPack(t, list[:len(list)-1], p.Width)
	others["the first number missing"] = mustPack(t, list[1:], p.Width)
	others["a number more"] = mustPack(t, append(slices.Clone(list), 0), p.Width)
	others["a width more"] = mustPack(t, list, p.Width+1)
	if p.Width > 0 {
		others["no number"] = mustPack(t, nil, p.Width)
		others["the width 0"] = mustPack(t, make([]int, len(list)), 0)
	}
	words := p.Bits.Words
	q := p
	q.N++
	others["another N"] = q
	q.N = -p.N
	others["N negative"] = q
	q = p
	q.Width++
	others["another width"] = q
	q.Width = -1
	others["the width -1"] = q
	q = p
	q.Bits.N++
	others["another number of bits"] = q
	q = p
	q.Bits.Words = append(slices.Clone(words), 0)
	others["a word too many"] = q
	if rest := p.Bits.N % 64; rest != 0 {
		q.Bits.Words = slices.Clone(words)
		q.Bits.Words[len(words)-1] |= 1 << rest
		others["a bit after the last one"] = q
		q.Bits.Words = words[:len(words)-1]
		others["a word too few"] = q
	}
	if !slices.IsSorted(list) {
		sorted := slices.Clone(list)
		slices.Sort(sorted)
		others["the numbers in another order"] = mustPack(t, sorted, p.Width)
	}
	others["the zero value"] = impl.Packed{}
	return others
}

func TestFmOfOtherSamples(t *testing.T) {
	for _, x := range brokenTexts() {
		for _, rate := range []int{1, 2, 3, impl.MaxRate} {
			f := plainFm(t, x, rate)
			for name, p := range otherPacked(t, f.Sa) {
				g := f
				g.Sa = p
				refuseFm(t, "Sa, "+name, g)
			}
			for name, p := range otherPacked(t, f.Isa) {
				g := f
				g.Isa = p
				refuseFm(t, "Isa, "+name, g)
			}
			if !samePacked(f.Sa, f.Isa) {
				g := f
				g.Sa, g.Isa = f.Isa, f.Sa
				refuseFm(t, "Sa and Isa exchanged", g)
			}
		}
	}
}

// TestFmBeyondTheLimits has what the words of the chapter give for a text that
// is too long, or for a rate that is too great.
func TestFmBeyondTheLimits(t *testing.T) {
	for _, n := range []int{impl.MaxText + 1, impl.MaxText + 2, 400} {
		for _, x := range textPatterns(n) {
			for _, rate := range []int{1, 2, impl.MaxRate} {
				refuseFm(t, "too long a text", plainFm(t, x, rate))
			}
		}
	}
	for _, n := range []int{0, 1, 4, 65, impl.MaxText} {
		for _, x := range textPatterns(n) {
			for _, rate := range []int{impl.MaxRate + 1, impl.MaxRate + 2, 100, 1 << 20, math.MaxInt / 2} {
				refuseFm(t, "too great a rate", plainFm(t, x, rate))
			}
		}
	}
}

// askFm calls all functions that have an index.
func askFm(f impl.Fm, p []byte) {
	impl.FmOk(f)
	impl.FmText(f)
	impl.FmLf(f, f.N)
	impl.FmRows(f, p)
	impl.FmLocate(f, p)
	impl.FmSa(f, f.N/2)
	impl.FmIsa(f, f.N)
	impl.FmExtract(f, 0, f.N)
	impl.FmHops(f, f.N/2)
}

// spareFm returns a copy of the index with room for more behind each list,
// and the same with all that is behind.
func spareFm(f impl.Fm) (impl.Fm, impl.Fm) {
	whole, part := cloneFm(f), f
	spare := func(words []uint64) ([]uint64, []uint64) {
		all := append(slices.Clone(words), 5, 1<<63)
		return all, all[:len(words)]
	}
	whole.Bwt.Levels = append(whole.Bwt.Levels, impl.Bits{N: 7})
	whole.Bwt.Zeros = append(whole.Bwt.Zeros, 1, 2, 3)
	for k := range f.Bwt.Levels {
		whole.Bwt.Levels[k].Words, _ = spare(f.Bwt.Levels[k].Words)
	}
	part.Bwt.Levels = slices.Clone(whole.Bwt.Levels[:9])
	part.Bwt.Zeros = whole.Bwt.Zeros[:9]
	for k := range part.Bwt.Levels {
		part.Bwt.Levels[k].Words = part.Bwt.Levels[k].Words[:len(f.Bwt.Levels[k].Words)]
	}
	whole.C = append(whole.C, -1, 7)
	part.C = whole.C[:len(f.C)]
	whole.Mark.Words, part.Mark.Words = spare(f.Mark.Words)
	whole.Sa.Bits.Words, part.Sa.Bits.Words = spare(f.Sa.Bits.Words)
	whole.Isa.Bits.Words, part.Isa.Bits.Words = spare(f.Isa.Bits.Words)
	return part, whole
}

func TestFmLeavesArgumentsAlone(t *testing.T) {
	for _, n := range []int{0, 1, 5, 64, impl.MaxText} {
		for k, x := range textPatterns(n) {
			all := append(slices.Clone(x), "aabb\x00\xff"...)
			before := slices.Clone(all)
			f, ok := impl.FmOf(all[:n], 1+k)
			want := plainFm(t, x, 1+k)
			if !ok || !sameFm(f, want) || !bytes.Equal(all, before) {
				t.Fatal("the text is changed, or what is behind it is read or changed", n)
			}
			part, whole := spareFm(want)
			kept := cloneFm(whole)
			if !impl.FmOk(part) || !bytes.Equal(impl.FmText(part), x) || impl.FmOk(whole) {
				t.Fatal("what is behind the index is read", n)
			}
			for _, size := range []int{0, 1, n / 2, n} {
				size = min(size, n)
				askFm(part, all[:size])
				askFm(whole, all[:size])
				checkFmWord(t, part, x, all[:size])
			}
			if !sameFm(part, want) || !sameFm(whole, kept) || !bytes.Equal(all, before) {
				t.Fatal("an index or a word is changed, or what is behind it", n)
			}
		}
	}
}

// spoilFm overwrites all that an index has, field by field, and reports
// whether each of the other fields stays as it was.
func spoilFm(f impl.Fm) bool {
	want := cloneFm(f)
	alone := true
	for k := range f.Bwt.Levels {
		spoil(f.Bwt.Levels[k].Words)
		spoil(want.Bwt.Levels[k].Words)
		alone = alone && sameFm(f, want)
	}
	for _, lists := range [][2][]int{{f.Bwt.Zeros, want.Bwt.Zeros}, {f.C, want.C}} {
		spoilNumbers(lists[0])
		spoilNumbers(lists[1])
		alone = alone && sameFm(f, want)
	}
	for _, words := range [][2][]uint64{{f.Mark.Words, want.Mark.Words}, {f.Sa.Bits.Words, want.Sa.Bits.Words}, {f.Isa.Bits.Words, want.Isa.Bits.Words}} {
		spoil(words[0])
		spoil(words[1])
		alone = alone && sameFm(f, want)
	}
	return alone
}

func TestFmResultsAreTheirOwn(t *testing.T) {
	for _, n := range []int{0, 1, 5, 64, impl.MaxText} {
		for k, x := range textPatterns(n) {
			before := slices.Clone(x)
			f, g := mustFm(t, x, 1+k), mustFm(t, x, 1+k)
			want := plainFm(t, x, 1+k)
			if !spoilFm(f) || !sameFm(g, want) || !bytes.Equal(x, before) {
				t.Fatal("an index shares memory with itself, its text or another one", n)
			}
			text, again := impl.FmText(g), impl.FmText(g)
			spoilBytes(text)
			if !bytes.Equal(again, x) || !sameFm(g, want) {
				t.Fatal("FmText shares memory", n)
			}
			list, second := impl.FmLocate(g, nil), impl.FmLocate(g, nil)
			spoilNumbers(list)
			if len(second) != n+1 || second[n] != n || !sameFm(g, want) {
				t.Fatal("FmLocate shares memory", n)
			}
			piece, other := mustExtract(t, g, n/3, n), mustExtract(t, g, n/3, n)
			spoilBytes(piece)
			if !bytes.Equal(other, x[n/3:]) || !sameFm(g, want) {
				t.Fatal("FmExtract shares memory", n)
			}
			spoilBytes(x)
			if !sameFm(g, want) || !bytes.Equal(impl.FmText(g), before) {
				t.Fatal("the text is kept", n)
			}
		}
	}
}

func mustExtract(t *testing.T, f impl.Fm, i, j int) []byte {
	t.Helper()
	got, ok := impl.FmExtract(f, i, j)
	if !ok {
		t.Fatalf("FmExtract refuses %d to %d of %d bytes", i, j, f.N)
	}
	return got
}
