package tests

import (
	"bytes"
	"math"
	"slices"
	"testing"

	"loop.example/g00688/impl"
)

// topSym is the symbol of the byte 255.
const topSym = 256

// symbolTexts are the texts of which all symbols are checked.
func symbolTexts() [][]byte {
	all := make([]byte, 256)
	for i := range all {
		all[i] = byte(i*77 + 200)
	}
	return append(manyTexts(), all, []byte{0, 255}, []byte{255, 0}, []byte{0, 0, 255, 255, 0})
}

// symRules are lists by their elements: equal ones, rising and falling ones,
// periodic ones, with no end, with one at either side, in between or with
// many, and irregular ones of few and of many symbols.
var symRules = []func(i, n int) int{
	func(i, n int) int { return 0 },
	func(i, n int) int { return 1 },
	func(i, n int) int { return topSym },
	func(i, n int) int { return i % 257 },
	func(i, n int) int { return topSym - i%257 },
	func(i, n int) int { return min(i, 1) },
	func(i, n int) int { return min(n-1-i, 1) * topSym },
	func(i, n int) int { return min(max(i-n/2, n/2-i), 1) * 98 },
	func(i, n int) int { return i % 2 },
	func(i, n int) int { return 1 - i%2 },
	func(i, n int) int { return i % 3 * 128 },
	func(i, n int) int { return 255 + i/2%2 },
	func(i, n int) int { return i * 3 / max(n, 1) },
	func(i, n int) int { return (i*i*40503 + 12345*i + 99) >> 4 % 3 },
	func(i, n int) int { return (i*i*40503 + 12345*i + 99) >> 4 % 257 },
	func(i, n int) int { return (i*i*40503+12345*i+99)>>4%5 + 1 },
}

// symSizes are small numbers of symbols, those around the number of different
// ones, and the limit.
var symSizes = []int{0, 1, 2, 3, 4, 5, 8, 17, 64, 127, 255, 256, 257, 258, 300, impl.MaxSyms}

func listBy(rule func(i, n int) int, n int) []int {
	b := make([]int, n)
	for i := range b {
		b[i] = rule(i, n)
	}
	return b
}

// allSymLists returns all lists of at most n of these symbols.
func allSymLists(syms []int, n int) [][]int {
	lists := [][]int{nil}
	for at := 0; len(lists[at]) < n; at++ {
		for _, s := range syms {
			lists = append(lists, append(slices.Clone(lists[at]), s))
		}
	}
	return lists
}

// symLists returns lists of symbols, some of which are of a text.
func symLists() [][]int {
	lists := slices.Concat(allSymLists([]int{0, 1, 2}, 6), allSymLists([]int{0, 1, 255, topSym}, 4))
	for _, n := range symSizes {
		for _, rule := range symRules {
			lists = append(lists, listBy(rule, n))
		}
	}
	for _, n := range []int{0, 1, 2, 17, 64, 256, 299, impl.MaxText} {
		for _, x := range textPatterns(n) {
			lists = append(lists, plainBwt(x))
		}
	}
	return lists
}

// notSyms are no symbols; some are ones if only their last bits are looked at.
var notSyms = append([]int{topSym + 1, topSym + 2, 300, 511, 512, 513, 1<<16 + 1, 1<<32 + 98, -2, -98, -256, -1 << 32, 1<<32 - 1, math.MinInt + 98}, farInts...)

// invalidSyms returns lists that are too long, and ones with a single number
// that is no symbol.
func invalidSyms() [][]int {
	var lists [][]int
	for _, n := range []int{impl.MaxSyms + 1, impl.MaxSyms + 2, 512, 4096} {
		for _, rule := range symRules {
			lists = append(lists, listBy(rule, n))
		}
	}
	lists = append(lists, make([]int, 1<<20))
	for _, n := range []int{1, 2, 5, 64, 300, impl.MaxSyms} {
		for _, at := range []int{0, n / 2, n - 1} {
			for _, s := range notSyms {
				b := plainBwt(textPatterns(n - 1)[n%7])
				b[at] = s
				lists = append(lists, b)
			}
		}
	}
	return append(lists, []int{-1, 0}, []int{0, -1}, []int{257, 257}, []int{-1, 257}, []int{0, 99, 257, 99})
}

func plainBwt(x []byte) []int {
	var b []int
	for _, i := range plainRows(x) {
		if i == 0 {
			b = append(b, 0)
		} else {
			b = append(b, 1+int(x[i-1]))
		}
	}
	return b
}

func plainLess258(b []int) []int {
	less := make([]int, 258)
	for c := range less {
		for _, s := range b {
			if s < c {
				less[c]++
			}
		}
	}
	return less
}

// plainLf sorts the indices by their symbols, equal ones by their order: the
// place of an index is where it leads to.
func plainLf(b []int) []int {
	sorted := make([]int, len(b))
	for k := range sorted {
		sorted[k] = k
	}
	slices.SortStableFunc(sorted, func(k, m int) int { return b[k] - b[m] })
	lf := make([]int, len(b))
	for place, k := range sorted {
		lf[k] = place
	}
	return lf
}

func plainRuns(b []int) int { return len(slices.Compact(slices.Clone(b))) }

// isOfText reports whether a list is of a text: it has one end, and its
// mapping leads from index 0 to all others.
func isOfText(b []int) bool {
	ends := 0
	for _, s := range b {
		if s == 0 {
			ends++
		}
	}
	if ends != 1 {
		return false
	}
	lf, met := plainLf(b), 1
	for k := lf[0]; k != 0; k = lf[k] {
		met++
	}
	return met == len(b)
}

// few returns the beginning of a list.
func few(b []int) []int { return b[:min(len(b), 12)] }

func TestBwtExamples(t *testing.T) {
	if impl.MaxSyms != 301 {
		t.Error("MaxSyms", impl.MaxSyms)
	}
	b := impl.BwtOf([]byte("abab"))
	if !slices.Equal(b, []int{99, 99, 0, 98, 98}) {
		t.Fatal("BwtOf", b)
	}
	c := impl.Counts(b)
	if len(c) != 258 || c[0] != 0 || c[1] != 1 || c[97] != 1 || c[98] != 1 || c[99] != 3 || c[100] != 5 || c[256] != 5 || c[257] != 5 {
		t.Error("Counts", c)
	}
	if lf := impl.LfOf(b); !slices.Equal(lf, []int{3, 4, 0, 1, 2}) {
		t.Error("LfOf", lf)
	}
	if x, ok := impl.BwtText(b); !ok || string(x) != "abab" {
		t.Errorf("BwtText: %q %v", x, ok)
	}
	if n := impl.Runs(b); n != 3 {
		t.Error("Runs", n)
	}
	for n, want := range []int{0, 3, 1, 4, 2, 0, 3} {
		if got := impl.StepsBack(b, 0, n); got != want {
			t.Error("StepsBack", n, got)
		}
	}
}

func TestSymsOk(t *testing.T) {
	if !impl.SymsOk(nil) || !impl.SymsOk([]int{}) {
		t.Error("no symbols")
	}
	for s := range topSym + 1 {
		if !impl.SymsOk([]int{s}) || !impl.SymsOk([]int{0, s, s}) {
			t.Error("symbol", s)
		}
	}
	for _, b := range symLists() {
		if !impl.SymsOk(b) {
			t.Fatalf("%d symbols: %v", len(b), few(b))
		}
	}
	for _, b := range invalidSyms() {
		if impl.SymsOk(b) {
			t.Fatalf("%d numbers: %v", len(b), few(b))
		}
	}
	for s := range 2000 {
		if impl.SymsOk([]int{-1 - s}) || impl.SymsOk([]int{98, topSym + 1 + s}) {
			t.Error("no symbol", s)
		}
	}
}

// TestSymsOkBehind has numbers that are no symbols behind the list.
func TestSymsOkBehind(t *testing.T) {
	for _, n := range []int{0, 1, 5, impl.MaxSyms} {
		all := make([]int, n+400)
		for k := n; k < len(all); k++ {
			all[k] = -1
		}
		b := all[:n]
		if !impl.SymsOk(b) || impl.Runs(b) != min(n, 1) || len(impl.LfOf(b)) != n || impl.Counts(b)[257] != n {
			t.Error("what is behind the list is read", n)
		}
	}
}

// checkBwt expects of BwtOf what the plain search finds, and that the text is
// recovered: promise 7, its first part.
func checkBwt(t *testing.T, x []byte) {
	t.Helper()
	b := impl.BwtOf(x)
	if want := plainBwt(x); !slices.Equal(b, want) {
		t.Fatalf("BwtOf of %q is %v, not %v", shown(x), few(b), few(want))
	}
	if len(b) != len(x)+1 || !impl.SymsOk(b) {
		t.Fatalf("BwtOf of %q has %d symbols: %v", shown(x), len(b), few(b))
	}
	if y, ok := impl.BwtText(b); !ok || !bytes.Equal(y, x) {
		t.Fatalf("BwtText of BwtOf of %q is %q, %v", shown(x), shown(y), ok)
	}
}

func TestBwtOfAndBack(t *testing.T) {
	for _, x := range symbolTexts() {
		checkBwt(t, x)
	}
}

// TestBwtOfTextsThatDiffer: texts that have one byte changed have other lists.
func TestBwtOfTextsThatDiffer(t *testing.T) {
	for _, n := range []int{1, 2, 9, 64, impl.MaxText} {
		for _, x := range textPatterns(n) {
			b := impl.BwtOf(x)
			for _, at := range []int{0, n / 2, n - 1} {
				y := slices.Clone(x)
				y[at]++
				checkBwt(t, y)
				if slices.Equal(impl.BwtOf(y), b) {
					t.Fatalf("%d bytes, byte %d: the same list", n, at)
				}
			}
		}
	}
}

func TestBwtOfEmptyText(t *testing.T) {
	for _, x := range [][]byte{nil, {}} {
		b := impl.BwtOf(x)
		if !slices.Equal(b, []int{0}) || !slices.Equal(impl.LfOf(b), []int{0}) || impl.Runs(b) != 1 {
			t.Error(b)
		}
		if y, ok := impl.BwtText([]int{0}); !ok || len(y) != 0 {
			t.Error(y, ok)
		}
		for c, n := range impl.Counts(b) {
			if n != min(c, 1) {
				t.Error("Counts", c, n)
			}
		}
		for n := range impl.MaxSyms + 1 {
			if k := impl.StepsBack(b, 0, n); k != 0 {
				t.Error("StepsBack", n, k)
			}
		}
	}
}

// TestBwtOfOneByte has all bytes, the first and the last included.
func TestBwtOfOneByte(t *testing.T) {
	for v := range 256 {
		b := impl.BwtOf([]byte{byte(v)})
		if !slices.Equal(b, []int{v + 1, 0}) || !slices.Equal(impl.LfOf(b), []int{1, 0}) || impl.Runs(b) != 2 {
			t.Error(v, b)
		}
		if y, ok := impl.BwtText([]int{v + 1, 0}); !ok || len(y) != 1 || int(y[0]) != v {
			t.Error(v, y, ok)
		}
		if y, ok := impl.BwtText([]int{0, v + 1}); ok || len(y) != 0 {
			t.Error("the end first", v, y)
		}
	}
}

// TestBwtOfOneByteRepeated has the end last, and each row leads to the next.
func TestBwtOfOneByteRepeated(t *testing.T) {
	for _, n := range textSizes {
		for _, v := range []int{0, 'a', 255} {
			x := bytes.Repeat([]byte{byte(v)}, n)
			checkBwt(t, x)
			b := impl.BwtOf(x)
			lf := impl.LfOf(b)
			for k := range n {
				if b[k] != v+1 || lf[k] != k+1 {
					t.Fatalf("byte %d, %d times, row %d: %d leads to %d", v, n, k, b[k], lf[k])
				}
			}
			if b[n] != 0 || lf[n] != 0 || impl.Runs(b) != 1+min(n, 1) {
				t.Fatalf("byte %d, %d times: %d leads to %d", v, n, b[n], lf[n])
			}
		}
	}
}

func TestBwtOfLongTexts(t *testing.T) {
	for _, n := range longSizes {
		for k, x := range [][]byte{make([]byte, n), bytes.Repeat([]byte("ab"), n)[:n], fibonacciText(n)} {
			if b := impl.BwtOf(x); len(b) != 0 {
				t.Errorf("%d bytes, text %d: %d symbols", n, k, len(b))
			}
		}
	}
}

func TestCounts(t *testing.T) {
	for _, b := range symLists() {
		if got, want := impl.Counts(b), plainLess258(b); !slices.Equal(got, want) {
			t.Fatalf("Counts of %v is %v, not %v", few(b), got, want)
		}
	}
	for _, b := range [][]int{nil, {}} {
		if got := impl.Counts(b); !slices.Equal(got, make([]int, 258)) {
			t.Error("no symbols", got)
		}
	}
	for s := range topSym + 1 {
		c := impl.Counts([]int{s})
		if len(c) != 258 || c[s] != 0 || c[s+1] != 1 || c[257] != 1 {
			t.Error("symbol", s, c)
		}
	}
}

// TestCountsForgets: what one call counts is not counted by the next.
func TestCountsForgets(t *testing.T) {
	lists := symLists()
	for k, b := range lists {
		want := slices.Clone(impl.Counts(b))
		other := lists[len(lists)-1-k]
		impl.Counts(other)
		impl.LfOf(other)
		if got := impl.Counts(b); !slices.Equal(got, want) {
			t.Fatalf("Counts of %v after another list", few(b))
		}
	}
}

// checkLf expects a permutation that preserves the order of equal symbols and
// puts smaller ones first, whatever the list: promise 7, its last parts.
func checkLf(t *testing.T, b []int) {
	t.Helper()
	lf := impl.LfOf(b)
	if len(lf) != len(b) {
		t.Fatalf("LfOf of %d symbols has %d numbers", len(b), len(lf))
	}
	from := make([]int, len(b))
	met := make([]bool, len(b))
	for k, m := range lf {
		if m < 0 || m >= len(b) || met[m] {
			t.Fatalf("LfOf of %v: %d leads to %d, which is no index, or one met already", few(b), k, m)
		}
		from[m], met[m] = k, true
	}
	for m := 1; m < len(from); m++ {
		j, k := from[m-1], from[m]
		if b[j] > b[k] || b[j] == b[k] && j > k {
			t.Fatalf("LfOf of %v: %d and %d lead to %d and %d", few(b), j, k, m-1, m)
		}
	}
	if want := plainLf(b); !slices.Equal(lf, want) {
		t.Fatalf("LfOf of %v is %v, not %v", few(b), few(lf), few(want))
	}
}

func TestLfOf(t *testing.T) {
	for _, b := range symLists() {
		checkLf(t, b)
	}
	for _, b := range [][]int{nil, {}} {
		if lf := impl.LfOf(b); len(lf) != 0 {
			t.Error("no symbols", lf)
		}
	}
}

// TestLfOfByTheWords sums what chapter 6 names: an element of Counts, and the
// equal symbols before.
func TestLfOfByTheWords(t *testing.T) {
	for _, b := range symLists() {
		lf, counts := impl.LfOf(b), impl.Counts(b)
		for k, c := range b {
			before := 0
			for _, s := range b[:k] {
				if s == c {
					before++
				}
			}
			if lf[k] != counts[c]+before {
				t.Fatalf("LfOf of %v: %d leads to %d, not %d", few(b), k, lf[k], counts[c]+before)
			}
		}
	}
}

// TestLfOfLeadsBack: a row leads to the row of the suffix that is one byte
// longer, and the row of the whole text to that of the empty suffix.
func TestLfOfLeadsBack(t *testing.T) {
	for _, x := range symbolTexts() {
		rows, b := impl.SuffixRows(x), impl.BwtOf(x)
		lf := impl.LfOf(b)
		checkLf(t, b)
		for k, i := range rows {
			want := i - 1
			if i == 0 {
				want = len(x)
			}
			if rows[lf[k]] != want {
				t.Fatalf("%q: row %d with the suffix %d leads to the suffix %d", shown(x), k, i, rows[lf[k]])
			}
			if i > 0 && b[k] != int(x[i-1])+1 || i == 0 && b[k] != 0 {
				t.Fatalf("%q: row %d with the suffix %d has the symbol %d", shown(x), k, i, b[k])
			}
		}
	}
}

// TestBwtTextAllSmall tries all small lists: those of a text are the ones that
// the plain search finds for all texts.
func TestBwtTextAllSmall(t *testing.T) {
	cases := []struct {
		syms    []int
		letters string
		size    int
	}{
		{[]int{0, 98, 99}, "ab", 8},
		{[]int{0, 1, 98, topSym}, "\x00a\xff", 6},
	}
	for _, c := range cases {
		texts := map[string]string{}
		for _, x := range allTexts(c.letters, c.size-1) {
			texts[keyOf(plainBwt(x))] = string(x)
		}
		for _, b := range allSymLists(c.syms, c.size) {
			want, isText := texts[keyOf(b)]
			if x, ok := impl.BwtText(b); ok != isText || string(x) != want {
				t.Fatalf("BwtText of %v is %q, %v, not %q, %v", b, x, ok, want, isText)
			}
		}
	}
}

func keyOf(b []int) string {
	var key []rune
	for _, s := range b {
		key = append(key, rune(s))
	}
	return string(key)
}

func refuseText(t *testing.T, name string, b []int) {
	t.Helper()
	if x, ok := impl.BwtText(b); ok || len(x) != 0 {
		t.Errorf("%s: BwtText of %d symbols, %v: %q %v", name, len(b), few(b), shown(x), ok)
	}
}

func TestBwtTextOfNoText(t *testing.T) {
	refuseText(t, "no symbols", nil)
	refuseText(t, "no symbols", []int{})
	for _, b := range [][]int{{1}, {98}, {topSym}, {98, 98}, {98, 99}, {99, 98, 99, 98, 98}} {
		refuseText(t, "no end", b)
	}
	for _, b := range [][]int{{0, 0}, {0, 98, 0}, {98, 0, 0}, {98, 98, 0, 0}, {0, 0, 98}, {99, 99, 0, 0, 98, 98}, {0, 0, 0}} {
		refuseText(t, "more than one end", b)
	}
	for _, b := range [][]int{{0, 1}, {0, 98}, {0, 98, 98}, {98, 0, 98}, {0, 98, 99}, {98, 0, 99}, {99, 98, 0}, {99, 0, 98, 98, 99}, {98, 98, 0, 99}} {
		if isOfText(b) {
			t.Fatal("the test has a list of a text", b)
		}
		refuseText(t, "one end and no text", b)
	}
	for _, n := range []int{2, 3, 64, 256, 300, impl.MaxSyms} {
		for _, rule := range symRules {
			b := listBy(rule, n)
			if !isOfText(b) {
				refuseText(t, "a list by a rule", b)
			}
		}
	}
}

// TestBwtTextOfChangedLists changes the list of a text; the end is taken away,
// doubled, or moved to each other place, or a byte becomes another one.
func TestBwtTextOfChangedLists(t *testing.T) {
	for _, n := range []int{1, 2, 9, 64, 299, impl.MaxText} {
		for _, x := range textPatterns(n) {
			b := impl.BwtOf(x)
			end := slices.Index(b, 0)
			without := slices.Clone(b)
			without[end] = int(x[0]) + 1
			refuseText(t, "no end", without)
			for at := range b {
				twice := slices.Clone(b)
				twice[at] = 0
				if at != end {
					refuseText(t, "two ends", twice)
				}
				moved := slices.Clone(b)
				moved[at], moved[end] = moved[end], moved[at]
				checkText(t, moved)
				other := slices.Clone(b)
				other[at] = other[at]%topSym + 1
				checkText(t, other)
			}
		}
	}
}

// checkText expects a text with exactly this list, if there is one.
func checkText(t *testing.T, b []int) {
	t.Helper()
	x, ok := impl.BwtText(b)
	if ok != isOfText(b) {
		t.Fatalf("BwtText of %d symbols, %v: %v", len(b), few(b), ok)
	}
	if ok && !slices.Equal(plainBwt(x), b) || !ok && len(x) != 0 {
		t.Fatalf("BwtText of %d symbols, %v, is %q", len(b), few(b), shown(x))
	}
}

func TestBwtTextOfAnySymbols(t *testing.T) {
	for _, b := range symLists() {
		checkText(t, b)
	}
}

// TestBwtTextOfShortenedLists leaves out the first or the last symbol, or adds
// one.
func TestBwtTextOfShortenedLists(t *testing.T) {
	for _, n := range []int{0, 1, 2, 9, 64, 299} {
		for _, x := range textPatterns(n) {
			b := impl.BwtOf(x)
			checkText(t, b[1:])
			checkText(t, b[:n])
			for _, s := range []int{0, 1, 98, topSym} {
				checkText(t, append(slices.Clone(b), s))
				checkText(t, append([]int{s}, b...))
			}
		}
	}
}

func TestRuns(t *testing.T) {
	for _, b := range symLists() {
		if got, want := impl.Runs(b), plainRuns(b); got != want {
			t.Fatalf("Runs of %v is %d, not %d", few(b), got, want)
		}
	}
	cases := []struct {
		b    []int
		runs int
	}{
		{nil, 0}, {[]int{}, 0}, {[]int{0}, 1}, {[]int{topSym}, 1}, {[]int{0, 0}, 1}, {[]int{0, 1}, 2}, {[]int{1, 0, 1}, 3},
		{[]int{1, 1, 0, 0, 1, 1}, 3}, {make([]int, impl.MaxSyms), 1}, {listBy(symRules[8], impl.MaxSyms), impl.MaxSyms},
	}
	for _, c := range cases {
		if got := impl.Runs(c.b); got != c.runs {
			t.Errorf("Runs of %v is %d, not %d", few(c.b), got, c.runs)
		}
	}
}

func TestStepsBack(t *testing.T) {
	for _, b := range symLists() {
		lf := plainLf(b)
		starts := []int{0, 1, len(b) / 2, len(b) - 1}
		for _, k := range starts {
			if k < 0 || k >= len(b) {
				continue
			}
			for at, n := k, 0; n <= impl.MaxSyms; n++ {
				// All numbers of steps for short lists, some for long ones.
				if len(b) < 5 || n < 4 || n%50 == 0 || n == impl.MaxSyms {
					if got := impl.StepsBack(b, k, n); got != at {
						t.Fatalf("StepsBack of %v: %d steps from %d lead to %d, not %d", few(b), n, k, got, at)
					}
				}
				at = lf[at]
			}
		}
	}
}

// TestStepsBackOfTexts: from the row of the empty suffix, n steps lead to the
// suffix of n bytes, and one step more than there are bytes back.
func TestStepsBackOfTexts(t *testing.T) {
	for _, n := range []int{0, 1, 2, 9, 64, impl.MaxText} {
		for _, x := range textPatterns(n) {
			rows, b := impl.SuffixRows(x), impl.BwtOf(x)
			for steps := range n + 1 {
				k := impl.StepsBack(b, 0, steps)
				if k < 0 || k > n || rows[k] != n-steps {
					t.Fatalf("%q: %d steps lead to the row %d", shown(x), steps, k)
				}
			}
			for _, k := range []int{0, n / 2, n} {
				if got := impl.StepsBack(b, k, n+1); got != k {
					t.Fatalf("%q: %d steps lead from the row %d to %d", shown(x), n+1, k, got)
				}
			}
		}
	}
}

func TestStepsBackRejects(t *testing.T) {
	for _, n := range symSizes {
		for _, rule := range symRules {
			b := listBy(rule, n)
			for _, k := range append([]int{n, n + 1, math.MinInt + n, -n - 1}, farInts...) {
				for _, steps := range append([]int{0, 1, impl.MaxSyms, impl.MaxSyms + 1}, farInts...) {
					if got := impl.StepsBack(b, k, steps); got != -1 {
						t.Fatalf("%d symbols: %d steps from %d lead to %d", n, steps, k, got)
					}
				}
			}
			for _, k := range []int{0, n / 2, n - 1} {
				for _, steps := range append([]int{impl.MaxSyms + 1, impl.MaxSyms + 2, -2, -impl.MaxSyms}, farInts...) {
					if got := impl.StepsBack(b, k, steps); got != -1 {
						t.Fatalf("%d symbols: %d steps from %d lead to %d", n, steps, k, got)
					}
				}
				if k < 0 || k >= n {
					continue
				}
				if impl.StepsBack(b, k, 0) != k || impl.StepsBack(b, k, impl.MaxSyms) < 0 {
					t.Fatalf("%d symbols: the numbers of steps 0 and MaxSyms from %d", n, k)
				}
			}
		}
	}
}

func TestInvalidSyms(t *testing.T) {
	for _, b := range invalidSyms() {
		if c, lf := impl.Counts(b), impl.LfOf(b); len(c) != 0 || len(lf) != 0 {
			t.Fatalf("%d numbers, %v: Counts and LfOf have %d and %d", len(b), few(b), len(c), len(lf))
		}
		if n := impl.Runs(b); n != -1 {
			t.Fatalf("%d numbers, %v: %d runs", len(b), few(b), n)
		}
		refuseText(t, "no list of symbols", b)
		for _, k := range []int{-1, 0, len(b) / 2, len(b) - 1, len(b)} {
			for _, n := range []int{-1, 0, 1, impl.MaxSyms, impl.MaxSyms + 1} {
				if got := impl.StepsBack(b, k, n); got != -1 {
					t.Fatalf("%d numbers, %v: %d steps from %d lead to %d", len(b), few(b), n, k, got)
				}
			}
		}
	}
}

func TestBwtLeavesArgumentsAlone(t *testing.T) {
	lists := symLists()
	lists = append(lists, invalidSyms()[:len(symRules)]...)
	for _, list := range lists {
		all := append(slices.Clone(list), 0, 98, topSym, -1, 257)
		before := slices.Clone(all)
		b := all[:len(list)]
		impl.SymsOk(b)
		impl.Counts(b)
		impl.LfOf(b)
		impl.BwtText(b)
		impl.Runs(b)
		impl.StepsBack(b, len(b)/2, 7)
		if !slices.Equal(all, before) {
			t.Fatalf("%v is changed, or what is behind it", few(list))
		}
	}
	for _, n := range []int{0, 1, 5, 64, impl.MaxText} {
		for _, x := range textPatterns(n) {
			all := append(slices.Clone(x), "aabb\x00\x00\xff\xff"...)
			before := slices.Clone(all)
			if b := impl.BwtOf(all[:n]); !slices.Equal(b, plainBwt(x)) {
				t.Fatal("the bytes behind the text are read", n)
			}
			if !bytes.Equal(all, before) {
				t.Fatal("the text is changed, or what is behind it", n)
			}
		}
	}
}

func TestBwtResultsAreTheirOwn(t *testing.T) {
	for _, n := range []int{0, 1, 5, 64, impl.MaxText} {
		for _, x := range textPatterns(n) {
			text := slices.Clone(x)
			b := impl.BwtOf(x)
			list := slices.Clone(b)
			results := [][]int{impl.BwtOf(x), impl.Counts(b), impl.LfOf(b), impl.BwtOf(x), impl.Counts(b), impl.LfOf(b)}
			var want [][]int
			for _, r := range results {
				want = append(want, slices.Clone(r))
			}
			for k, r := range results {
				spoilNumbers(r)
				for m := k + 1; m < len(results); m++ {
					if !slices.Equal(results[m], want[m]) || !slices.Equal(want[m], want[m%3]) {
						t.Fatal("two results share memory, or the same call returns something else", n)
					}
				}
			}
			y, _ := impl.BwtText(b)
			z, _ := impl.BwtText(b)
			spoilBytes(y)
			if !bytes.Equal(z, x) || !bytes.Equal(x, text) || !slices.Equal(b, list) {
				t.Fatal("a result shares memory with an argument, or with another result", n)
			}
			if !slices.Equal(impl.BwtOf(x), want[0]) || !slices.Equal(impl.Counts(b), want[1]) || !slices.Equal(impl.LfOf(b), want[2]) {
				t.Fatal("a result is kept", n)
			}
			spoilNumbers(b)
			if !bytes.Equal(z, x) {
				t.Fatal("BwtText keeps its list", n)
			}
		}
	}
}
