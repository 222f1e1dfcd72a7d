package tests

import (
	"fmt"
	"math"
	"math/big"
	"slices"
	"strings"
	"testing"

	"loop.example/g00688/impl"
)

// topLength is the greatest code length.
const topLength = 60

// fibonacci returns the i-th number of 1, 1, 2, 3, .., or the greatest count.
func fibonacci(i int) int {
	a, b := 1, 1
	for range min(i, 40) {
		a, b = b, min(a+b, impl.MaxCount)
	}
	return a
}

// countRules are counts by their symbols: equal ones, none but one, rising
// and falling ones, ones with long codes, ties in many ways, and irregular
// ones, also among counts 0.
var countRules = []func(i, n int) int{
	func(i, n int) int { return 0 },
	func(i, n int) int { return 1 },
	func(i, n int) int { return impl.MaxCount },
	func(i, n int) int { return (1 - min(i, 1)) * 7 },
	func(i, n int) int { return (1 - min(n-1-i, 1)) * impl.MaxCount },
	func(i, n int) int { return (1 - min(max(i-n/2, n/2-i), 1)) * 5 },
	func(i, n int) int { return i },
	func(i, n int) int { return impl.MaxCount - i },
	func(i, n int) int { return i % 2 },
	func(i, n int) int { return 1 + i%2 },
	func(i, n int) int { return 2 - i%2 },
	func(i, n int) int { return i/3 + 1 },
	func(i, n int) int { return 1 << (i % 20) },
	func(i, n int) int { return 1 << (19 - i%20) },
	func(i, n int) int { return max(1<<min(i, 19), i) },
	func(i, n int) int { return fibonacci(i) },
	func(i, n int) int { return fibonacci(n - 1 - i) },
	func(i, n int) int { return fibonacci(i%30) * (i / 30 % 2) },
	func(i, n int) int { return (i*i*40503 + 12345*i + 99) >> 4 % 3 },
	func(i, n int) int { return (i*i*40503+12345*i+99)>>4%5 + 1 },
	func(i, n int) int { return (i*i*40503 + 12345*i + 99) >> 4 % (impl.MaxCount + 1) },
	func(i, n int) int { return i % 7 / 6 * ((i*i*40503+12345*i+99)>>4%1000 + 1) },
}

// huffSizes are small numbers of symbols, those around powers of two and
// around the number of Fibonacci numbers that are counts, and the limit.
var huffSizes = []int{0, 1, 2, 3, 4, 5, 6, 7, 8, 9, 16, 17, 29, 30, 31, 32, 33, 63, 64, 65, 127, 128, 255, 256, 257, impl.MaxHuff - 1, impl.MaxHuff}

func countLists() [][]int {
	lists := slices.Concat(allSymLists([]int{0, 1, 2, 3}, 5), allSymLists([]int{0, 1, 2, 3, 5, impl.MaxCount}, 4), allSymLists([]int{1, 2}, 9))
	for _, n := range huffSizes {
		for _, rule := range countRules {
			lists = append(lists, listBy(rule, n))
		}
	}
	return lists
}

// plainLens marks for each tree the one that it is merged into: a symbol has
// as many digits as there are trees above it.
func plainLens(counts []int) []int {
	var weights, above, leaves []int
	for _, n := range counts {
		leaves = append(leaves, len(weights))
		if n > 0 {
			weights, above = append(weights, n), append(above, 0)
		}
	}
	least := func() int {
		best := -1
		for k, weight := range weights {
			if above[k] == 0 && (best < 0 || weight < weights[best]) {
				best = k
			}
		}
		return best
	}
	for trees := len(weights); trees > 1; trees-- {
		parent := len(weights)
		t := least()
		above[t] = parent
		u := least()
		above[u] = parent
		weights, above = append(weights, weights[t]+weights[u]), append(above, 0)
	}
	lens := make([]int, len(counts))
	for symbol, n := range counts {
		if n == 0 {
			continue
		}
		for k := leaves[symbol]; above[k] > 0; k = above[k] {
			lens[symbol]++
		}
		lens[symbol] = max(lens[symbol], 1)
	}
	return lens
}

func plainHuffOk(lens []int) bool {
	sum, used := new(big.Int), 0
	for _, length := range lens {
		if length < 0 || length > topLength {
			return false
		}
		if length > 0 {
			used++
			sum.Add(sum, new(big.Int).Lsh(big.NewInt(1), uint(topLength-length)))
		}
	}
	if len(lens) > impl.MaxHuff {
		return false
	}
	return used == 1 && slices.Max(lens) == 1 || sum.Cmp(big.NewInt(1<<topLength)) == 0
}

// plainCode is the part of all that the symbols before this one take, in
// binary digits.
func plainCode(lens []int, symbol int) string {
	length := lens[symbol]
	if length == 0 {
		return ""
	}
	before := 0
	for s, other := range lens {
		if other > 0 && (other < length || other == length && s < symbol) {
			before += 1 << (topLength - other)
		}
	}
	return fmt.Sprintf("%0*b", length, before>>(topLength-length))
}

func plainCodes(lens []int) []string {
	codes := make([]string, len(lens))
	for symbol := range lens {
		codes[symbol] = plainCode(lens, symbol)
	}
	return codes
}

func plainSize(counts, lens []int) int {
	size := 0
	for symbol, n := range counts {
		size += n * lens[symbol]
	}
	return size
}

// covers reports whether each nonzero count has a nonzero length.
func covers(counts, lens []int) bool {
	for symbol, n := range counts {
		if n > 0 && lens[symbol] == 0 {
			return false
		}
	}
	return true
}

// digits returns the bits of a text of digits.
func digits(text string) []int {
	list := make([]int, len(text))
	for i := range text {
		list[i] = int(text[i] - '0')
	}
	return list
}

// allLens returns all valid lengths of n symbols. None of them can exceed
// n - 1, except for a single symbol.
func allLens(n int) [][]int {
	var numbers []int
	for length := range n + 1 {
		numbers = append(numbers, length)
	}
	var lists [][]int
	for _, lens := range allSymLists(numbers, n) {
		if len(lens) == n && plainHuffOk(lens) {
			lists = append(lists, lens)
		}
	}
	return lists
}

// stairs has one code of each length up to top, and a second one of this.
func stairs(top int) []int {
	var lens []int
	for length := range top {
		lens = append(lens, length+1)
	}
	return append(lens, top)
}

// among puts lengths 0 around and between these lengths, as many as fit.
func among(lens []int) []int {
	all := make([]int, impl.MaxHuff)
	for k, length := range lens {
		all[min(k*(impl.MaxHuff/len(lens))+1, impl.MaxHuff-len(lens)+k)] = length
	}
	return all
}

// lensLists returns valid lengths: all small ones, those of one symbol, equal
// ones, ones of all lengths, and those of counts.
func lensLists() [][]int {
	var lists [][]int
	for n := range 5 {
		lists = append(lists, allLens(n)...)
	}
	lists = append(lists, []int{1}, make([]int, impl.MaxHuff), make([]int, impl.MaxHuff), make([]int, impl.MaxHuff))
	for k := range 3 {
		lists[len(lists)-1-k][[]int{0, 150, 299}[k]] = 1
	}
	for k := range 9 {
		flat := slices.Repeat([]int{max(k, 1)}, 1<<k)
		lists = append(lists, flat, among(flat))
	}
	for _, top := range []int{1, 2, 9, 31, 32, 33, 59, topLength} {
		up := stairs(top)
		down := slices.Clone(up)
		slices.Reverse(down)
		lists = append(lists, up, down, among(up), among(down))
	}
	for _, n := range huffSizes {
		for _, rule := range countRules {
			if lens := plainLens(listBy(rule, n)); plainHuffOk(lens) {
				lists = append(lists, lens)
			}
		}
	}
	return lists
}

// invalidLens returns lengths that HuffOk has to reject.
func invalidLens() map[string][]int {
	broken := map[string][]int{
		"no lengths":                          nil,
		"one length 0":                        {0},
		"only lengths 0":                      make([]int, impl.MaxHuff),
		"a single 2":                          {2},
		"a single 60":                         {60},
		"a single 2 among lengths 0":          {0, 2, 0},
		"a single -1":                         {-1},
		"a single 61":                         {61},
		"1 and 2":                             {1, 2},
		"1 and 60":                            {1, 60},
		"2 and 2":                             {2, 2},
		"three of four codes":                 {2, 2, 2},
		"a last code is missing":              stairs(topLength)[:topLength],
		"a short code is missing":             stairs(topLength)[1:],
		"a code of 60 too many":               append(stairs(topLength), topLength),
		"a code of 1 too many":                append(stairs(topLength), 1),
		"1, 1 and 60":                         {1, 1, 60},
		"1, 1 and 1":                          {1, 1, 1},
		"lengths up to 61":                    stairs(topLength + 1),
		"lengths up to 100":                   stairs(100),
		"512 codes of 9":                      slices.Repeat([]int{9}, 512),
		"MaxHuff + 1 lengths":                 append(make([]int, impl.MaxHuff-1), 1, 1),
		"MaxHuff + 1 lengths, a single 1":     append(make([]int, impl.MaxHuff), 1),
		"MaxHuff + 1 lengths, the last one 0": append(append(make([]int, impl.MaxHuff-2), 1, 1), 0),
		"MaxHuff + 1 lengths of counts":       plainLens(slices.Repeat([]int{1}, impl.MaxHuff+1)),
		"a million lengths":                   append([]int{1, 1}, make([]int, 1000000)...),
		"a sum of 2^64":                       slices.Repeat([]int{1}, 32),
		"a sum of 2^64 + 2^59":                slices.Repeat([]int{1}, 33),
		"MaxHuff lengths 1":                   slices.Repeat([]int{1}, impl.MaxHuff),
		"MaxHuff lengths 60":                  slices.Repeat([]int{60}, impl.MaxHuff),
		"2^64 and a negative length":          append(slices.Repeat([]int{1}, 34), -3),
	}
	for k := 1; k <= 4; k++ {
		broken[fmt.Sprint("2^64 + 2^60 of lengths ", k)] = slices.Repeat([]int{k}, 17<<k)
	}
	for _, x := range append([]int{-1, -2, -60, 61, 62, 63, 64, 65, 124, 256, 1<<32 + 1, math.MinInt + 1}, farInts...) {
		for name, lens := range map[string][]int{"1": {1}, "1, 1": {1, 1}, "2, 0, 1, 2": {2, 0, 1, 2}, "all lengths": stairs(topLength)} {
			broken[fmt.Sprint(name, " and ", x)] = append(slices.Clone(lens), x)
			broken[fmt.Sprint(x, " and ", name)] = append([]int{x}, lens...)
			changed := slices.Clone(lens)
			changed[len(lens)/2] = x
			broken[fmt.Sprint(x, " in ", name)] = changed
		}
	}
	return broken
}

func TestHuffExamples(t *testing.T) {
	if impl.MaxHuff != 300 || impl.MaxCount != 1000000 {
		t.Error("constants", impl.MaxHuff, impl.MaxCount)
	}
	lens := impl.HuffLens([]int{1, 1, 2, 0})
	if !slices.Equal(lens, []int{2, 2, 1, 0}) {
		t.Error("HuffLens", lens)
	}
	if codes := impl.HuffCodes([]int{2, 2, 1, 0}); !slices.Equal(codes, []int{2, 3, 0, 0}) {
		t.Error("HuffCodes", codes)
	}
	if size := impl.HuffSize([]int{1, 1, 2, 0}, []int{2, 2, 1, 0}); size != 6 {
		t.Error("HuffSize", size)
	}
	// The codes 0, 10 and 11, the first digit in the lowest bit.
	v, ok := impl.HuffWrite([]int{2, 0, 1}, []int{2, 2, 1, 0})
	if !ok || !sameBits(v, impl.Bits{N: 5, Words: []uint64{26}}) {
		t.Error("HuffWrite", v, ok)
	}
	list, ok := impl.HuffRead(impl.Bits{N: 5, Words: []uint64{26}}, []int{2, 2, 1, 0}, 3)
	if !ok || !slices.Equal(list, []int{2, 0, 1}) {
		t.Error("HuffRead", list, ok)
	}
}

func TestHuffLensFollowTheMerges(t *testing.T) {
	for _, counts := range countLists() {
		got, want := impl.HuffLens(counts), plainLens(counts)
		if !slices.Equal(got, want) {
			t.Fatalf("HuffLens of %d counts, %v, is %v, not %v", len(counts), few(counts), few(got), few(want))
		}
		if some := slices.ContainsFunc(counts, func(n int) bool { return n > 0 }); impl.HuffOk(got) != some {
			t.Fatal("HuffOk of the lengths of", few(counts))
		}
	}
}

// TestHuffLensOfTies has trees of equal weight: those of the smallest numbers
// are merged first, and a tree that was merged comes after the symbols.
func TestHuffLensOfTies(t *testing.T) {
	ties := []struct{ counts, lens []int }{
		{[]int{1, 1}, []int{1, 1}},
		{[]int{1, 1, 1}, []int{2, 2, 1}},
		{[]int{2, 2, 2, 2, 2}, []int{3, 3, 2, 2, 2}},
		{[]int{1, 1, 2, 2}, []int{2, 2, 2, 2}},
		{[]int{2, 2, 1, 1}, []int{2, 2, 2, 2}},
		{[]int{2, 1, 2, 1}, []int{2, 2, 2, 2}},
		{[]int{1, 1, 2, 3}, []int{3, 3, 2, 1}},
		{[]int{3, 2, 1, 1}, []int{1, 2, 3, 3}},
		{[]int{1, 2, 3, 3}, []int{2, 2, 2, 2}},
		{[]int{0, 1, 0, 1, 1, 0}, []int{0, 2, 0, 2, 1, 0}},
		{[]int{1, 1, 1, 1, 4}, []int{3, 3, 3, 3, 1}},
		{[]int{1, 1, 2, 4, 4}, []int{3, 3, 2, 2, 2}},
		{[]int{4, 1, 3, 1, 2}, []int{2, 3, 2, 3, 2}},
	}
	for _, tie := range ties {
		if got := impl.HuffLens(tie.counts); !slices.Equal(got, tie.lens) {
			t.Errorf("HuffLens of %v is %v, not %v", tie.counts, got, tie.lens)
		}
	}
}

func TestHuffLensOfFewCounts(t *testing.T) {
	if got := impl.HuffLens(nil); len(got) != 0 {
		t.Error("no counts", got)
	}
	for _, n := range []int{1, 2, 5, impl.MaxHuff} {
		if got := impl.HuffLens(make([]int, n)); !slices.Equal(got, make([]int, n)) {
			t.Error("only counts 0", n, few(got))
		}
		for _, at := range []int{0, n / 2, n - 1} {
			for _, count := range []int{1, 2, impl.MaxCount} {
				counts, lens := make([]int, n), make([]int, n)
				counts[at], lens[at] = count, 1
				if got := impl.HuffLens(counts); !slices.Equal(got, lens) || !impl.HuffOk(got) {
					t.Error("a single symbol", at, "of", n, few(got))
				}
				if size := impl.HuffSize(counts, lens); size != count {
					t.Error("a single symbol has the size", size)
				}
			}
		}
	}
}

// TestHuffLensAreLong has Fibonacci numbers, whose codes are the longest ones
// for their sum, and then more of the greatest counts.
func TestHuffLensAreLong(t *testing.T) {
	counts := listBy(func(i, n int) int { return fibonacci(i) }, 30)
	lens := impl.HuffLens(counts)
	for symbol, length := range lens {
		if want := min(30-symbol, 29); length != want {
			t.Error("symbol", symbol, "has", length, "digits, not", want)
		}
	}
	for len(counts) < impl.MaxHuff {
		counts = append(counts, impl.MaxCount)
	}
	lens = impl.HuffLens(counts)
	if !slices.Equal(lens, plainLens(counts)) || !impl.HuffOk(lens) || slices.Max(lens) <= 32 {
		t.Error("the longest codes have", slices.Max(lens), "digits")
	}
}

func TestHuffLensRejects(t *testing.T) {
	for _, n := range []int{impl.MaxHuff + 1, impl.MaxHuff + 2, 512, 1000000} {
		for _, rule := range countRules {
			if got := impl.HuffLens(listBy(rule, n)); len(got) != 0 {
				t.Error(n, "counts", few(got))
			}
		}
	}
	for _, n := range []int{1, 2, 3, 64, impl.MaxHuff} {
		for _, rule := range countRules {
			for _, at := range []int{0, n / 2, n - 1} {
				for _, x := range []int{-1, -2, -impl.MaxCount, impl.MaxCount + 1, 1 << 32, 1<<32 + 1, math.MinInt, math.MinInt + 1, math.MaxInt} {
					counts := listBy(rule, n)
					counts[at] = x
					if got := impl.HuffLens(counts); len(got) != 0 {
						t.Fatal(x, "at", at, "of", n, few(got))
					}
				}
			}
		}
	}
}

// TestHuffLensAreBest compares the size with those of all valid lengths of few
// symbols: promise 9, its last part.
func TestHuffLensAreBest(t *testing.T) {
	for n, numbers := range [][]int{nil, {0, 1, 2, 9, impl.MaxCount}, {0, 1, 2, 9, impl.MaxCount}, {0, 1, 2, 3, 4, 9}, {0, 1, 2, 3, 4, 9}, {0, 1, 2, 3, 7}, {1, 2, 5}} {
		all := allLens(n)
		for _, counts := range allSymLists(numbers, n) {
			if len(counts) != n || !slices.ContainsFunc(counts, func(n int) bool { return n > 0 }) {
				continue
			}
			best := math.MaxInt
			for _, lens := range all {
				want := -1
				if covers(counts, lens) {
					want = plainSize(counts, lens)
					best = min(best, want)
				}
				if got := impl.HuffSize(counts, lens); got != want {
					t.Fatalf("HuffSize of %v with %v is %d, not %d", counts, lens, got, want)
				}
			}
			if got := impl.HuffSize(counts, impl.HuffLens(counts)); got != best {
				t.Fatalf("HuffLens of %v have the size %d, not %d", counts, got, best)
			}
		}
	}
}

// TestHuffLensAreBestOfMany compares the size of many counts with those of
// other valid lengths.
func TestHuffLensAreBestOfMany(t *testing.T) {
	others := map[int][][]int{}
	for _, lens := range lensLists() {
		others[len(lens)] = append(others[len(lens)], lens)
	}
	compared := 0
	for _, n := range huffSizes {
		for _, rule := range countRules {
			counts := listBy(rule, n)
			best := impl.HuffLens(counts)
			if !impl.HuffOk(best) {
				continue
			}
			size := impl.HuffSize(counts, best)
			if size != plainSize(counts, best) {
				t.Fatal("HuffSize is", size, "of", n)
			}
			for _, lens := range others[n] {
				if covers(counts, lens) {
					compared++
					if got := impl.HuffSize(counts, lens); got != plainSize(counts, lens) || got < size {
						t.Fatal("other lengths of", n, "symbols have the size", got, "not", size)
					}
				}
			}
		}
	}
	if compared < 1000 {
		t.Error("only", compared, "others")
	}
}

func TestHuffSizeRejects(t *testing.T) {
	for name, lens := range invalidLens() {
		for _, count := range []int{0, 1, impl.MaxCount} {
			if got := impl.HuffSize(slices.Repeat([]int{count}, len(lens)), lens); got != -1 {
				t.Error(name, got)
			}
		}
	}
	for _, lens := range lensLists() {
		counts := slices.Clone(lens)
		if got, want := impl.HuffSize(counts, lens), plainSize(lens, lens); got != want {
			t.Fatal("the lengths as counts", got, want)
		}
		for _, other := range [][]int{counts[:len(lens)-1], append(slices.Clone(counts), 0), append(slices.Clone(counts), 1), nil} {
			if got := impl.HuffSize(other, lens); got != -1 {
				t.Fatal(len(other), "counts,", len(lens), "lengths", got)
			}
		}
		for symbol, length := range lens {
			for _, x := range []int{-1, impl.MaxCount + 1, math.MinInt, math.MaxInt, 1 << 32} {
				counts[symbol] = x
				if got := impl.HuffSize(counts, lens); got != -1 {
					t.Fatal("a count", x, "with the length", length, got)
				}
			}
			if counts[symbol] = 1; length == 0 {
				if got := impl.HuffSize(counts, lens); got != -1 {
					t.Fatal("a count with the length 0", got)
				}
			}
			counts[symbol] = length
		}
	}
}

func TestHuffSizeIsGreat(t *testing.T) {
	lens := stairs(topLength)
	counts := slices.Repeat([]int{impl.MaxCount}, len(lens))
	if got := impl.HuffSize(counts, lens); got != impl.MaxCount*(60*61/2+60) {
		t.Error(got)
	}
	if got := impl.HuffSize(make([]int, len(lens)), lens); got != 0 {
		t.Error("only counts 0", got)
	}
}

func TestHuffOk(t *testing.T) {
	for name, lens := range invalidLens() {
		if impl.HuffOk(lens) || plainHuffOk(lens) {
			t.Error(name)
		}
	}
	for _, lens := range lensLists() {
		if !impl.HuffOk(lens) {
			t.Fatal("valid lengths", len(lens), few(lens))
		}
	}
	for _, lens := range slices.Concat(allSymLists([]int{0, 1, 2, 3, 4}, 6), allSymLists([]int{-1, 0, 1, 2, 60, 61}, 4)) {
		if got := impl.HuffOk(lens); got != plainHuffOk(lens) {
			t.Fatal(lens, got)
		}
	}
	// Valid lengths with a single one changed, left out or added.
	for _, lens := range lensLists()[:400] {
		for symbol, length := range lens {
			for _, add := range []int{-1, 1, 2, -length} {
				other := slices.Clone(lens)
				other[symbol] += add
				if impl.HuffOk(other) != plainHuffOk(other) {
					t.Fatal("changed lengths", few(other))
				}
			}
			other := slices.Delete(slices.Clone(lens), symbol, symbol+1)
			if impl.HuffOk(other) != plainHuffOk(other) {
				t.Fatal("fewer lengths", few(other))
			}
			other = slices.Insert(slices.Clone(lens), symbol, length)
			if impl.HuffOk(other) != plainHuffOk(other) {
				t.Fatal("more lengths", few(other))
			}
		}
	}
}

// TestHuffCodes expects the codes that their parts of the whole give, and that
// none is a prefix of another one: promise 9, its second part.
func TestHuffCodes(t *testing.T) {
	for _, lens := range lensLists() {
		codes := impl.HuffCodes(lens)
		if len(codes) != len(lens) {
			t.Fatal(len(codes), "codes of", len(lens))
		}
		var texts []string
		for symbol, code := range codes {
			if lens[symbol] == 0 {
				if code != 0 {
					t.Fatal("the code", code, "of the length 0")
				}
				continue
			}
			text := fmt.Sprintf("%0*b", lens[symbol], code)
			if text != plainCode(lens, symbol) {
				t.Fatalf("symbol %d of %v has the code %s, not %s", symbol, few(lens), text, plainCode(lens, symbol))
			}
			texts = append(texts, text)
		}
		// A prefix of any code would be one of the next code in this order.
		slices.Sort(texts)
		for k := 1; k < len(texts); k++ {
			if strings.HasPrefix(texts[k], texts[k-1]) {
				t.Fatal(texts[k-1], "is a prefix of", texts[k])
			}
		}
	}
	for name, lens := range invalidLens() {
		if codes := impl.HuffCodes(lens); len(codes) != 0 {
			t.Error(name, few(codes))
		}
	}
}

// usedOf returns the symbols that have a code.
func usedOf(lens []int) []int {
	var used []int
	for symbol, length := range lens {
		if length > 0 {
			used = append(used, symbol)
		}
	}
	return used
}

// listOf returns n symbols, each of which has a code.
func listOf(lens []int, rule func(i, n int) int, n int) []int {
	used, list := usedOf(lens), listBy(rule, n)
	for i := range list {
		list[i] = used[list[i]%len(used)]
	}
	return list
}

func joined(list []int, codes []string) string {
	var text strings.Builder
	for _, symbol := range list {
		text.WriteString(codes[symbol])
	}
	return text.String()
}

func refuseRead(t *testing.T, v impl.Bits, lens []int, n int) {
	t.Helper()
	if list, ok := impl.HuffRead(v, lens, n); ok || len(list) != 0 {
		t.Fatalf("HuffRead of %d symbols from %d bits, %v, with %v: %v %v", n, v.N, v.Words, few(lens), few(list), ok)
	}
}

// checkWrite expects the codes side by side, and that the list is recovered
// with its number of symbols only and not with a bit more or less: promise 9,
// its first part.
func checkWrite(t *testing.T, list, lens []int, codes []string) {
	t.Helper()
	want := digits(joined(list, codes))
	v, ok := impl.HuffWrite(list, lens)
	if !ok || !sameBits(v, mustBits(t, want)) {
		t.Fatalf("HuffWrite of %v with %v: %v %v", few(list), few(lens), v, ok)
	}
	got, ok := impl.HuffRead(v, lens, len(list))
	if !ok || !slices.Equal(got, list) {
		t.Fatalf("HuffRead of %v with %v: %v %v", few(list), few(lens), few(got), ok)
	}
	for _, n := range []int{len(list) - 1, len(list) + 1, -1, 0, v.N, -len(list)} {
		if n != len(list) {
			refuseRead(t, v, lens, n)
		}
	}
	if v.N > 0 {
		refuseRead(t, mustBits(t, want[:v.N-1]), lens, len(list))
	}
	if v.N < impl.MaxBits {
		for bit := range 2 {
			refuseRead(t, mustBits(t, append(slices.Clone(want), bit)), lens, len(list))
		}
	}
}

func TestHuffWriteAndRead(t *testing.T) {
	for _, lens := range lensLists() {
		codes := plainCodes(lens)
		used := usedOf(lens)
		back := slices.Clone(used)
		slices.Reverse(back)
		for _, list := range [][]int{nil, used[:1], used[len(used)-1:], used[:min(len(used), 40)], back[:min(len(used), 40)]} {
			checkWrite(t, list, lens, codes)
		}
		for _, n := range []int{2, 3, 64, 80} {
			for _, rule := range []func(i, n int) int{countRules[6], countRules[11], countRules[20]} {
				checkWrite(t, listOf(lens, rule, n), lens, codes)
			}
		}
	}
}

// plainSymbols follows the codes as long as it can. It returns false if that
// is not to the end.
func plainSymbols(text string, codes []string) ([]int, bool) {
	var list []int
	for text != "" {
		symbol := slices.IndexFunc(codes, func(code string) bool { return code != "" && strings.HasPrefix(text, code) })
		if symbol < 0 {
			return nil, false
		}
		list, text = append(list, symbol), text[len(codes[symbol]):]
	}
	return list, true
}

// TestHuffReadOfAllBits has all small bit vectors, whether they are written or
// not.
func TestHuffReadOfAllBits(t *testing.T) {
	texts := []string{""}
	for at := 0; len(texts[at]) < 7; at++ {
		texts = append(texts, texts[at]+"0", texts[at]+"1")
	}
	var lists [][]int
	for n := range 5 {
		lists = append(lists, allLens(n)...)
	}
	for _, lens := range append(lists, stairs(5), stairs(topLength), slices.Repeat([]int{3}, 8), make([]int, impl.MaxHuff)) {
		if len(lens) == impl.MaxHuff {
			lens[impl.MaxHuff-1] = 1
		}
		codes := plainCodes(lens)
		for _, text := range texts {
			v := mustBits(t, digits(text))
			want, whole := plainSymbols(text, codes)
			for n := -1; n < 9; n++ {
				if !whole || n != len(want) {
					refuseRead(t, v, lens, n)
				} else if got, ok := impl.HuffRead(v, lens, n); !ok || !slices.Equal(got, want) {
					t.Fatalf("HuffRead of %s with %v: %v %v", text, few(lens), got, ok)
				}
			}
		}
	}
}

func refuseWrite(t *testing.T, name string, list, lens []int) {
	t.Helper()
	if v, ok := impl.HuffWrite(list, lens); ok || !isZeroBits(v) {
		t.Fatalf("%s: HuffWrite of %d symbols, %v, with %v: %v %v", name, len(list), few(list), few(lens), v.N, ok)
	}
}

// filled returns a list of exactly size bits, the last ones of the shortest
// code, if that has one bit.
func filled(lens []int, size int, rule func(i, n int) int) []int {
	shortest := slices.Index(lens, 1)
	if shortest < 0 {
		return nil
	}
	list := listOf(lens, rule, size)
	for i, symbol := range list {
		if lens[symbol] > size {
			return append(list[:i], slices.Repeat([]int{shortest}, size)...)
		}
		size -= lens[symbol]
	}
	return list
}

// TestHuffOfMaxBits has lists whose codes take as many bits as a vector may
// have, and some more.
func TestHuffOfMaxBits(t *testing.T) {
	for _, lens := range lensLists() {
		for _, rule := range []func(i, n int) int{countRules[0], countRules[6], countRules[20]} {
			list := filled(lens, impl.MaxBits, rule)
			if list == nil {
				continue
			}
			v, ok := impl.HuffWrite(list, lens)
			if !ok || v.N != impl.MaxBits || !impl.BitsOk(v) {
				t.Fatalf("HuffWrite of MaxBits bits with %v: %d %v", few(lens), v.N, ok)
			}
			if got, ok := impl.HuffRead(v, lens, len(list)); !ok || !slices.Equal(got, list) {
				t.Fatalf("HuffRead of MaxBits bits with %v: %v", few(lens), ok)
			}
			refuseRead(t, v, lens, len(list)-1)
			refuseRead(t, v, lens, len(list)+1)
			for _, symbol := range usedOf(lens) {
				refuseWrite(t, "MaxBits bits and one symbol", append(slices.Clone(list), symbol), lens)
			}
			refuseWrite(t, "MaxBits + 1 bits", filled(lens, impl.MaxBits+1, rule), lens)
		}
	}
	for length, more := range map[int]bool{2: true, 4: true, 5: true, 8: true, 3: false, 6: false, 7: false} {
		lens := slices.Repeat([]int{length}, 1<<length)
		list := listOf(lens, countRules[6], impl.MaxBits/length)
		v, ok := impl.HuffWrite(list, lens)
		if !ok || v.N != len(list)*length || (v.N == impl.MaxBits) != more {
			t.Fatal("codes of", length, "bits", v.N, ok)
		}
		if got, ok := impl.HuffRead(v, lens, len(list)); !ok || !slices.Equal(got, list) {
			t.Fatal("codes of", length, "bits are not recovered")
		}
		refuseWrite(t, "a code too many", append(list, 0), lens)
	}
}

// TestHuffOfOneSymbol repeats the only symbol that has a code: a bit 1 is no
// code at all.
func TestHuffOfOneSymbol(t *testing.T) {
	for _, size := range []int{1, 2, 64, impl.MaxHuff} {
		for _, symbol := range []int{0, size / 2, size - 1} {
			lens := make([]int, size)
			lens[symbol] = 1
			for _, n := range []int{0, 1, 2, 63, 64, 65, 128, 300, impl.MaxBits - 1, impl.MaxBits} {
				list := slices.Repeat([]int{symbol}, n)
				v, ok := impl.HuffWrite(list, lens)
				if !ok || !sameBits(v, mustBits(t, make([]int, n))) {
					t.Fatal("HuffWrite of", n, "times the only symbol", v, ok)
				}
				if got, ok := impl.HuffRead(v, lens, n); !ok || !slices.Equal(got, list) {
					t.Fatal("HuffRead of", n, "times the only symbol", few(got), ok)
				}
				for _, at := range ends(n) {
					if at < n {
						bits := make([]int, n)
						bits[at] = 1
						for _, m := range []int{n, n - 1, at, at + 1, 0} {
							refuseRead(t, mustBits(t, bits), lens, m)
						}
					}
				}
			}
			refuseWrite(t, "MaxBits + 1 times", slices.Repeat([]int{symbol}, impl.MaxBits+1), lens)
			refuseWrite(t, "a million times", slices.Repeat([]int{symbol}, 1000000), lens)
		}
	}
}

func TestHuffWriteRejects(t *testing.T) {
	for name, lens := range invalidLens() {
		for _, list := range [][]int{nil, {0}, {1}, {0, 1}, {len(lens) - 1}, {-1}} {
			refuseWrite(t, name, list, lens)
		}
	}
	for _, lens := range lensLists() {
		bad := append([]int{len(lens), len(lens) + 1, 300, -2, -len(lens), 1<<32 + usedOf(lens)[0]}, farInts...)
		if at := slices.Index(lens, 0); at >= 0 {
			bad = append(bad, at)
		}
		for _, symbol := range bad {
			refuseWrite(t, "no symbol", []int{symbol}, lens)
			for _, n := range []int{2, 40} {
				for _, at := range []int{0, n / 2, n - 1} {
					list := listOf(lens, countRules[6], n)
					list[at] = symbol
					refuseWrite(t, "no symbol", list, lens)
				}
			}
		}
	}
}

func TestHuffReadRejects(t *testing.T) {
	for name, lens := range invalidLens() {
		for _, list := range [][]int{nil, {0}, {1}, {0, 0}, {0, 1, 0}} {
			for n := -1; n < 4; n++ {
				if got, ok := impl.HuffRead(mustBits(t, list), lens, n); ok || len(got) != 0 {
					t.Fatal(name, list, n, got)
				}
			}
		}
	}
	for _, v := range invalidBits() {
		for _, lens := range [][]int{{1}, {1, 1}, {2, 2, 1, 0}, stairs(topLength), nil} {
			for _, n := range []int{0, 1, 2, 4, 63, 64, 65, v.N, -1} {
				refuseRead(t, v, lens, n)
			}
		}
	}
	for _, n := range farInts {
		for _, lens := range [][]int{{1}, {1, 1}, {2, 2, 1, 0}, stairs(topLength)} {
			for _, size := range []int{0, 1, 2, 64} {
				refuseRead(t, mustBits(t, make([]int, size)), lens, n)
			}
		}
	}
	if list, ok := impl.HuffRead(impl.Bits{}, []int{1, 1}, 0); !ok || len(list) != 0 {
		t.Error("no symbols", list, ok)
	}
	if list, ok := impl.HuffRead(impl.Bits{Words: []uint64{}}, []int{0, 1}, 0); !ok || len(list) != 0 {
		t.Error("no symbols", list, ok)
	}
}

// spareList returns a list with numbers behind it, and all of them.
func spareList(list []int) ([]int, []int) {
	all := append(slices.Clone(list), 1, -1, 0, 1<<40)
	return all[:len(list)], all
}

func TestHuffLeavesArgumentsAlone(t *testing.T) {
	for _, n := range huffSizes {
		for _, rule := range countRules {
			counts, allCounts := spareList(listBy(rule, n))
			countsBefore := slices.Clone(allCounts)
			lens, allLens := spareList(impl.HuffLens(counts))
			lensBefore := slices.Clone(allLens)
			valid := impl.HuffOk(lens)
			if valid != plainHuffOk(lens) || len(impl.HuffCodes(lens)) != len(lens) && valid {
				t.Fatal("what is behind the lengths is read", n)
			}
			impl.HuffSize(counts, lens)
			if valid {
				list, allList := spareList(listOf(lens, countRules[6], 40))
				listBefore := slices.Clone(allList)
				v, ok := impl.HuffWrite(list, lens)
				all := append(slices.Clone(v.Words), 5, 1<<63)
				wordsBefore := slices.Clone(all)
				v.Words = all[:len(v.Words)]
				got, read := impl.HuffRead(v, lens, 40)
				if !ok || !read || !slices.Equal(got, list) {
					t.Fatal("what is behind the symbols or bits is read", n)
				}
				if !slices.Equal(allList, listBefore) || !slices.Equal(all, wordsBefore) {
					t.Fatal("the symbols or bits are changed", n)
				}
			}
			if !slices.Equal(allCounts, countsBefore) || !slices.Equal(allLens, lensBefore) {
				t.Fatal("counts or lengths are changed", n)
			}
		}
	}
}

func TestHuffResultsAreTheirOwn(t *testing.T) {
	for _, n := range huffSizes {
		for _, rule := range countRules {
			counts := listBy(rule, n)
			want := plainLens(counts)
			lens, other := impl.HuffLens(counts), impl.HuffLens(counts)
			spoilNumbers(other)
			if !slices.Equal(lens, want) || !slices.Equal(counts, listBy(rule, n)) {
				t.Fatal("HuffLens shares memory", n)
			}
			if !impl.HuffOk(lens) {
				continue
			}
			codes, others := impl.HuffCodes(lens), impl.HuffCodes(lens)
			spoilNumbers(others)
			list := listOf(lens, countRules[6], 40)
			v, _ := impl.HuffWrite(list, lens)
			w, _ := impl.HuffWrite(list, lens)
			spoil(w.Words)
			first, _ := impl.HuffRead(v, lens, 40)
			second, ok := impl.HuffRead(v, lens, 40)
			spoilNumbers(first)
			if !ok || !slices.Equal(second, list) || !slices.Equal(codes, impl.HuffCodes(lens)) || !slices.Equal(lens, want) {
				t.Fatal("codes, bits or symbols share memory", n)
			}
		}
	}
}
