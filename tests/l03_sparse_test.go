package tests

import (
	"math"
	"slices"
	"testing"

	"loop.example/g00688/impl"
)

// farUniverses are no U of a sparse list.
var farUniverses = []int{math.MinInt, math.MinInt + 1, -1 << 32, -2, -1, impl.MaxUniverse + 1, impl.MaxUniverse + 2, 1 << 32, 1 << 62, math.MaxInt}

func mustSparse(t *testing.T, list []int, u int) impl.Sparse {
	t.Helper()
	s, ok := impl.SparseOf(list, u)
	if !ok {
		t.Fatalf("SparseOf refuses %d numbers below %d", len(list), u)
	}
	return s
}

// refuseSparse expects that the list has no representation.
func refuseSparse(t *testing.T, list []int, u int) {
	t.Helper()
	if s, ok := impl.SparseOf(list, u); ok || !isZeroSparse(s) {
		t.Errorf("SparseOf of %d numbers below %d: %v %v", len(list), u, s, ok)
	}
}

func sameSparse(s, r impl.Sparse) bool {
	return s.U == r.U && s.N == r.N && samePacked(s.Low, r.Low) && sameBits(s.High, r.High)
}

func isZeroSparse(s impl.Sparse) bool {
	return s.U == 0 && s.N == 0 && isZeroPacked(s.Low) && isZeroBits(s.High)
}

// plainWidth returns the low width, by counting.
func plainWidth(n, u int) int {
	width := 0
	for n > 0 && 2<<width <= u/n {
		width++
	}
	return width
}

// plainSparse builds what the document describes, quotient by quotient. The
// list is valid.
func plainSparse(t *testing.T, list []int, u int) impl.Sparse {
	t.Helper()
	width := plainWidth(len(list), u)
	size := 1 << width
	var low, high []int
	for _, x := range list {
		low = append(low, x%size)
	}
	rest := list
	for q := 0; q <= u/size; q++ {
		for len(rest) > 0 && rest[0]/size == q {
			high = append(high, 1)
			rest = rest[1:]
		}
		high = append(high, 0)
	}
	return impl.Sparse{U: u, N: len(list), Low: mustPack(t, low, width), High: mustBits(t, high)}
}

// sparsePatterns returns non-decreasing lists of n numbers below u: equal
// ones at either end, both ends, evenly spread ones, crowded ones and groups
// of repeated ones.
func sparsePatterns(n, u int) [][]int {
	if n == 0 {
		return [][]int{nil, {}}
	}
	rules := []func(i int) int{
		func(i int) int { return 0 },
		func(i int) int { return u - 1 },
		func(i int) int { return u / 2 },
		func(i int) int { return (u - 1) * (i * 2 / n) },
		func(i int) int { return i * u / n },
		func(i int) int { return min(i, u-1) },
		func(i int) int { return max(0, u-n+i) },
		func(i int) int { return i / 3 * 3 * u / n },
		func(i int) int { return (i*i*2654435761 + 40503*i) >> 3 & math.MaxInt32 % u },
	}
	var lists [][]int
	for _, rule := range rules {
		list := make([]int, n)
		for i := range list {
			list[i] = rule(i)
		}
		slices.Sort(list)
		lists = append(lists, list)
	}
	return lists
}

// sparseSizes returns numbers of numbers and universes that have a
// representation: few and many numbers, all low widths, and the limits.
func sparseSizes() [][2]int {
	sizes := [][2]int{
		{0, 0}, {0, 1}, {0, 63}, {0, 4999},
		{1, 1}, {1, 2}, {1, 3}, {1, 4}, {1, impl.MaxUniverse},
		{2, 1}, {2, 3}, {2, 4}, {2, impl.MaxUniverse}, {3, 10}, {3, 11}, {3, 12},
		{10, 10}, {10, 19}, {10, 20}, {10, 39}, {10, 40}, {10, 1000}, {10, 12345}, {10, 200000},
		{64, 1}, {64, 63}, {64, 64}, {64, 65}, {64, 127}, {64, 128}, {64, 5000}, {64, impl.MaxUniverse},
		{100, 6400}, {100, 1000}, {300, 301}, {454, impl.MaxUniverse}, {500, 600000},
		{1250, 20000}, {1000, 32000}, {1500, 4000}, {2499, 2500}, {2500, 2499}, {4998, 1}, {4000, 999},
	}
	for width := range 20 {
		sizes = append(sizes, [2]int{1, 1 << width}, [2]int{1, min(2<<width-1, impl.MaxUniverse)})
		if 13<<width <= impl.MaxUniverse {
			sizes = append(sizes, [2]int{13, 13 << width}, [2]int{13, min(26<<width-1, impl.MaxUniverse)})
		}
	}
	return sizes
}

// invalidSparse returns values that SparseOk has to reject.
func invalidSparse(t *testing.T) map[string]impl.Sparse {
	bits := func(list ...int) impl.Bits { return mustBits(t, list) }
	pack := func(width int, list ...int) impl.Packed { return mustPack(t, list, width) }
	low, high := pack(1, 0, 1, 1), bits(0, 1, 1, 0, 0, 0, 1, 0, 0)
	return map[string]impl.Sparse{
		"zero value":                         {},
		"no numbers below 0, two zeros":      {High: bits(0, 0)},
		"no numbers below 0, a one":          {High: bits(1)},
		"no numbers below 3, three zeros":    {U: 3, High: bits(0, 0, 0)},
		"no numbers below 3, five zeros":     {U: 3, High: bits(0, 0, 0, 0, 0)},
		"no numbers below 3, a one":          {U: 3, High: bits(0, 0, 1, 0)},
		"no numbers, the width 1":            {U: 3, Low: pack(1), High: bits(0, 0, 0, 0)},
		"no numbers, the width 1, two zeros": {U: 3, Low: pack(1), High: bits(0, 0)},
		"no numbers, one in Low":             {U: 3, Low: pack(0, 0), High: bits(0, 0, 0, 0)},
		"a number below 0":                   {N: 1, Low: pack(0, 0), High: bits(1, 0)},
		"another U":                          {U: 12, N: 3, Low: low, High: high},
		"U too small":                        {U: 9, N: 3, Low: low, High: high},
		"another low width for U":            {U: 5, N: 3, Low: low, High: high},
		"U is -1, no bits":                   {U: -1},
		"U is MaxUniverse + 1, else valid":   {U: impl.MaxUniverse + 1, N: 1, Low: pack(19, 7), High: bits(1, 0, 0)},
		"U is 2^20, else valid":              {U: 1 << 20, N: 1, Low: pack(20, 7), High: bits(1, 0, 0)},
		"U is 2^32, else valid":              {U: 1 << 32, N: 1, Low: pack(32, 7), High: bits(1, 0, 0)},
		"U is -1":                            {U: -1, N: 3, Low: low, High: high},
		"U is 0":                             {U: 0, N: 3, Low: low, High: high},
		"one number fewer":                   {U: 10, N: 2, Low: low, High: high},
		"one number more":                    {U: 10, N: 4, Low: low, High: high},
		"no numbers":                         {U: 10, N: 0, Low: low, High: high},
		"N is -1":                            {U: 10, N: -1, Low: low, High: high},
		"no Low":                             {U: 10, N: 3, High: high},
		"Low of the width 0":                 {U: 10, N: 3, Low: pack(0, 0, 0, 0), High: high},
		"Low of the width 2":                 {U: 10, N: 3, Low: pack(2, 0, 1, 1), High: high},
		"Low with two numbers":               {U: 10, N: 3, Low: pack(1, 0, 1), High: high},
		"Low with four numbers":              {U: 10, N: 3, Low: pack(1, 0, 1, 1, 0), High: high},
		"Low with a bit too many":            {U: 10, N: 3, Low: impl.Packed{Width: 1, N: 3, Bits: bits(0, 1, 1, 0)}, High: high},
		"Low with a bit after its last":      {U: 10, N: 3, Low: impl.Packed{Width: 1, N: 3, Bits: impl.Bits{N: 3, Words: []uint64{6 + 8}}}, High: high},
		"Low without words":                  {U: 10, N: 3, Low: impl.Packed{Width: 1, N: 3, Bits: impl.Bits{N: 3}}, High: high},
		"no High":                            {U: 10, N: 3, Low: low},
		"High with a zero too few":           {U: 10, N: 3, Low: low, High: bits(0, 1, 1, 0, 0, 0, 1, 0)},
		"High with a zero too many":          {U: 10, N: 3, Low: low, High: bits(0, 1, 1, 0, 0, 0, 1, 0, 0, 0)},
		"High with a one too few":            {U: 10, N: 3, Low: low, High: bits(0, 1, 0, 0, 0, 0, 1, 0, 0)},
		"High with a one too many":           {U: 10, N: 3, Low: low, High: bits(0, 1, 1, 1, 0, 0, 1, 0, 0)},
		"High with a one more, a zero less":  {U: 10, N: 3, Low: low, High: bits(1, 1, 1, 0, 0, 0, 1, 0, 0)},
		"High with a one at the end":         {U: 10, N: 3, Low: low, High: bits(0, 1, 1, 0, 0, 0, 0, 0, 1)},
		"High with a bit after its last":     {U: 10, N: 3, Low: low, High: impl.Bits{N: 9, Words: []uint64{2 + 4 + 64 + 512}}},
		"High with a word too many":          {U: 10, N: 3, Low: low, High: impl.Bits{N: 9, Words: []uint64{2 + 4 + 64, 0}}},
		"High without words":                 {U: 10, N: 3, Low: low, High: impl.Bits{N: 9}},
		"2 after 3":                          {U: 10, N: 3, Low: pack(1, 1, 0, 1), High: high},
		"10 of 10":                           {U: 10, N: 3, Low: pack(1, 0, 1, 0), High: bits(0, 1, 1, 0, 0, 0, 0, 1, 0)},
		"11 of 11":                           {U: 11, N: 3, Low: pack(1, 0, 1, 1), High: bits(0, 1, 1, 0, 0, 0, 0, 1, 0)},
		"all of them 10 of 10":               {U: 10, N: 3, Low: pack(1, 0, 0, 0), High: bits(0, 0, 0, 0, 0, 1, 1, 1, 0)},
		"1 of 1":                             {U: 1, N: 1, Low: pack(0, 0), High: bits(0, 1, 0)},
		"4 of 4, the width 0":                {U: 4, N: 4, Low: pack(0, 0, 0, 0, 0), High: bits(1, 0, 1, 0, 1, 0, 0, 0, 1)},
		"4 of 4, ahead of the last zero":     {U: 4, N: 4, Low: pack(0, 0, 0, 0, 0), High: bits(1, 0, 1, 0, 1, 0, 0, 1, 0)},
	}
}

func TestSparseExamples(t *testing.T) {
	if impl.MaxUniverse != 1000000 {
		t.Error("MaxUniverse", impl.MaxUniverse)
	}
	s := mustSparse(t, []int{2, 3, 9}, 10)
	want := impl.Sparse{U: 10, N: 3, Low: mustPack(t, []int{0, 1, 1}, 1), High: mustBits(t, []int{0, 1, 1, 0, 0, 0, 1, 0, 0})}
	if !sameSparse(s, want) {
		t.Error(s)
	}
}

// checkSparse holds all functions against the list itself.
func checkSparse(t *testing.T, list []int, u int) {
	t.Helper()
	s := mustSparse(t, list, u)
	if !sameSparse(s, plainSparse(t, list, u)) || !impl.SparseOk(s) {
		t.Fatalf("%v below %d: %v", list, u, s)
	}
	if got := impl.SparseList(s); !slices.Equal(got, list) {
		t.Fatalf("%v below %d: the list is %v", list, u, got)
	}
	step := 1 + len(list)/23
	for k := 0; k < len(list); k += step {
		if got := impl.SparseAt(s, k); got != list[k] {
			t.Fatalf("%v below %d: number %d is %d", list, u, k, got)
		}
		for _, x := range []int{list[k] - 1, list[k], list[k] + 1} {
			checkPlace(t, s, list, x)
		}
	}
	for _, x := range []int{math.MinInt, -u, -2, -1, 0, 1, u / 2, u - 1, u, u + 1, impl.MaxUniverse, math.MaxInt} {
		checkPlace(t, s, list, x)
	}
	for _, k := range append([]int{len(list), len(list) + 1, len(list) + 64}, farInts...) {
		if got := impl.SparseAt(s, k); got != -1 {
			t.Fatalf("%v below %d: there is no number %d, but %d", list, u, k, got)
		}
	}
}

func checkPlace(t *testing.T, s impl.Sparse, list []int, x int) {
	t.Helper()
	smaller := 0
	for _, y := range list {
		if y < x {
			smaller++
		}
	}
	if got := impl.SparseRank(s, x); got != smaller {
		t.Fatalf("%v below %d: SparseRank of %d is %d, not %d", list, s.U, x, got, smaller)
	}
	if got := impl.SparseHas(s, x); got != slices.Contains(list, x) {
		t.Fatalf("%v below %d: SparseHas of %d is %v", list, s.U, x, got)
	}
}

// Promise 4, with all low widths and the limits of Low and High.
func TestSparseOfAndBack(t *testing.T) {
	widths := map[int]int{}
	for _, size := range sparseSizes() {
		n, u := size[0], size[1]
		widths[plainWidth(n, u)]++
		for _, list := range sparsePatterns(n, u) {
			checkSparse(t, list, u)
		}
	}
	for width := range 20 {
		if widths[width] == 0 {
			t.Error("no list of the low width", width)
		}
	}
}

// allSorted returns all non-decreasing lists of n numbers below u.
func allSorted(n, u int) [][]int {
	lists := [][]int{nil}
	for range n {
		var longer [][]int
		for _, list := range lists {
			first := 0
			if len(list) > 0 {
				first = list[len(list)-1]
			}
			for x := first; x < u; x++ {
				longer = append(longer, append(slices.Clone(list), x))
			}
		}
		lists = longer
	}
	return lists
}

// Promise 4 for all small lists.
func TestSparseAllSmallLists(t *testing.T) {
	for u := range 10 {
		for n := range 5 {
			for _, list := range allSorted(n, u) {
				checkSparse(t, list, u)
			}
		}
	}
}

func TestSparseEmptyList(t *testing.T) {
	for _, u := range []int{0, 1, 3, 63, 64, 4998, 4999} {
		for _, list := range [][]int{nil, {}} {
			s := mustSparse(t, list, u)
			want := impl.Sparse{U: u, High: mustBits(t, make([]int, u+1))}
			if !sameSparse(s, want) || !impl.SparseOk(s) {
				t.Error(u, s)
			}
			checkSparse(t, list, u)
		}
	}
	for _, u := range []int{5000, 5001, 524288, impl.MaxUniverse} {
		refuseSparse(t, nil, u)
		refuseSparse(t, []int{}, u)
	}
}

func TestSparseOfNothingBelowZero(t *testing.T) {
	for _, list := range [][]int{{0}, {-1}, {1}, {0, 0}, make([]int, 4999)} {
		refuseSparse(t, list, 0)
	}
	s := mustSparse(t, nil, 0)
	if s.High.N != 1 || impl.SparseRank(s, 0) != 0 || impl.SparseRank(s, 1) != 0 || impl.SparseHas(s, 0) || impl.SparseHas(s, -1) || impl.SparseAt(s, 0) != -1 {
		t.Error(s)
	}
}

// An empty list has no number -1, although SparseAt returns -1 for it.
func TestSparseHasNoNegativeNumber(t *testing.T) {
	for _, list := range [][]int{nil, {0}, {0, 0}, {2, 3, 9}} {
		s := mustSparse(t, list, 10)
		for _, x := range []int{-1, -2, -10, math.MinInt} {
			if impl.SparseHas(s, x) || impl.SparseRank(s, x) != 0 {
				t.Error(list, x)
			}
		}
	}
}

func TestSparseRepeatedNumbers(t *testing.T) {
	list := []int{0, 0, 0, 5, 5, 6, 9, 9, 9, 9}
	s := mustSparse(t, list, 10)
	for x, want := range []int{0, 3, 3, 3, 3, 3, 5, 6, 6, 6, 10, 10} {
		if got := impl.SparseRank(s, x); got != want {
			t.Errorf("SparseRank of %d is %d, not %d", x, got, want)
		}
	}
	for _, u := range []int{1, 2, 7, 64, 1000, 30000} {
		for _, n := range []int{1, 2, 3, 63, 64, 65, 200} {
			for _, x := range []int{0, u / 2, u - 1} {
				same := slices.Repeat([]int{x}, n)
				checkSparse(t, same, u)
				r := mustSparse(t, same, u)
				if impl.SparseRank(r, x) != 0 || impl.SparseRank(r, x+1) != n {
					t.Errorf("%d times %d below %d", n, x, u)
				}
			}
		}
	}
}

// The bits of High number len(list) + u / 2^width + 1, those of Low
// len(list) * width, and both are at most MaxBits.
func TestSparseLimits(t *testing.T) {
	cases := []struct {
		n, u  int
		valid bool
	}{
		{0, 4999, true}, {0, 5000, false},
		{4998, 1, true}, {4999, 1, false}, {5000, 1, false}, {5001, 1, false}, {20000, 1, false},
		{2499, 2500, true}, {2500, 2500, false}, {2499, 2501, false}, {2500, 2499, true},
		{4000, 999, true}, {4000, 1000, false}, {4001, 999, false},
		{1700, 3299, true}, {1700, 3300, false}, {1700, 3399, false}, {1700, 3400, true},
		{1700, 6598, true}, {1700, 6599, true}, {1700, 6600, false}, {1700, 6799, false}, {1699, 6601, true}, {1699, 6602, false},
		{500, 600000, true}, {501, 600000, false},
		{1250, 20000, true}, {1250, 39999, true}, {1251, 20016, false}, {1251, 20015, true},
		{1000, 63999, true}, {1000, 64000, false}, {1001, 32032, false}, {1001, 32031, true},
		{625, 160000, true}, {625, 319999, true}, {625, 320000, false}, {626, 160256, false},
		{454, impl.MaxUniverse, true}, {455, impl.MaxUniverse, false},
	}
	for _, c := range cases {
		for _, list := range sparsePatterns(c.n, c.u) {
			if !c.valid {
				refuseSparse(t, list, c.u)
				continue
			}
			checkSparse(t, list, c.u)
		}
	}
}

// The limits once more, for many sizes, by the words of the document.
func TestSparseOfWhereLowAndHighFit(t *testing.T) {
	counts := map[bool]int{}
	for n := 0; n <= 5002; n += 1 + n/29 {
		for u := 1; u <= impl.MaxUniverse; u += 1 + u/37 {
			width := plainWidth(n, u)
			fits := n*width <= impl.MaxBits && n+u/(1<<width)+1 <= impl.MaxBits
			counts[fits]++
			list := slices.Repeat([]int{u - 1}, n)
			s, ok := impl.SparseOf(list, u)
			if ok != fits || impl.SparseOk(s) != fits || !fits && !isZeroSparse(s) {
				t.Fatalf("%d numbers below %d: %v %v", n, u, s, ok)
			}
		}
	}
	if counts[true] < 100 || counts[false] < 100 {
		t.Error("the sizes are all alike", counts)
	}
}

func TestSparseGreatestUniverse(t *testing.T) {
	u := impl.MaxUniverse
	for _, list := range [][]int{{0}, {u - 1}, {0, u - 1}, {0, 0, u - 1, u - 1}, {u - 2, u - 1}, {5, 524287, 524288, 524289}} {
		checkSparse(t, list, u)
		refuseSparse(t, append(slices.Clone(list), u), u)
		refuseSparse(t, list, u+1)
	}
}

func TestSparseOfBadUniverse(t *testing.T) {
	for _, u := range farUniverses {
		for _, list := range [][]int{nil, {0}, {0, 0}, {u - 1}, {u}, {-1}, make([]int, 200)} {
			refuseSparse(t, list, u)
		}
	}
}

func TestSparseOfBadList(t *testing.T) {
	for _, u := range []int{1, 2, 10, 1000} {
		bad := []int{-1, -2, -u, math.MinInt, u, u + 1, 2 * u, 1 << 32, math.MaxInt}
		for _, n := range []int{1, 2, 64, 100} {
			for _, x := range bad {
				for _, i := range []int{0, n / 2, n - 1} {
					list := sparsePatterns(n, u)[4]
					list[i] = x
					refuseSparse(t, list, u)
				}
				refuseSparse(t, slices.Repeat([]int{x}, n), u)
			}
		}
	}
	for _, list := range [][]int{{3, 2}, {1, 0}, {9, 0}, {0, 1, 0}, {2, 3, 9, 8}, {5, 4, 9}, {4, 5, 4, 5}, {9, 9, 9, 8}} {
		refuseSparse(t, list, 10)
		refuseSparse(t, list, impl.MaxUniverse)
	}
	for i := range 99 {
		list := sparsePatterns(100, 1000)[4]
		list[i], list[i+1] = list[i+1], list[i]
		refuseSparse(t, list, 1000)
	}
}

// refuseAll expects of all functions that s is not valid.
func refuseAll(t *testing.T, name string, s impl.Sparse) {
	t.Helper()
	if impl.SparseOk(s) {
		t.Error("SparseOk,", name)
	}
	if list := impl.SparseList(s); list != nil {
		t.Error("SparseList,", name, list)
	}
	for _, x := range []int{math.MinInt, -1, 0, 1, 2, 3, 9, 10, s.N, s.N - 1, s.U, s.U - 1, math.MaxInt} {
		if got := impl.SparseAt(s, x); got != -1 {
			t.Error("SparseAt,", name, x, got)
		}
		if got := impl.SparseRank(s, x); got != -1 {
			t.Error("SparseRank,", name, x, got)
		}
		if impl.SparseHas(s, x) {
			t.Error("SparseHas,", name, x)
		}
	}
}

func TestSparseInvalid(t *testing.T) {
	values := invalidSparse(t)
	good := mustSparse(t, []int{2, 3, 9}, 10)
	for name, v := range invalidBits() {
		values["High, "+name] = impl.Sparse{U: 10, N: 3, Low: good.Low, High: v}
		values["High of no numbers, "+name] = impl.Sparse{U: v.N - 1, High: v}
		values["Low of its N, "+name] = impl.Sparse{U: 10, N: v.N, Low: impl.Packed{Width: 1, N: v.N, Bits: v}, High: good.High}
		values["Low, "+name] = impl.Sparse{U: 10, N: 3, Low: impl.Packed{Width: 1, N: 3, Bits: v}, High: good.High}
	}
	for name, p := range invalidPacked(t) {
		values["Low is not valid: "+name] = impl.Sparse{U: 10, N: p.N, Low: p, High: good.High}
		values["Low is not valid, N is 3: "+name] = impl.Sparse{U: 10, N: 3, Low: p, High: good.High}
	}
	for _, x := range farUniverses {
		s := good
		s.U = x
		refuseAll(t, "a U out of range", s)
		refuseAll(t, "a U out of range, no numbers", impl.Sparse{U: x, High: good.High})
	}
	for _, x := range append([]int{-3, 1 << 59, 1<<59 + 3}, farInts...) {
		s := good
		s.N = x
		refuseAll(t, "an N out of range", s)
		s.Low.N = x
		refuseAll(t, "an N out of range, in Low too", s)
	}
	for name, s := range values {
		refuseAll(t, name, s)
	}
}

// A U that has the same low width and the same greatest quotient as that of
// the list is the U of another valid value.
func TestSparseOkWithAnotherUniverse(t *testing.T) {
	for u := range 40 {
		for _, list := range sparsePatterns(3, max(1, u)) {
			s, ok := impl.SparseOf(list, u)
			if !ok {
				continue
			}
			for other := range 80 {
				s.U = other
				r, ok := impl.SparseOf(list, other)
				if same := ok && sameSparse(r, s); impl.SparseOk(s) != same {
					t.Fatalf("%v below %d, with the U %d: %v", list, u, other, !same)
				}
			}
		}
	}
}

// smallPacked returns all packed lists of at most n numbers of at most the
// given width.
func smallPacked(t *testing.T, n, width int) []impl.Packed {
	var all []impl.Packed
	for w := 0; w <= width; w++ {
		for k := 0; k <= n; k++ {
			for word := range 1 << (k * w) {
				list := make([]int, k)
				for i := range list {
					list[i] = word >> (i * w) & (1<<w - 1)
				}
				all = append(all, mustPack(t, list, w))
			}
		}
	}
	return all
}

// TestSparseOkAllSmall tries all small values: SparseOk returns true exactly
// for those that SparseOf returns for their list. (That it returns true for
// all that SparseOf returns, checkSparse tests.)
func TestSparseOkAllSmall(t *testing.T) {
	var highs []impl.Bits
	for n := range 9 {
		for word := range 1 << n {
			high := make([]int, n)
			for i := range high {
				high[i] = word >> i & 1
			}
			highs = append(highs, mustBits(t, high))
		}
	}
	lows := smallPacked(t, 3, 2)
	valid := 0
	for u := range 8 {
		for n := range 4 {
			for _, low := range lows {
				for _, high := range highs {
					s := impl.Sparse{U: u, N: n, Low: low, High: high}
					if !impl.SparseOk(s) {
						continue
					}
					valid++
					r, ok := impl.SparseOf(impl.SparseList(s), u)
					if !ok || !sameSparse(r, s) {
						t.Fatalf("%v is valid, but %v is the one with its list", s, r)
					}
				}
			}
		}
	}
	if want := smallSparseCount(t); valid != want {
		t.Errorf("%d values are valid, not %d", valid, want)
	}
}

// smallSparseCount returns how many of the values that TestSparseOkAllSmall
// tries are the SparseOf of a list.
func smallSparseCount(t *testing.T) int {
	count := 0
	for u := range 8 {
		for n := range 4 {
			for _, list := range allSorted(n, u) {
				s := plainSparse(t, list, u)
				if s.Low.Width <= 2 && s.High.N <= 8 {
					count++
				}
			}
		}
	}
	return count
}

// spoil overwrites the memory of a result, and what is spare behind it.
func spoil(words []uint64) {
	words = words[:cap(words)]
	for j := range words {
		words[j] = 77
	}
}

func TestSparseResultsAreTheirOwn(t *testing.T) {
	for _, size := range sparseSizes() {
		n, u := size[0], size[1]
		for _, list := range sparsePatterns(n, u) {
			all := append(slices.Clone(list), -5, math.MaxInt)
			before := slices.Clone(all)
			s, r := mustSparse(t, all[:n], u), mustSparse(t, all[:n], u)
			spoil(r.High.Words)
			if !samePacked(r.Low, s.Low) {
				t.Fatal("Low and High share memory", n, u)
			}
			spoil(r.Low.Bits.Words)
			got := impl.SparseList(s)
			got = got[:cap(got)]
			for k := range got {
				got[k] = -7
			}
			if !slices.Equal(all, before) || !slices.Equal(impl.SparseList(s), list) {
				t.Fatal("a list is changed, or two results share memory", n, u)
			}
		}
	}
}

func TestSparseLeavesWordsAlone(t *testing.T) {
	for _, list := range [][]int{nil, {2, 3, 9}, sparsePatterns(100, 4000)[8]} {
		s, want := mustSparse(t, list, 4000), mustSparse(t, list, 4000)
		low := append(slices.Clone(s.Low.Bits.Words), math.MaxUint64, math.MaxUint64)
		high := append(slices.Clone(s.High.Words), math.MaxUint64, math.MaxUint64)
		lowBefore, highBefore := slices.Clone(low), slices.Clone(high)
		s.Low.Bits.Words, s.High.Words = low[:len(low)-2], high[:len(high)-2]
		if !impl.SparseOk(s) || !slices.Equal(impl.SparseList(s), list) {
			t.Fatal("the words behind the last ones are read", len(list))
		}
		impl.SparseAt(s, 0)
		impl.SparseRank(s, 5)
		impl.SparseHas(s, 9)
		if !slices.Equal(low, lowBefore) || !slices.Equal(high, highBefore) || !sameSparse(s, want) {
			t.Fatal("an argument is changed", len(list))
		}
	}
}
