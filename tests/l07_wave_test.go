package tests

import (
	"math"
	"slices"
	"testing"

	"loop.example/g00688/impl"
)

// topNumber is the greatest number of a list.
const topNumber = 511

// waveRules are lists by their elements: equal ones, rising and falling ones,
// periodic ones, single bits and their complements, single exceptions at the
// ends, and irregular ones of few and of many numbers.
var waveRules = []func(i, n int) int{
	func(i, n int) int { return 0 },
	func(i, n int) int { return topNumber },
	func(i, n int) int { return 256 },
	func(i, n int) int { return i % 512 },
	func(i, n int) int { return topNumber - i%512 },
	func(i, n int) int { return i % 2 },
	func(i, n int) int { return 255 + i%2 },
	func(i, n int) int { return i / 3 % 2 * topNumber },
	func(i, n int) int { return 1 << (i % 9) },
	func(i, n int) int { return topNumber - 1<<(i%9) },
	func(i, n int) int { return min(i, 1) * topNumber },
	func(i, n int) int { return min(n-1-i, 1) * topNumber },
	func(i, n int) int { return i * 3 / max(n, 1) * 171 },
	func(i, n int) int { return (i*i*40503 + 12345*i + 99) >> 4 % 3 * 200 },
	func(i, n int) int { return (i*i*40503+12345*i+99)>>4%7 + 253 },
	func(i, n int) int { return (i*i*40503 + 12345*i + 99) >> 4 % 512 },
}

// waveSizes are small sizes, multiples of 64 and their neighbors, those around
// the number of different numbers, and the limit.
var waveSizes = []int{0, 1, 2, 3, 5, 17, 63, 64, 65, 128, 257, 511, 512, 513, impl.MaxWave - 1, impl.MaxWave}

// notNumbers are never in a list; some are in range if only their last bits
// are looked at.
var notNumbers = append([]int{-2, -3, -256, -511, -512, topNumber + 1, topNumber + 2, 767, 1023, 1024, 1<<16 + 1, 1<<32 + 1, math.MinInt + 1}, farInts...)

// waveLists returns all small lists of some numbers, and all that the rules
// give.
func waveLists() [][]int {
	lists := slices.Concat(allSymLists([]int{0, 1, topNumber}, 4), allSymLists([]int{3, 255, 256, 510}, 3))
	for _, n := range waveSizes {
		for _, rule := range waveRules {
			lists = append(lists, listBy(rule, n))
		}
	}
	return lists
}

func mustWave(t *testing.T, list []int) impl.Wave {
	t.Helper()
	w, ok := impl.WaveOf(list)
	if !ok {
		t.Fatalf("WaveOf refuses a list of %d numbers: %v", len(list), few(list))
	}
	return w
}

func isZeroWave(w impl.Wave) bool { return w.N == 0 && len(w.Zeros) == 0 && len(w.Levels) == 0 }

func sameWave(v, w impl.Wave) bool {
	return v.N == w.N && slices.Equal(v.Zeros, w.Zeros) && slices.EqualFunc(v.Levels, w.Levels, sameBits)
}

func cloneWave(w impl.Wave) impl.Wave {
	v := impl.Wave{N: w.N, Zeros: slices.Clone(w.Zeros), Levels: slices.Clone(w.Levels)}
	for k, level := range v.Levels {
		v.Levels[k].Words = slices.Clone(level.Words)
	}
	return v
}

// plainWave sorts the list by the bit of each level.
func plainWave(list []int) impl.Wave {
	w := impl.Wave{N: len(list)}
	list = slices.Clone(list)
	for value := 256; value > 0; value /= 2 {
		level := impl.Bits{N: len(list), Words: make([]uint64, (len(list)+63)/64)}
		zeros := len(list)
		for i, x := range list {
			if x/value%2 == 1 {
				level.Words[i/64] += 1 << (i % 64)
				zeros--
			}
		}
		w.Levels, w.Zeros = append(w.Levels, level), append(w.Zeros, zeros)
		slices.SortStableFunc(list, func(x, y int) int { return x/value%2 - y/value%2 })
	}
	return w
}

func plainEqual(list []int, x int) int {
	n := 0
	for _, y := range list {
		if y == x {
			n++
		}
	}
	return n
}

func plainSmaller(list []int, x int) int {
	n := 0
	for _, y := range list {
		if y < x {
			n++
		}
	}
	return n
}

// asked are numbers that occur in a list, their neighbors, the ends of the
// range, and some that are never in a list.
func asked(list []int) []int {
	all := []int{-1, 0, 1, 255, 256, 257, 510, topNumber, topNumber + 1, math.MinInt, math.MaxInt}
	for k := 0; k < len(list); k += 1 + len(list)/8 {
		all = append(all, list[k]-1, list[k], list[k]+1)
	}
	slices.Sort(all)
	return slices.Compact(all)
}

// ends are beginnings and ends of ranges in a list of n numbers: all of them
// for short ones.
func ends(n int) []int {
	var all []int
	for i := range n + 1 {
		if n < 6 || i < 2 || i > n-2 || i%(n/4+1) == 0 || i == 64 {
			all = append(all, i)
		}
	}
	return all
}

func TestWaveExamples(t *testing.T) {
	if impl.WaveLevels != 9 || impl.MaxWave != 1000 {
		t.Error("constants", impl.WaveLevels, impl.MaxWave)
	}
	w := mustWave(t, []int{1, 0, 1})
	if w.N != 3 || !slices.Equal(w.Zeros, []int{3, 3, 3, 3, 3, 3, 3, 3, 1}) || len(w.Levels) != 9 {
		t.Fatal(w)
	}
	for k, level := range w.Levels {
		if !sameBits(level, impl.Bits{N: 3, Words: []uint64{uint64(k / 8 * 5)}}) {
			t.Error("level", k, level)
		}
	}
	if got := impl.WaveKth(w, 0, 3, 1); got != 1 {
		t.Error("WaveKth", got)
	}
	// Level 1 has the order 3, 256, 511, and level 8 again 256, 3, 511.
	v := mustWave(t, []int{256, 3, 511})
	words := []uint64{5, 4, 4, 4, 4, 4, 4, 5, 6}
	zeros := []int{1, 2, 2, 2, 2, 2, 2, 1, 1}
	for k, level := range v.Levels {
		if !sameBits(level, impl.Bits{N: 3, Words: words[k : k+1]}) || v.Zeros[k] != zeros[k] {
			t.Error("level", k, level, v.Zeros[k])
		}
	}
}

// checkWave expects the levels that the words of the chapter give, and that
// the list is recovered: promise 8, its first part.
func checkWave(t *testing.T, list []int) {
	t.Helper()
	w := mustWave(t, list)
	if want := plainWave(list); !sameWave(w, want) {
		t.Fatalf("WaveOf of %d numbers, %v: %v, not %v", len(list), few(list), w, want)
	}
	if !impl.WaveOk(w) {
		t.Fatalf("WaveOk of the matrix of %d numbers, %v", len(list), few(list))
	}
	if got := impl.WaveList(w); !slices.Equal(got, list) {
		t.Fatalf("WaveList of the matrix of %d numbers, %v, is %v", len(list), few(list), few(got))
	}
	for i, x := range list {
		if got := impl.WaveAt(w, i); got != x {
			t.Fatalf("WaveAt %d of %d numbers, %v, is %d, not %d", i, len(list), few(list), got, x)
		}
	}
	for _, i := range append([]int{len(list), len(list) + 1, len(list) + 63, -len(list)}, farInts...) {
		if got := impl.WaveAt(w, i); got != -1 {
			t.Fatalf("WaveAt %d of %d numbers is %d", i, len(list), got)
		}
	}
}

func TestWaveOfAndBack(t *testing.T) {
	for _, list := range waveLists() {
		checkWave(t, list)
	}
}

func TestWaveOfEmptyList(t *testing.T) {
	for _, list := range [][]int{nil, {}} {
		checkWave(t, list)
		w := mustWave(t, list)
		if w.N != 0 || !slices.Equal(w.Zeros, make([]int, 9)) || len(w.Levels) != 9 {
			t.Fatal(w)
		}
		for _, level := range w.Levels {
			if !isZeroBits(level) {
				t.Error(level)
			}
		}
		for x := -1; x <= topNumber+1; x++ {
			if impl.WaveRank(w, x, 0) != 0 || impl.WaveLess(w, x, 0, 0) != 0 || impl.WaveSelect(w, x, 0) != -1 {
				t.Error("number", x)
			}
			if impl.WaveRank(w, x, 1) != -1 || impl.WaveRank(w, x, -1) != -1 || impl.WaveLess(w, x, 0, 1) != -1 {
				t.Error("number, out of range", x)
			}
		}
		if impl.WaveKth(w, 0, 0, 0) != -1 || impl.WaveAt(w, 0) != -1 || len(impl.WaveList(w)) != 0 {
			t.Error("numbers of no list")
		}
	}
}

// TestWaveOfOneNumber has all numbers, the first and the last included.
func TestWaveOfOneNumber(t *testing.T) {
	for x := range topNumber + 1 {
		checkWave(t, []int{x})
		w := mustWave(t, []int{x})
		for y := -1; y <= topNumber+1; y++ {
			equal, less, first := 0, 0, -1
			if y == x {
				equal, first = 1, 0
			}
			if x < y {
				less = 1
			}
			if impl.WaveRank(w, y, 1) != equal || impl.WaveRank(w, y, 0) != 0 || impl.WaveSelect(w, y, 0) != first || impl.WaveSelect(w, y, 1) != -1 {
				t.Fatal("rank and select", x, y)
			}
			if impl.WaveLess(w, y, 0, 1) != less || impl.WaveLess(w, y, 0, 0) != 0 || impl.WaveLess(w, y, 1, 1) != 0 {
				t.Fatal("less", x, y)
			}
		}
		if impl.WaveKth(w, 0, 1, 0) != x || impl.WaveKth(w, 0, 1, 1) != -1 || impl.WaveKth(w, 1, 1, 0) != -1 {
			t.Fatal("kth", x)
		}
	}
}

func TestWaveOfOneNumberRepeated(t *testing.T) {
	for _, n := range []int{2, 64, 65, impl.MaxWave} {
		for _, x := range []int{0, 1, 255, 256, 510, topNumber} {
			list := slices.Repeat([]int{x}, n)
			checkWave(t, list)
			w := mustWave(t, list)
			for _, i := range []int{0, 1, n / 2, n - 1} {
				if impl.WaveSelect(w, x, i) != i || impl.WaveRank(w, x, i) != i || impl.WaveKth(w, 0, n, i) != x {
					t.Fatal("the number", x, n, i)
				}
				if impl.WaveLess(w, x, i, n) != 0 || impl.WaveLess(w, x+1, i, n) != n-i {
					t.Fatal("less", x, n, i)
				}
				for _, y := range []int{-1, x - 1, x + 1, x ^ 256, topNumber + 1} {
					if impl.WaveSelect(w, y, i) != -1 || impl.WaveRank(w, y, i) != 0 {
						t.Fatal("another number", x, y, n, i)
					}
				}
			}
			if impl.WaveSelect(w, x, n) != -1 || impl.WaveRank(w, x, n) != n || impl.WaveKth(w, 0, n, n) != -1 {
				t.Fatal("the end", x, n)
			}
		}
	}
}

func TestWaveOfRejects(t *testing.T) {
	for _, n := range []int{impl.MaxWave + 1, impl.MaxWave + 2, 1024, impl.MaxBits, impl.MaxBits + 1, 1 << 20} {
		for _, rule := range waveRules[:5] {
			if w, ok := impl.WaveOf(listBy(rule, n)); ok || !isZeroWave(w) {
				t.Errorf("%d numbers: %v", n, ok)
			}
		}
	}
	for _, n := range []int{1, 2, 5, 64, 300, impl.MaxWave} {
		for _, at := range []int{0, n / 2, n - 1} {
			for _, x := range notNumbers {
				list := listBy(waveRules[15], n)
				list[at] = x
				if w, ok := impl.WaveOf(list); ok || !isZeroWave(w) {
					t.Errorf("%d at index %d of %d: %v", x, at, n, ok)
				}
			}
		}
	}
	for x := range 2000 {
		for _, list := range [][]int{{-1 - x}, {topNumber + 1 + x}, {0, -1 - x, topNumber + 1 + x}} {
			if w, ok := impl.WaveOf(list); ok || !isZeroWave(w) {
				t.Errorf("%v: %v", list, ok)
			}
		}
	}
	both := append(make([]int, impl.MaxWave), -1)
	if w, ok := impl.WaveOf(both); ok || !isZeroWave(w) {
		t.Error("too many numbers, and one that is none")
	}
}

// TestWaveOfBehind has numbers behind the list that are out of range.
func TestWaveOfBehind(t *testing.T) {
	for _, n := range []int{0, 1, 5, impl.MaxWave} {
		all := append(listBy(waveRules[15], n), -1, topNumber+1, -1)
		if w, ok := impl.WaveOf(all[:n]); !ok || !sameWave(w, plainWave(all[:n])) {
			t.Error("what is behind the list is read", n)
		}
	}
}

// checkRanks expects of WaveRank and WaveSelect what a count finds, and that
// they are inverse: promise 8, its second part.
func checkRanks(t *testing.T, list []int) {
	t.Helper()
	w := mustWave(t, list)
	for _, x := range asked(list) {
		for _, i := range ends(len(list)) {
			if got, want := impl.WaveRank(w, x, i), plainEqual(list[:i], x); got != want {
				t.Fatalf("WaveRank of %d, the first %d of %v: %d, not %d", x, i, few(list), got, want)
			}
		}
		k := 0
		for i, y := range list {
			if y != x {
				continue
			}
			// All of the first ones, and then some.
			if k < 3 || k%97 == 0 || k == plainEqual(list, x)-1 {
				if got := impl.WaveSelect(w, x, k); got != i {
					t.Fatalf("WaveSelect of %d number %d in %v: %d, not %d", x, k, few(list), got, i)
				}
				if got := impl.WaveRank(w, x, i); got != k {
					t.Fatalf("WaveRank of %d, the first %d of %v: %d, not %d", x, i, few(list), got, k)
				}
				if got := impl.WaveRank(w, x, i+1); got != k+1 {
					t.Fatalf("WaveRank of %d, the first %d of %v: %d, not %d", x, i+1, few(list), got, k+1)
				}
			}
			k++
		}
		for _, far := range append([]int{k, k + 1, k + 64, -2, -k - 1}, farInts...) {
			if got := impl.WaveSelect(w, x, far); got != -1 {
				t.Fatalf("WaveSelect of %d number %d of %d in %v: %d", x, far, k, few(list), got)
			}
		}
		for _, far := range append([]int{len(list) + 1, len(list) + 64, -2}, farInts...) {
			if got := impl.WaveRank(w, x, far); got != -1 {
				t.Fatalf("WaveRank of %d, the first %d of %v: %d", x, far, few(list), got)
			}
		}
	}
}

func TestWaveRankAndSelect(t *testing.T) {
	for _, list := range waveLists() {
		checkRanks(t, list)
	}
}

// everyOther has each even number twice and no odd one.
func everyOther() []int {
	list := make([]int, 512)
	for i := range list {
		list[i] = i * 77 % 256 * 2
	}
	return list
}

// TestWaveOfEveryOtherNumber asks for all numbers, those that do not occur and
// those below 0 and above 511 included.
func TestWaveOfEveryOtherNumber(t *testing.T) {
	list := everyOther()
	w := mustWave(t, list)
	n := len(list)
	for x := -600; x < 1200; x++ {
		equal := plainEqual(list, x)
		if equal != 0 && equal != 2 {
			t.Fatal("the test's list has another count", x, equal)
		}
		if got := impl.WaveRank(w, x, n); got != equal {
			t.Fatal("WaveRank", x, got)
		}
		if got := impl.WaveRank(w, x, 100); got != plainEqual(list[:100], x) {
			t.Fatal("WaveRank of 100", x, got)
		}
		if got := impl.WaveSelect(w, x, 0); got != slices.Index(list, x) {
			t.Fatal("WaveSelect", x, got)
		}
		if got := impl.WaveSelect(w, x, equal); got != -1 {
			t.Fatal("WaveSelect beyond", x, got)
		}
		for _, r := range [][2]int{{0, n}, {0, 100}, {100, 200}, {63, 64}, {n - 1, n}, {77, 77}} {
			if got, want := impl.WaveLess(w, x, r[0], r[1]), plainSmaller(list[r[0]:r[1]], x); got != want {
				t.Fatal("WaveLess", x, r, got, want)
			}
		}
	}
	for _, x := range notNumbers {
		less := 0
		if x > 0 {
			less = n
		}
		if impl.WaveRank(w, x, n) != 0 || impl.WaveSelect(w, x, 0) != -1 || impl.WaveLess(w, x, 0, n) != less || impl.WaveLess(w, x, 5, 5) != 0 {
			t.Fatal("no number of a list", x)
		}
		if impl.WaveRank(w, x, n+1) != -1 || impl.WaveRank(w, x, -1) != -1 || impl.WaveLess(w, x, 1, 0) != -1 || impl.WaveLess(w, x, 0, n+1) != -1 || impl.WaveLess(w, x, -1, n) != -1 {
			t.Fatal("no number of a list, out of range", x)
		}
	}
}

// checkOrder expects of WaveKth the sorted numbers of a range, and that they
// are consistent with WaveLess: promise 8, its last part.
func checkOrder(t *testing.T, list []int, lo, hi int) {
	t.Helper()
	w := mustWave(t, list)
	sorted := slices.Sorted(slices.Values(list[lo:hi]))
	for _, x := range asked(list) {
		if got, want := impl.WaveLess(w, x, lo, hi), plainSmaller(sorted, x); got != want {
			t.Fatalf("WaveLess of %d in %d..%d - 1 of %v: %d, not %d", x, lo, hi, few(list), got, want)
		}
	}
	for k, x := range sorted {
		if len(sorted) > 20 && k%(len(sorted)/10) != 0 && k != len(sorted)-1 {
			continue
		}
		if got := impl.WaveKth(w, lo, hi, k); got != x {
			t.Fatalf("WaveKth %d in %d..%d - 1 of %v: %d, not %d", k, lo, hi, few(list), got, x)
		}
		if below, upTo := impl.WaveLess(w, x, lo, hi), impl.WaveLess(w, x+1, lo, hi); k < below || k >= upTo {
			t.Fatalf("WaveKth %d in %d..%d - 1 of %v is %d, with %d smaller and %d not greater", k, lo, hi, few(list), x, below, upTo)
		}
	}
	for _, k := range append([]int{hi - lo, hi - lo + 1, len(list) + 1, -2, lo - hi - 1}, farInts...) {
		if got := impl.WaveKth(w, lo, hi, k); got != -1 {
			t.Fatalf("WaveKth %d in %d..%d - 1 of %v: %d", k, lo, hi, few(list), got)
		}
	}
}

func TestWaveLessAndKth(t *testing.T) {
	for _, list := range waveLists() {
		for _, lo := range ends(len(list)) {
			for _, hi := range ends(len(list)) {
				if lo <= hi {
					checkOrder(t, list, lo, hi)
				}
			}
		}
	}
}

// TestWaveRangesRefused has a range that is none at one end or the other, with
// numbers and k that are fine without it.
func TestWaveRangesRefused(t *testing.T) {
	for _, n := range []int{0, 1, 2, 64, 300, impl.MaxWave} {
		w := mustWave(t, listBy(waveRules[15], n))
		ranges := [][2]int{{1, 0}, {n + 1, n + 1}, {n, n + 1}, {0, n + 1}, {-1, n}, {-1, 0}, {-1, -1}, {n, -1}, {n + 1, n}, {n, n - 1}, {math.MinInt, math.MaxInt}, {math.MaxInt, math.MinInt}}
		for _, far := range farInts {
			ranges = append(ranges, [2]int{far, n}, [2]int{0, far}, [2]int{far, far})
		}
		for _, r := range ranges {
			for _, x := range []int{-1, 0, 1, 256, topNumber, topNumber + 1, math.MinInt, math.MaxInt} {
				if got := impl.WaveLess(w, x, r[0], r[1]); got != -1 {
					t.Fatalf("WaveLess of %d in %v of %d numbers: %d", x, r, n, got)
				}
				if got := impl.WaveKth(w, r[0], r[1], x); got != -1 {
					t.Fatalf("WaveKth %d in %v of %d numbers: %d", x, r, n, got)
				}
			}
		}
	}
}

// TestWaveOfAnyLevels puts levels together by themselves: each such matrix is
// that of a list.
func TestWaveOfAnyLevels(t *testing.T) {
	for _, n := range []int{0, 1, 2, 3, 64, 65, 300, impl.MaxWave} {
		patterns := bitPatterns(n)
		for first := range patterns {
			for step := range patterns {
				w := impl.Wave{N: n}
				for k := range 9 {
					row := patterns[(first+step*k+k*k/5)%len(patterns)]
					w.Levels = append(w.Levels, mustBits(t, row))
					w.Zeros = append(w.Zeros, plainEqual(row, 0))
				}
				if !impl.WaveOk(w) {
					t.Fatal("WaveOk", n, first, step)
				}
				list := impl.WaveList(w)
				if len(list) != n || !sameWave(mustWave(t, list), w) {
					t.Fatal("a matrix and its list", n, first, step, few(list))
				}
			}
		}
	}
}

// TestWaveOfAllSmallMatrices has every matrix of one number, and every one of
// two numbers that has only two levels with bits 1.
func TestWaveOfAllSmallMatrices(t *testing.T) {
	for x := range 512 {
		w := impl.Wave{N: 1}
		for value := 256; value > 0; value /= 2 {
			bit := x / value % 2
			w.Levels, w.Zeros = append(w.Levels, impl.Bits{N: 1, Words: []uint64{uint64(bit)}}), append(w.Zeros, 1-bit)
		}
		if !impl.WaveOk(w) || !slices.Equal(impl.WaveList(w), []int{x}) {
			t.Fatal(x)
		}
	}
	for j := range 9 {
		for k := range j {
			for bits := range 16 {
				w := plainWave([]int{0, 0})
				upper, lower := bits%4, bits/4
				w.Levels[k].Words[0], w.Zeros[k] = uint64(upper), 2-upper%2-upper/2
				w.Levels[j].Words[0], w.Zeros[j] = uint64(lower), 2-lower%2-lower/2
				if list := impl.WaveList(w); len(list) != 2 || !sameWave(plainWave(list), w) {
					t.Fatal(k, j, upper, lower, list)
				}
			}
		}
	}
}

// refuseWave expects that every function refuses the matrix.
func refuseWave(t *testing.T, name string, w impl.Wave) {
	t.Helper()
	if impl.WaveOk(w) {
		t.Fatalf("%s: WaveOk", name)
	}
	if list := impl.WaveList(w); len(list) != 0 {
		t.Errorf("%s: WaveList has %d numbers", name, len(list))
	}
	for _, i := range []int{-1, 0, 1, w.N - 1, w.N} {
		for _, x := range []int{-1, 0, 1, 256, topNumber, topNumber + 1} {
			if impl.WaveAt(w, i) != -1 || impl.WaveRank(w, x, i) != -1 || impl.WaveSelect(w, x, i) != -1 {
				t.Fatalf("%s: the number %d, index %d", name, x, i)
			}
			if impl.WaveLess(w, x, i, w.N) != -1 || impl.WaveLess(w, x, 0, i) != -1 || impl.WaveLess(w, x, i, i) != -1 {
				t.Fatalf("%s: less than %d, index %d", name, x, i)
			}
			if impl.WaveKth(w, 0, w.N, i) != -1 || impl.WaveKth(w, i, w.N, 0) != -1 || impl.WaveKth(w, 0, i, 0) != -1 {
				t.Fatalf("%s: WaveKth, index %d", name, i)
			}
		}
	}
}

// TestWaveChanged changes one thing of a valid matrix.
func TestWaveChanged(t *testing.T) {
	for _, n := range []int{0, 1, 2, 63, 64, 65, 300, impl.MaxWave} {
		for _, rule := range waveRules {
			w := plainWave(listBy(rule, n))
			if !impl.WaveOk(w) {
				t.Fatal("the test has no valid matrix", n)
			}
			for _, other := range append([]int{n - 1, n + 1, n + 64, n - 64, -n - 1, n + 1<<32}, farInts...) {
				v := cloneWave(w)
				v.N = other
				refuseWave(t, "another N", v)
			}
			for _, k := range []int{0, 1, 4, 7, 8} {
				for _, zeros := range append([]int{w.Zeros[k] - 1, w.Zeros[k] + 1, w.Zeros[k] + 1<<32, n + 1}, farInts...) {
					v := cloneWave(w)
					v.Zeros[k] = zeros
					refuseWave(t, "another number of zeros", v)
				}
				if ones := n - w.Zeros[k]; ones != w.Zeros[k] {
					v := cloneWave(w)
					v.Zeros[k] = ones
					refuseWave(t, "the number of ones", v)
				}
				for _, i := range []int{0, n / 2, n - 1} {
					if i < 0 || i >= n {
						continue
					}
					v := cloneWave(w)
					v.Levels[k].Words[i/64] ^= 1 << (i % 64)
					refuseWave(t, "a changed bit", v)
				}
			}
		}
	}
}

// TestWaveOfOtherCounts has too few or too many levels or zeros.
func TestWaveOfOtherCounts(t *testing.T) {
	for _, n := range []int{0, 1, 5, 64, impl.MaxWave} {
		for _, rule := range waveRules {
			w := plainWave(listBy(rule, n))
			for _, count := range []int{0, 1, 7, 8, 10, 11, 18, 64} {
				levels := slices.Repeat(w.Levels, 8)[:count]
				zeros := slices.Repeat(w.Zeros, 8)[:count]
				refuseWave(t, "another number of levels", impl.Wave{N: n, Zeros: w.Zeros, Levels: levels})
				refuseWave(t, "another number of zeros", impl.Wave{N: n, Zeros: zeros, Levels: w.Levels})
				refuseWave(t, "another number of both", impl.Wave{N: n, Zeros: zeros, Levels: levels})
			}
			refuseWave(t, "spare levels", impl.Wave{N: n, Zeros: w.Zeros, Levels: w.Levels[:8]})
			refuseWave(t, "spare zeros", impl.Wave{N: n, Zeros: w.Zeros[:8], Levels: w.Levels})
		}
	}
	refuseWave(t, "the zero value", impl.Wave{})
}

// uniformWave has the same level nine times.
func uniformWave(n int, level impl.Bits, zeros int) impl.Wave {
	return impl.Wave{N: n, Zeros: slices.Repeat([]int{zeros}, 9), Levels: slices.Repeat([]impl.Bits{level}, 9)}
}

// TestWaveOfBadLevels has levels that are no valid bit vectors, or not of N
// bits, one of them or all.
func TestWaveOfBadLevels(t *testing.T) {
	for name, level := range invalidBits() {
		for _, zeros := range []int{level.N, 0, 1, -1, impl.Rank(level, 0, level.N)} {
			refuseWave(t, name, uniformWave(level.N, level, zeros))
		}
		for _, n := range []int{0, 1, 4, 63, 64, 65, impl.MaxWave} {
			for k := range 9 {
				for _, zeros := range []int{n, n - 1, 0, -1} {
					w := plainWave(make([]int, n))
					w.Levels[k], w.Zeros[k] = level, zeros
					refuseWave(t, name, w)
				}
			}
		}
	}
	for _, n := range []int{0, 1, 63, 64, 65, 300, impl.MaxWave} {
		for k := range 9 {
			for _, other := range []int{0, 1, n - 1, n + 1, n + 64, 2 * n, impl.MaxBits} {
				if other == n || other < 0 {
					continue
				}
				w := plainWave(make([]int, n))
				w.Levels[k] = mustBits(t, make([]int, other))
				refuseWave(t, "a level of other bits", w)
				w.Zeros[k] = other
				refuseWave(t, "a level of other bits, all 0", w)
				w = plainWave(slices.Repeat([]int{topNumber}, n))
				w.Levels[k] = mustBits(t, slices.Repeat([]int{1}, other))
				refuseWave(t, "a level of other bits, all 1", w)
			}
		}
	}
}

// TestWaveBeyondTheLimit has valid levels of more than MaxWave bits.
func TestWaveBeyondTheLimit(t *testing.T) {
	for _, n := range []int{impl.MaxWave + 1, impl.MaxWave + 2, 1024, impl.MaxBits} {
		refuseWave(t, "too many numbers 0", uniformWave(n, mustBits(t, make([]int, n)), n))
		refuseWave(t, "too many numbers 511", uniformWave(n, mustBits(t, slices.Repeat([]int{1}, n)), 0))
	}
	w := uniformWave(impl.MaxWave, mustBits(t, make([]int, impl.MaxWave)), impl.MaxWave)
	if !impl.WaveOk(w) || !slices.Equal(impl.WaveList(w), make([]int, impl.MaxWave)) {
		t.Error("MaxWave numbers 0")
	}
}

// askAll calls all functions that have a matrix.
func askAll(w impl.Wave, x int) {
	impl.WaveOk(w)
	impl.WaveList(w)
	impl.WaveAt(w, w.N/2)
	impl.WaveRank(w, x, w.N)
	impl.WaveSelect(w, x, 0)
	impl.WaveLess(w, x, 0, w.N)
	impl.WaveKth(w, 0, w.N, w.N/2)
}

func TestWaveLeavesArgumentsAlone(t *testing.T) {
	for _, n := range []int{0, 1, 5, 64, 300, impl.MaxWave, impl.MaxWave + 1} {
		for _, rule := range waveRules {
			all := append(listBy(rule, n), 1, topNumber, -1, 512)
			before := slices.Clone(all)
			w, ok := impl.WaveOf(all[:n])
			if !slices.Equal(all, before) || ok != (n <= impl.MaxWave) {
				t.Fatal("the list is changed, or what is behind it", n)
			}
			if !ok {
				continue
			}
			// Spare levels, zeros and words behind the matrix.
			w.Levels = append(w.Levels, w.Levels...)
			w.Zeros = append(w.Zeros, 1, 2, 3, 4)
			for k := range w.Levels {
				w.Levels[k].Words = append(slices.Clone(w.Levels[k].Words), 5, 1<<63)
			}
			whole := cloneWave(w)
			part := w
			part.Levels, part.Zeros = slices.Clone(w.Levels[:9]), w.Zeros[:9]
			for k := range part.Levels {
				part.Levels[k].Words = part.Levels[k].Words[:(n+63)/64]
			}
			if !impl.WaveOk(part) || !slices.Equal(impl.WaveList(part), all[:n]) {
				t.Fatal("what is behind the matrix is read", n)
			}
			for _, x := range []int{all[n/2], 0, topNumber, -1, 512} {
				askAll(part, x)
				askAll(w, x)
			}
			if !sameWave(w, whole) || !sameWave(part, plainWave(all[:n])) {
				t.Fatal("the matrix is changed, or what is behind it", n)
			}
		}
	}
}

func TestWaveResultsAreTheirOwn(t *testing.T) {
	for _, n := range []int{1, 5, 64, 300, impl.MaxWave} {
		for _, rule := range waveRules {
			list := listBy(rule, n)
			w, v := mustWave(t, list), mustWave(t, list)
			want := plainWave(list)
			for k := range w.Levels {
				spoil(w.Levels[k].Words)
				for j := k + 1; j < len(w.Levels); j++ {
					if !sameBits(w.Levels[j], want.Levels[j]) {
						t.Fatal("two levels share memory", n, k, j)
					}
				}
			}
			spoilNumbers(w.Zeros)
			clear(w.Levels)
			if !sameWave(v, want) || !slices.Equal(list, listBy(rule, n)) {
				t.Fatal("a matrix shares memory with its list or with another one", n)
			}
			first, second := impl.WaveList(v), impl.WaveList(v)
			spoilNumbers(first)
			if !slices.Equal(second, list) || !sameWave(v, want) {
				t.Fatal("WaveList shares memory", n)
			}
			spoilNumbers(list)
			if !sameWave(v, want) || !sameWave(mustWave(t, second), want) {
				t.Fatal("a list or a matrix is kept", n)
			}
		}
	}
}
