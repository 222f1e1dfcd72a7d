package tests

import (
	"math"
	"slices"
	"testing"

	"loop.example/g00688/impl"
)

// bitLengths are multiples of 64, their neighbors, and the limits.
var bitLengths = []int{0, 1, 2, 7, 63, 64, 65, 127, 128, 129, 200, 640, 4991, 4992, 4993, impl.MaxBits - 1, impl.MaxBits}

// farInts are out of range as a bit, as an index of one and as a number of bits.
var farInts = []int{math.MinInt, math.MinInt + 63, -64, -63, -1, impl.MaxBits + 1, 1 << 32, math.MaxInt - 63, math.MaxInt}

// bitPatterns returns lists of n numbers 0 and 1: equal ones, alternating
// ones, single exceptions at the ends, and irregular ones.
func bitPatterns(n int) [][]int {
	rules := []func(i int) bool{
		func(i int) bool { return false },
		func(i int) bool { return true },
		func(i int) bool { return i%2 == 0 },
		func(i int) bool { return i == n-1 },
		func(i int) bool { return i != n-1 },
		func(i int) bool { return i == 0 || i%64 == 63 },
		func(i int) bool { return (i*i*7+i/3)%11 < 4 },
		func(i int) bool { return (i/64)%2 == 1 },
	}
	var lists [][]int
	for _, rule := range rules {
		list := make([]int, n)
		for i := range list {
			if rule(i) {
				list[i] = 1
			}
		}
		lists = append(lists, list)
	}
	return lists
}

func mustBits(t *testing.T, list []int) impl.Bits {
	t.Helper()
	v, ok := impl.BitsOf(list)
	if !ok {
		t.Fatalf("BitsOf refuses a list of %d bits", len(list))
	}
	return v
}

func sameBits(v, w impl.Bits) bool { return v.N == w.N && slices.Equal(v.Words, w.Words) }

func isZeroBits(v impl.Bits) bool { return v.N == 0 && len(v.Words) == 0 }

// invalidBits returns a valid vector broken in each of the ways that BitsOk
// has to reject.
func invalidBits() map[string]impl.Bits {
	return map[string]impl.Bits{
		"N is -1":                     {N: -1},
		"N is -63":                    {N: -63},
		"N is -64 with a word":        {N: -64, Words: make([]uint64, 1)},
		"N is the smallest integer":   {N: math.MinInt},
		"N is the greatest integer":   {N: math.MaxInt},
		"N overflows when rounded up": {N: math.MaxInt - 62, Words: make([]uint64, 1)},
		"N is MaxBits + 1":            {N: impl.MaxBits + 1, Words: make([]uint64, 79)},
		"N is 79 words":               {N: 79 * 64, Words: make([]uint64, 79)},
		"no bits, a word":             {N: 0, Words: make([]uint64, 1)},
		"a bit, no word":              {N: 1},
		"a bit, two words":            {N: 1, Words: make([]uint64, 2)},
		"64 bits, no word":            {N: 64},
		"64 bits, two words":          {N: 64, Words: make([]uint64, 2)},
		"65 bits, a word":             {N: 65, Words: make([]uint64, 1)},
		"65 bits, three words":        {N: 65, Words: make([]uint64, 3)},
		"MaxBits bits, 78 words":      {N: impl.MaxBits, Words: make([]uint64, 78)},
		"MaxBits bits, 80 words":      {N: impl.MaxBits, Words: make([]uint64, 80)},
		"bit after a single one":      {N: 1, Words: []uint64{2}},
		"top bit after 63 bits":       {N: 63, Words: []uint64{1 << 63}},
		"bit 4 after 4 bits":          {N: 4, Words: []uint64{13 + 16}},
		"top bit after 65 bits":       {N: 65, Words: []uint64{5, 1 << 63}},
		"bit after MaxBits bits":      {N: impl.MaxBits, Words: append(make([]uint64, 78), 1<<8)},
		"too few words, spare behind": {N: 65, Words: make([]uint64, 2)[:1]},
	}
}

func TestBitsExamples(t *testing.T) {
	if impl.MaxBits != 5000 {
		t.Error("MaxBits", impl.MaxBits)
	}
	v := mustBits(t, []int{1, 0, 1, 1})
	if !slices.Equal(v.Words, []uint64{13}) || v.N != 4 {
		t.Error(v)
	}
	if got := impl.Rank(v, 1, 3); got != 2 {
		t.Error("Rank", got)
	}
	if got := impl.Select(v, 1, 2); got != 3 {
		t.Error("Select", got)
	}
}

func TestBitsOfAndList(t *testing.T) {
	for _, n := range bitLengths {
		for k, list := range bitPatterns(n) {
			v := mustBits(t, list)
			words := make([]uint64, (n+63)/64)
			for i, bit := range list {
				words[i/64] += uint64(bit) << (i % 64)
			}
			if !sameBits(v, impl.Bits{N: n, Words: words}) || !impl.BitsOk(v) {
				t.Errorf("BitsOf, %d bits, pattern %d: %v", n, k, v)
			}
			if !slices.Equal(impl.BitsList(v), list) {
				t.Errorf("BitsList, %d bits, pattern %d", n, k)
			}
		}
	}
	if v, ok := impl.BitsOf(nil); !ok || !isZeroBits(v) || len(impl.BitsList(v)) != 0 {
		t.Error("no bits", v, ok)
	}
}

func TestBitsOfRejects(t *testing.T) {
	if v, ok := impl.BitsOf(make([]int, impl.MaxBits+1)); ok || !isZeroBits(v) {
		t.Error("MaxBits + 1 numbers", v, ok)
	}
	for _, x := range append([]int{2, 3, 255, 256, 257}, farInts...) {
		for _, n := range []int{1, 64, 65, impl.MaxBits} {
			for _, i := range []int{0, n / 2, n - 1} {
				list := bitPatterns(n)[1]
				list[i] = x
				if v, ok := impl.BitsOf(list); ok || !isZeroBits(v) {
					t.Errorf("%d at index %d of %d: %v %v", x, i, n, v, ok)
				}
			}
		}
	}
}

func TestBitsOk(t *testing.T) {
	for name, v := range invalidBits() {
		if impl.BitsOk(v) {
			t.Error(name)
		}
	}
	full := make([]uint64, 79)
	for j := range full {
		full[j] = math.MaxUint64
	}
	full[78] = 255
	valid := []impl.Bits{
		{},
		{Words: []uint64{}},
		{N: 1, Words: []uint64{1}},
		{N: 63, Words: []uint64{1<<63 - 1}},
		{N: 64, Words: []uint64{math.MaxUint64}},
		{N: 65, Words: []uint64{math.MaxUint64, 1}},
		{N: 64, Words: []uint64{1, 2, 3}[:1]},
		{N: impl.MaxBits, Words: full},
	}
	for _, v := range valid {
		if !impl.BitsOk(v) {
			t.Error(v)
		}
	}
}

func TestBitsInvalidVector(t *testing.T) {
	good := mustBits(t, []int{1, 0, 1})
	for name, v := range invalidBits() {
		if list := impl.BitsList(v); list != nil {
			t.Error("BitsList,", name, list)
		}
		if f := impl.BitsFlip(v); !isZeroBits(f) {
			t.Error("BitsFlip,", name, f)
		}
		for _, pair := range [][2]impl.Bits{{v, good}, {good, v}, {v, v}, {v, {}}, {{}, v}} {
			if j, ok := impl.BitsJoin(pair[0], pair[1]); ok || !isZeroBits(j) {
				t.Error("BitsJoin,", name, j)
			}
		}
		for _, i := range []int{0, 1, v.N, v.N - 1, -1} {
			if got := impl.BitAt(v, i); got != -1 {
				t.Error("BitAt,", name, i, got)
			}
			for _, bit := range []int{0, 1} {
				if got := impl.Rank(v, bit, i); got != -1 {
					t.Error("Rank,", name, bit, i, got)
				}
				if got := impl.Select(v, bit, i); got != -1 {
					t.Error("Select,", name, bit, i, got)
				}
			}
		}
	}
}

func TestBitAt(t *testing.T) {
	for _, n := range bitLengths {
		for k, list := range bitPatterns(n) {
			v := mustBits(t, list)
			for i, bit := range list {
				if got := impl.BitAt(v, i); got != bit {
					t.Fatalf("%d bits, pattern %d, index %d: %d", n, k, i, got)
				}
			}
			for _, i := range append([]int{n, n + 1, n + 64}, farInts...) {
				if got := impl.BitAt(v, i); got != -1 {
					t.Errorf("%d bits, pattern %d, index %d: %d", n, k, i, got)
				}
			}
		}
	}
}

func TestRankAndSelect(t *testing.T) {
	for _, n := range bitLengths {
		for k, list := range bitPatterns(n) {
			v := mustBits(t, list)
			var seen [2]int
			for i, bit := range list {
				for b := range seen {
					if got := impl.Rank(v, b, i); got != seen[b] {
						t.Fatalf("%d bits, pattern %d: Rank of %d and %d is %d, not %d", n, k, b, i, got, seen[b])
					}
				}
				if got := impl.Select(v, bit, seen[bit]); got != i {
					t.Fatalf("%d bits, pattern %d: Select of %d and %d is %d, not %d", n, k, bit, seen[bit], got, i)
				}
				seen[bit]++
			}
			for b, count := range seen {
				if got := impl.Rank(v, b, n); got != count {
					t.Errorf("%d bits, pattern %d: Rank of all %d is %d, not %d", n, k, b, got, count)
				}
				for _, x := range []int{count, count + 1, count + 64, n, n + 1} {
					if got := impl.Select(v, b, x); got != -1 {
						t.Errorf("%d bits, pattern %d: Select of %d and %d is %d", n, k, b, x, got)
					}
				}
			}
		}
	}
}

func TestRankAndSelectReject(t *testing.T) {
	for _, n := range bitLengths {
		v := mustBits(t, bitPatterns(n)[2])
		for _, x := range append([]int{n + 1, n + 64}, farInts...) {
			for _, bit := range []int{0, 1} {
				if got := impl.Rank(v, bit, x); got != -1 {
					t.Error("Rank", n, bit, x, got)
				}
				if got := impl.Select(v, bit, x); got != -1 {
					t.Error("Select", n, bit, x, got)
				}
			}
		}
		for _, bit := range append([]int{2, 3, 256, 257}, farInts...) {
			if got := impl.Rank(v, bit, 0); got != -1 {
				t.Error("Rank, no bit", n, bit, got)
			}
			if got := impl.Select(v, bit, 0); got != -1 {
				t.Error("Select, no bit", n, bit, got)
			}
		}
	}
}

// Promise 2, its first half, told by the functions alone.
func TestSelectedBitHasItsRank(t *testing.T) {
	for _, n := range bitLengths {
		for k, list := range bitPatterns(n) {
			v := mustBits(t, list)
			for bit := range 2 {
				for x := range impl.Rank(v, bit, n) {
					i := impl.Select(v, bit, x)
					if impl.BitAt(v, i) != bit || impl.Rank(v, bit, i) != x {
						t.Fatalf("%d bits, pattern %d: bit %d number %d", n, k, bit, x)
					}
				}
			}
		}
	}
}

func TestBitsJoin(t *testing.T) {
	lengths := []int{0, 1, 63, 64, 65, 127, 128, 200}
	for _, n := range lengths {
		for _, m := range lengths {
			for _, a := range bitPatterns(n) {
				for _, b := range bitPatterns(m) {
					checkJoin(t, a, b)
				}
			}
		}
	}
	for _, n := range []int{0, 1, 2500, 4992, 4999, impl.MaxBits} {
		for k, a := range bitPatterns(n) {
			checkJoin(t, a, bitPatterns(impl.MaxBits - n)[k])
		}
	}
}

func checkJoin(t *testing.T, a, b []int) {
	t.Helper()
	v, w := mustBits(t, a), mustBits(t, b)
	j, ok := impl.BitsJoin(v, w)
	if !ok || !impl.BitsOk(j) || !sameBits(j, mustBits(t, slices.Concat(a, b))) {
		t.Fatalf("%d and %d bits: %v %v", v.N, w.N, j, ok)
	}
	for bit := range 2 {
		left, right := impl.Rank(v, bit, v.N), impl.Rank(w, bit, w.N)
		for i := 0; i <= j.N; i += 1 + j.N/97 {
			want := left
			if i <= v.N {
				want = impl.Rank(v, bit, i)
			} else {
				want += impl.Rank(w, bit, i-v.N)
			}
			if got := impl.Rank(j, bit, i); got != want {
				t.Fatalf("%d and %d bits: Rank of %d and %d is %d, not %d", v.N, w.N, bit, i, got, want)
			}
		}
		for k := 0; k < left+right; k += 1 + j.N/97 {
			want := impl.Select(v, bit, k)
			if k >= left {
				want = v.N + impl.Select(w, bit, k-left)
			}
			if got := impl.Select(j, bit, k); got != want {
				t.Fatalf("%d and %d bits: Select of %d and %d is %d, not %d", v.N, w.N, bit, k, got, want)
			}
		}
	}
}

func TestBitsJoinTooLong(t *testing.T) {
	for _, n := range []int{1, 2, 64, 2500, 4936, 4937, impl.MaxBits} {
		v := mustBits(t, make([]int, n))
		w := mustBits(t, make([]int, impl.MaxBits+1-n))
		for _, pair := range [][2]impl.Bits{{v, w}, {w, v}} {
			if j, ok := impl.BitsJoin(pair[0], pair[1]); ok || !isZeroBits(j) {
				t.Error(n, j, ok)
			}
		}
	}
}

func TestBitsFlip(t *testing.T) {
	for _, n := range bitLengths {
		for k, list := range bitPatterns(n) {
			v := mustBits(t, list)
			opposite := slices.Clone(list)
			for i := range opposite {
				opposite[i] = 1 - opposite[i]
			}
			f := impl.BitsFlip(v)
			if !impl.BitsOk(f) || !sameBits(f, mustBits(t, opposite)) {
				t.Fatalf("%d bits, pattern %d: %v", n, k, f)
			}
			if !sameBits(impl.BitsFlip(f), v) {
				t.Errorf("%d bits, pattern %d: flipped twice", n, k)
			}
			for bit := range 2 {
				for i := 0; i <= n; i += 1 + n/97 {
					if impl.Rank(f, bit, i) != impl.Rank(v, 1-bit, i) {
						t.Fatalf("%d bits, pattern %d: Rank of %d and %d", n, k, bit, i)
					}
					if impl.Select(f, bit, i) != impl.Select(v, 1-bit, i) {
						t.Fatalf("%d bits, pattern %d: Select of %d and %d", n, k, bit, i)
					}
				}
			}
		}
	}
}

// spareBits returns a vector whose words are followed by spare capacity, and
// the whole memory behind it.
func spareBits(t *testing.T, list []int) (impl.Bits, []uint64) {
	t.Helper()
	v := mustBits(t, list)
	all := append(slices.Clone(v.Words), math.MaxUint64, math.MaxUint64)
	return impl.Bits{N: v.N, Words: all[:len(v.Words)]}, all
}

func TestBitsLeaveArgumentsAlone(t *testing.T) {
	for _, n := range []int{0, 1, 64, 65, 200} {
		for _, list := range bitPatterns(n) {
			v, left := spareBits(t, list)
			w, right := spareBits(t, list)
			leftBefore, rightBefore := slices.Clone(left), slices.Clone(right)
			if !impl.BitsOk(v) || !slices.Equal(impl.BitsList(v), list) {
				t.Fatal("the spare capacity is read", n)
			}
			impl.BitAt(v, 0)
			for bit := range 2 {
				impl.Rank(v, bit, n)
				impl.Select(v, bit, 0)
			}
			joined, _ := impl.BitsJoin(v, w)
			flipped := impl.BitsFlip(v)
			again := impl.BitsFlip(v)
			for _, result := range []impl.Bits{joined, flipped} {
				words := result.Words[:cap(result.Words)]
				for j := range words {
					words[j] = 77
				}
			}
			if !slices.Equal(left, leftBefore) || !slices.Equal(right, rightBefore) {
				t.Fatal("an argument is changed", n)
			}
			if !impl.BitsOk(again) || !sameBits(impl.BitsFlip(again), v) {
				t.Fatal("two results share memory", n)
			}
		}
	}
}

func TestBitsJoinWithNothingIsACopy(t *testing.T) {
	v, all := spareBits(t, bitPatterns(65)[6])
	before := slices.Clone(all)
	for _, pair := range [][2]impl.Bits{{v, {}}, {{}, v}} {
		j, ok := impl.BitsJoin(pair[0], pair[1])
		if !ok || !sameBits(j, v) {
			t.Fatal(j, ok)
		}
		j.Words[0] ^= 1
		if !slices.Equal(all, before) {
			t.Fatal("the result shares memory with an argument")
		}
	}
}

func TestBitsOfLeavesTheListAlone(t *testing.T) {
	list := bitPatterns(70)[6]
	all := append(slices.Clone(list), 5, 5)
	before := slices.Clone(all)
	v, ok := impl.BitsOf(all[:70])
	if !ok || v.N != 70 || !slices.Equal(all, before) {
		t.Fatal(v, ok)
	}
	impl.BitsList(v)[0] = 9
	if !slices.Equal(impl.BitsList(v), list) {
		t.Fatal("a list shares memory")
	}
}
