package tests

import (
	"bytes"
	"math"
	"slices"
	"testing"

	"loop.example/g00688/impl"
)

// farWidths are no widths of packed integers.
var farWidths = []int{math.MinInt, math.MinInt + 1, -64, -32, -1, impl.MaxWide + 1, 63, 64, 65, 1 << 32, 1 << 62, math.MaxInt}

// mostNumbers returns how many numbers of a width can be packed.
func mostNumbers(width int) int {
	if width == 0 {
		return impl.MaxBits
	}
	return impl.MaxBits / width
}

// packLengths returns numbers of numbers of a width: none, few, one word and
// its neighbors, and the limits.
func packLengths(width int) []int {
	most := mostNumbers(width)
	lengths := []int{0, 1, 2, 3, most - 1, most}
	if width > 0 {
		lengths = append(lengths, 64/width, 64/width+1, 128/width+1)
	}
	return lengths
}

// packPatterns returns lists of n numbers of a width: the smallest and the
// greatest ones, these in turn, single exceptions at the ends, and irregular
// ones.
func packPatterns(n, width int) [][]int {
	top := 1<<width - 1
	last := func(i int) int {
		if i == n-1 {
			return 1
		}
		return 0
	}
	rules := []func(i int) int{
		func(i int) int { return 0 },
		func(i int) int { return top },
		func(i int) int { return top * (i % 2) },
		func(i int) int { return top * last(i) },
		func(i int) int { return top * (1 - last(i)) },
		func(i int) int { return i & top },
		func(i int) int { return (i*i*2654435761 + 40503*i + 12345) >> 3 & top },
		func(i int) int { return 1 << (i % 33) & top },
	}
	var lists [][]int
	for _, rule := range rules {
		list := make([]int, n)
		for i := range list {
			list[i] = rule(i)
		}
		lists = append(lists, list)
	}
	return lists
}

// digitsOf returns the bits that the document describes, one by one.
func digitsOf(list []int, width int) []int {
	var digits []int
	for _, n := range list {
		for range width {
			digits = append(digits, n%2)
			n /= 2
		}
	}
	return digits
}

func mustPack(t *testing.T, list []int, width int) impl.Packed {
	t.Helper()
	p, ok := impl.PackOf(list, width)
	if !ok {
		t.Fatalf("PackOf refuses %d numbers of the width %d", len(list), width)
	}
	return p
}

func samePacked(p, q impl.Packed) bool {
	return p.Width == q.Width && p.N == q.N && sameBits(p.Bits, q.Bits)
}

func isZeroPacked(p impl.Packed) bool { return p.Width == 0 && p.N == 0 && isZeroBits(p.Bits) }

// invalidPacked returns values that PackOk has to reject.
func invalidPacked(t *testing.T) map[string]impl.Packed {
	zeros := func(n int) impl.Bits { return mustBits(t, make([]int, n)) }
	return map[string]impl.Packed{
		"no bits for two numbers":        {Width: 3, N: 2},
		"a bit too few":                  {Width: 3, N: 2, Bits: zeros(5)},
		"a bit too many":                 {Width: 3, N: 2, Bits: zeros(7)},
		"bits, no numbers":               {Width: 3, Bits: zeros(3)},
		"a number of the width 0, a bit": {N: 1, Bits: zeros(1)},
		"bits, nothing else":             {Bits: zeros(64)},
		"width -1":                       {Width: -1, N: 1},
		"width -1, no numbers":           {Width: -1},
		"N is -1":                        {Width: 1, N: -1},
		"N is -1, the width 0":           {N: -1},
		"both negative":                  {Width: -2, N: -3, Bits: zeros(6)},
		"width MaxWide + 1":              {Width: impl.MaxWide + 1, N: 1, Bits: zeros(impl.MaxWide + 1)},
		"width MaxWide + 1, no numbers":  {Width: impl.MaxWide + 1},
		"width 64, a word":               {Width: 64, N: 1, Bits: zeros(64)},
		"width 5000":                     {Width: impl.MaxBits, N: 1, Bits: zeros(impl.MaxBits)},
		"MaxBits + 1 of the width 0":     {N: impl.MaxBits + 1},
		"greatest N, the width 0":        {N: math.MaxInt},
		"smallest N, the width 0":        {N: math.MinInt},
		"MaxBits + 1 of the width 1":     {Width: 1, N: impl.MaxBits + 1, Bits: zeros(impl.MaxBits)},
		"MaxBits + 1 bits":               {Width: 1, N: impl.MaxBits + 1, Bits: impl.Bits{N: impl.MaxBits + 1, Words: make([]uint64, 79)}},
		"157 of the width 32":            {Width: 32, N: 157, Bits: impl.Bits{N: 157 * 32, Words: make([]uint64, 79)}},
		"product overflows to 0":         {Width: 32, N: 1 << 59},
		"product overflows to a few":     {Width: 32, N: 1<<59 + 2, Bits: zeros(64)},
		"product of the smallest N is 0": {Width: 2, N: math.MinInt},
		"great width, product 0":         {Width: 1 << 62, N: 4},
		"smallest width, product 0":      {Width: math.MinInt, N: 2},
		"greatest width, no numbers":     {Width: math.MaxInt},
		"bit after the last one":         {Width: 3, N: 2, Bits: impl.Bits{N: 6, Words: []uint64{21 + 64}}},
		"top bit after the last one":     {Width: 3, N: 2, Bits: impl.Bits{N: 6, Words: []uint64{21 + 1<<63}}},
		"no word":                        {Width: 3, N: 2, Bits: impl.Bits{N: 6}},
		"a word too many":                {Width: 3, N: 2, Bits: impl.Bits{N: 6, Words: []uint64{21, 0}}},
		"a word, the width 0":            {N: 2, Bits: impl.Bits{Words: []uint64{0}}},
		"too few words, spare behind":    {Width: 32, N: 3, Bits: impl.Bits{N: 96, Words: make([]uint64, 2)[:1]}},
	}
}

func TestPackExamples(t *testing.T) {
	if impl.MaxWide != 32 {
		t.Error("MaxWide", impl.MaxWide)
	}
	p := mustPack(t, []int{5, 2}, 3)
	if !samePacked(p, impl.Packed{Width: 3, N: 2, Bits: impl.Bits{N: 6, Words: []uint64{21}}}) {
		t.Error(p)
	}
	if got := impl.WidthOf(8); got != 4 {
		t.Error("WidthOf", got)
	}
	if got := impl.VarOf(300); !bytes.Equal(got, []byte{172, 2}) {
		t.Error("VarOf", got)
	}
}

// Promise 3, its first half, with every width and the most numbers of it.
func TestPackOfAndBack(t *testing.T) {
	for width := 0; width <= impl.MaxWide; width++ {
		for _, n := range packLengths(width) {
			for k, list := range packPatterns(n, width) {
				p := mustPack(t, list, width)
				want := impl.Packed{Width: width, N: n, Bits: mustBits(t, digitsOf(list, width))}
				if !samePacked(p, want) || !impl.PackOk(p) {
					t.Fatalf("width %d, %d numbers, pattern %d: %v", width, n, k, p)
				}
				if !slices.Equal(impl.PackList(p), list) {
					t.Fatalf("PackList, width %d, %d numbers, pattern %d", width, n, k)
				}
				for i, x := range list {
					if got := impl.PackAt(p, i); got != x {
						t.Fatalf("PackAt, width %d, %d numbers, pattern %d: index %d is %d, not %d", width, n, k, i, got, x)
					}
				}
				for _, i := range append([]int{n, n + 1, n + 64}, farInts...) {
					if got := impl.PackAt(p, i); got != -1 {
						t.Fatalf("PackAt, width %d, %d numbers: index %d is %d", width, n, i, got)
					}
				}
			}
		}
	}
}

func TestPackOfEmptyList(t *testing.T) {
	for width := 0; width <= impl.MaxWide; width++ {
		for _, list := range [][]int{nil, {}} {
			p := mustPack(t, list, width)
			if !samePacked(p, impl.Packed{Width: width}) || !impl.PackOk(p) {
				t.Error(width, p)
			}
			if len(impl.PackList(p)) != 0 || impl.PackAt(p, 0) != -1 {
				t.Error("an empty list of the width", width, "has a number")
			}
		}
	}
}

func TestPackOfWidthZero(t *testing.T) {
	for _, n := range []int{0, 1, 2, 64, impl.MaxBits - 1, impl.MaxBits} {
		p := mustPack(t, make([]int, n), 0)
		if !samePacked(p, impl.Packed{N: n}) || !impl.PackOk(p) {
			t.Error(n, p)
		}
		if !slices.Equal(impl.PackList(p), make([]int, n)) {
			t.Error("PackList", n)
		}
	}
	if p, ok := impl.PackOf(make([]int, impl.MaxBits+1), 0); ok || !isZeroPacked(p) {
		t.Error("MaxBits + 1 numbers of the width 0", p, ok)
	}
	for _, x := range []int{1, -1, 2, math.MaxInt, math.MinInt} {
		if p, ok := impl.PackOf([]int{0, x}, 0); ok || !isZeroPacked(p) {
			t.Error(x, "has the width 0", p, ok)
		}
	}
}

func TestPackOfTooLong(t *testing.T) {
	for width := 0; width <= impl.MaxWide; width++ {
		most := mostNumbers(width)
		for _, n := range []int{most + 1, most + 2, impl.MaxBits + 1} {
			if p, ok := impl.PackOf(make([]int, n), width); ok || !isZeroPacked(p) {
				t.Errorf("%d numbers of the width %d: %v", n, width, p)
			}
		}
		if width > 0 && impl.MaxBits%width == 0 {
			p := mustPack(t, packPatterns(most, width)[1], width)
			if p.Bits.N != impl.MaxBits || !impl.PackOk(p) {
				t.Errorf("exactly MaxBits bits, width %d: %v", width, p)
			}
		}
	}
}

func TestPackOfBadWidth(t *testing.T) {
	for _, width := range farWidths {
		for _, list := range [][]int{nil, {0}, {0, 0}, {1}, make([]int, impl.MaxBits)} {
			if p, ok := impl.PackOf(list, width); ok || !isZeroPacked(p) {
				t.Errorf("width %d, %d numbers: %v", width, len(list), p)
			}
		}
	}
}

func TestPackOfBadNumber(t *testing.T) {
	for width := 0; width <= impl.MaxWide; width++ {
		bad := []int{-1, -2, 1 << width, 1<<width + 1, 2 << width, 1 << 32, 1 << 62, math.MinInt, math.MinInt + 1, math.MaxInt}
		for _, x := range bad {
			for _, n := range []int{1, 2, mostNumbers(width)} {
				for _, i := range []int{0, n / 2, n - 1} {
					list := make([]int, n)
					list[i] = x
					if p, ok := impl.PackOf(list, width); ok || !isZeroPacked(p) {
						t.Errorf("%d at index %d of %d, width %d: %v", x, i, n, width, p)
					}
				}
			}
		}
	}
}

func TestPackOk(t *testing.T) {
	full := make([]uint64, 79)
	for j := range full {
		full[j] = math.MaxUint64
	}
	full[78] = 255
	valid := []impl.Packed{
		{},
		{Bits: impl.Bits{Words: []uint64{}}},
		{N: 1},
		{N: impl.MaxBits},
		{Width: 1},
		{Width: impl.MaxWide},
		{Width: 1, N: 1, Bits: impl.Bits{N: 1, Words: []uint64{1}}},
		{Width: 3, N: 2, Bits: impl.Bits{N: 6, Words: []uint64{63}}},
		{Width: 32, N: 2, Bits: impl.Bits{N: 64, Words: []uint64{math.MaxUint64}}},
		{Width: 32, N: 2, Bits: impl.Bits{N: 64, Words: []uint64{1, 2, 3}[:1]}},
		{Width: 1, N: impl.MaxBits, Bits: impl.Bits{N: impl.MaxBits, Words: full}},
		{Width: 25, N: 200, Bits: impl.Bits{N: impl.MaxBits, Words: full}},
	}
	for _, p := range valid {
		if !impl.PackOk(p) {
			t.Error(p)
		}
		if q, ok := impl.PackOf(impl.PackList(p), p.Width); !ok || !samePacked(p, q) {
			t.Error("PackOf of the list of", p, "is", q, ok)
		}
	}
}

func TestPackInvalid(t *testing.T) {
	values := invalidPacked(t)
	for name, v := range invalidBits() {
		values["width 1, "+name] = impl.Packed{Width: 1, N: v.N, Bits: v}
		values["width 0, "+name] = impl.Packed{N: v.N, Bits: v}
		values["a number of its width, "+name] = impl.Packed{Width: v.N, N: 1, Bits: v}
		values["no numbers, "+name] = impl.Packed{Bits: v}
	}
	for name, p := range values {
		if impl.PackOk(p) {
			t.Error("PackOk,", name)
		}
		if list := impl.PackList(p); list != nil {
			t.Error("PackList,", name, list)
		}
		for _, i := range append([]int{0, 1, p.N, p.N - 1}, farInts...) {
			if got := impl.PackAt(p, i); got != -1 {
				t.Error("PackAt,", name, i, got)
			}
		}
	}
}

func TestWidthOf(t *testing.T) {
	for n := range 5000 {
		digits := 0
		for rest := n; rest > 0; rest /= 2 {
			digits++
		}
		if got := impl.WidthOf(n); got != digits {
			t.Fatalf("WidthOf(%d) is %d, not %d", n, got, digits)
		}
	}
	for k := range 63 {
		if got := impl.WidthOf(1 << k); got != k+1 {
			t.Errorf("WidthOf of 2^%d is %d", k, got)
		}
		if got := impl.WidthOf(1<<k - 1); got != k {
			t.Errorf("WidthOf of 2^%d - 1 is %d", k, got)
		}
	}
	if got := impl.WidthOf(math.MaxInt); got != 63 {
		t.Error("WidthOf of the greatest integer is", got)
	}
	for _, n := range []int{-1, -2, -8, -4294967296, math.MinInt + 1, math.MinInt} {
		if got := impl.WidthOf(n); got != -1 {
			t.Errorf("WidthOf(%d) is %d", n, got)
		}
	}
}

// varNumbers are numbers with a VarOf: small ones, the ends of each length,
// and irregular ones.
func varNumbers() []int {
	numbers := []int{0, 1, 2, 300, 5000, 1000000, 4294967294, 4294967295}
	for k := 7; k < 32; k++ {
		numbers = append(numbers, 1<<k-1, 1<<k, 1<<k+1)
	}
	for i := range 300 {
		numbers = append(numbers, i*2654435761>>(i%29)&4294967295)
	}
	return numbers
}

// farNumbers have no VarOf.
var farNumbers = []int{math.MinInt, math.MinInt + 1, -4294967295, -300, -128, -2, -1, 4294967296, 4294967297, 1 << 33, 1<<35 - 1, 1 << 35, 1 << 62, math.MaxInt}

func TestVarOf(t *testing.T) {
	for _, n := range varNumbers() {
		data := impl.VarOf(n)
		fewest := max(1, (impl.WidthOf(n)+6)/7)
		if len(data) != fewest {
			t.Fatalf("VarOf(%d) has %d bytes, not %d", n, len(data), fewest)
		}
		sum := 0
		for k, b := range data {
			if (b >= 128) != (k < len(data)-1) {
				t.Fatalf("VarOf(%d), byte %d: %v", n, k, data)
			}
			sum += int(b%128) << (7 * k)
		}
		if sum != n {
			t.Fatalf("VarOf(%d) is %v", n, data)
		}
	}
	if got := impl.VarOf(0); !bytes.Equal(got, []byte{0}) {
		t.Error("VarOf(0) is", got)
	}
	if got := impl.VarOf(4294967295); !bytes.Equal(got, []byte{255, 255, 255, 255, 15}) {
		t.Error("VarOf(4294967295) is", got)
	}
	for _, n := range farNumbers {
		if got := impl.VarOf(n); got != nil {
			t.Errorf("VarOf(%d) is %v", n, got)
		}
	}
}

// refuseVar expects that no number is encoded there.
func refuseVar(t *testing.T, data []byte, at int) {
	t.Helper()
	if n, next, ok := impl.VarRead(data, at); ok || n != 0 || next != 0 {
		t.Errorf("VarRead of %v at %d: %d %d %v", data, at, n, next, ok)
	}
}

// Promise 3, its second half.
func TestVarReadWhateverSurrounds(t *testing.T) {
	around := [][]byte{nil, {0}, {1}, {127}, {128}, {255}, {0, 0, 0, 0, 0, 0}, {128, 128, 128, 128, 128}, {255, 255, 255, 255, 255, 255}, {172, 2}}
	for _, n := range varNumbers() {
		code := impl.VarOf(n)
		for _, before := range around {
			for _, after := range around {
				data := slices.Concat(before, code, after)
				got, next, ok := impl.VarRead(data, len(before))
				if !ok || got != n || next != len(before)+len(code) {
					t.Fatalf("VarRead of %v at %d: %d %d %v, not %d", data, len(before), got, next, ok, n)
				}
			}
		}
	}
}

func TestVarReadOneAfterAnother(t *testing.T) {
	var data []byte
	for _, n := range varNumbers() {
		data = append(data, impl.VarOf(n)...)
	}
	at := 0
	for _, n := range varNumbers() {
		got, next, ok := impl.VarRead(data, at)
		if !ok || got != n {
			t.Fatalf("at %d: %d %v, not %d", at, got, ok, n)
		}
		at = next
	}
	if at != len(data) {
		t.Error("read", at, "of", len(data), "bytes")
	}
}

func TestVarReadBadIndex(t *testing.T) {
	for _, data := range [][]byte{nil, {}, {0}, {172, 2}, {9, 172, 2, 7}} {
		bad := []int{math.MinInt, math.MinInt + 7, -5, -1, len(data), len(data) + 1, 1 << 61, math.MaxInt - 4, math.MaxInt}
		for _, at := range bad {
			refuseVar(t, data, at)
		}
	}
}

func TestVarReadTruncated(t *testing.T) {
	for _, n := range varNumbers() {
		code := impl.VarOf(n)
		for k := range code {
			refuseVar(t, code[:k], 0)
			refuseVar(t, slices.Concat([]byte{3}, code[:k]), 1)
		}
	}
}

func TestVarReadRejects(t *testing.T) {
	bad := [][]byte{
		{128, 0},
		{129, 0},
		{255, 0},
		{172, 130, 0},
		{128, 128, 128, 128, 0},
		{128, 128, 128, 128, 128, 0},
		{255, 255, 255, 255, 143, 0},
		{255, 255, 255, 255, 16},
		{128, 128, 128, 128, 16},
		{255, 255, 255, 255, 127},
		{255, 255, 255, 255, 31},
		{128, 128, 128, 128, 128, 1},
		{255, 255, 255, 255, 255, 0},
		{128, 128, 128, 128, 128, 128, 128, 128, 128, 2},
		bytes.Repeat([]byte{128}, 100),
		bytes.Repeat([]byte{255}, 100),
	}
	for _, data := range bad {
		refuseVar(t, data, 0)
		refuseVar(t, slices.Concat([]byte{7, 128}, data), 2)
		refuseVar(t, slices.Concat(data, []byte{1}), 0)
	}
}

// TestVarReadAllShort holds VarRead against the document's words: the number
// whose VarOf begins there, for all data of a few bytes of a kind.
func TestVarReadAllShort(t *testing.T) {
	kinds := []byte{0, 1, 15, 16, 127, 128, 129, 143, 255}
	lists := [][]byte{nil}
	for len(lists[0]) < 6 {
		data := lists[0]
		lists = lists[1:]
		checkVarRead(t, data)
		for _, b := range kinds {
			lists = append(lists, append(slices.Clone(data), b))
		}
	}
	for x := range 65536 {
		checkVarRead(t, []byte{byte(x), byte(x >> 8)})
	}
}

func checkVarRead(t *testing.T, data []byte) {
	t.Helper()
	n, length := 0, 0
	for sum, k := 0, 0; k < len(data); k++ {
		sum += int(data[k]%128) << (7 * k)
		if code := impl.VarOf(sum); code != nil && bytes.Equal(code, data[:k+1]) {
			n, length = sum, k+1
		}
	}
	got, next, ok := impl.VarRead(data, 0)
	if got != n || next != length || ok != (length > 0) {
		t.Fatalf("VarRead of %v: %d %d %v, not %d %d", data, got, next, ok, n, length)
	}
}

func TestVarReadIgnoresSpareCapacity(t *testing.T) {
	all := []byte{172, 2, 7}
	refuseVar(t, all[:1], 0)
	refuseVar(t, all[:0], 0)
	refuseVar(t, all[:2], 2)
	if n, next, ok := impl.VarRead(all, 0); !ok || n != 300 || next != 2 || !bytes.Equal(all, []byte{172, 2, 7}) {
		t.Error(n, next, ok, all)
	}
}

func TestPackLeavesArgumentsAlone(t *testing.T) {
	for _, width := range []int{0, 1, 7, 32} {
		list := packPatterns(20, width)[6]
		all := append(slices.Clone(list), -1, -1)
		before := slices.Clone(all)
		p := mustPack(t, all[:20], width)
		if !slices.Equal(all, before) {
			t.Fatal("PackOf changes its list")
		}
		q := mustPack(t, all[:20], width)
		words := q.Bits.Words[:cap(q.Bits.Words)]
		for j := range words {
			words[j] = 77
		}
		if !slices.Equal(impl.PackList(p), list) {
			t.Fatal("two results share memory")
		}
		spare := append(slices.Clone(p.Bits.Words), math.MaxUint64, math.MaxUint64)
		spareBefore := slices.Clone(spare)
		p.Bits.Words = spare[:len(p.Bits.Words)]
		impl.PackAt(p, 0)
		impl.PackList(p)[0] = 99
		if !impl.PackOk(p) || !slices.Equal(impl.PackList(p), list) || !slices.Equal(spare, spareBefore) {
			t.Fatal("the words are changed, or the ones behind them are read")
		}
	}
}

func TestVarOfResultsAreTheirOwn(t *testing.T) {
	for _, n := range []int{0, 5, 300, 4294967295} {
		first, second := impl.VarOf(n), impl.VarOf(n)
		kept := slices.Clone(second)
		first = first[:cap(first)]
		for i := range first {
			first[i] = 77
		}
		if !bytes.Equal(second, kept) || !bytes.Equal(impl.VarOf(n), kept) {
			t.Error("two results share memory", n)
		}
	}
}
