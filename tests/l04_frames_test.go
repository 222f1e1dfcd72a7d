package tests

import (
	"bytes"
	"encoding/binary"
	"hash/crc32"
	"math"
	"slices"
	"testing"

	"loop.example/g00688/impl"
)

// farKinds are no Kind of a frame.
var farKinds = []int{math.MinInt, math.MinInt + 3, -1 << 32, -256, -255, -2, -1, 256, 257, 511, 512, 1 << 32, 1<<32 + 3, 1 << 62, math.MaxInt}

// bodySizes are small sizes, those around another length of VarOf, and the
// limits.
var bodySizes = []int{0, 1, 2, 3, 7, 63, 126, 127, 128, 129, 255, 256, 300, 1000, impl.MaxBody - 1, impl.MaxBody}

// bodyPatterns returns bodies of n bytes: equal ones, those that look like the
// parts of a frame, and irregular ones.
func bodyPatterns(n int) [][]byte {
	rules := []func(i int) byte{
		func(i int) byte { return 0 },
		func(i int) byte { return 128 },
		func(i int) byte { return 255 },
		func(i int) byte { return impl.FrameMark },
		func(i int) byte { return byte(i) },
		func(i int) byte { return byte((i*i*40503 + 12345*i + 99) >> 4) },
	}
	var bodies [][]byte
	for _, rule := range rules {
		body := make([]byte, n)
		for i := range body {
			body[i] = rule(i)
		}
		bodies = append(bodies, body)
	}
	return bodies
}

// rawFrame returns what looks like a frame, with a checksum that fits.
func rawFrame(mark byte, kind byte, length []byte, body []byte) []byte {
	data := slices.Concat([]byte{mark, kind}, length, body)
	return binary.LittleEndian.AppendUint32(data, crc32.ChecksumIEEE(data))
}

func shortLength(n int) []byte { return binary.AppendUvarint(nil, uint64(n)) }

// plainFrame encodes a valid frame, by the library's means.
func plainFrame(f impl.Frame) []byte {
	return rawFrame(impl.FrameMark, byte(f.Kind), shortLength(len(f.Body)), f.Body)
}

// plainRead tries each size of a Body in turn.
func plainRead(data []byte, at int) (impl.Frame, int, bool) {
	if at < 0 || at > len(data)-7 {
		return impl.Frame{}, 0, false
	}
	for n := range min(impl.MaxBody, len(data)) + 1 {
		start := at + 2 + len(shortLength(n))
		if start+n+4 > len(data) {
			break
		}
		f := impl.Frame{Kind: int(data[at+1]), Body: data[start : start+n]}
		if bytes.HasPrefix(data[at+2:], shortLength(n)) && bytes.HasPrefix(data[at:], plainFrame(f)) {
			return f, start + n + 4, true
		}
	}
	return impl.Frame{}, 0, false
}

func sameFrame(f, g impl.Frame) bool { return f.Kind == g.Kind && bytes.Equal(f.Body, g.Body) }

func sameFrames(a, b []impl.Frame) bool { return slices.EqualFunc(a, b, sameFrame) }

func isZeroFrame(f impl.Frame) bool { return f.Kind == 0 && len(f.Body) == 0 }

func mustFrame(t *testing.T, f impl.Frame) []byte {
	t.Helper()
	data := impl.FrameOf(f)
	if data == nil {
		t.Fatalf("FrameOf refuses the Kind %d with %d bytes", f.Kind, len(f.Body))
	}
	return data
}

// refuseFrame expects that no frame is encoded there.
func refuseFrame(t *testing.T, name string, data []byte, at int) {
	t.Helper()
	if f, next, ok := impl.FrameRead(data, at); ok || next != 0 || !isZeroFrame(f) {
		t.Errorf("%s: FrameRead of %d bytes at %d: Kind %d, %d bytes, %d %v", name, len(data), at, f.Kind, len(f.Body), next, ok)
	}
}

// expectFrame expects that the frame is encoded there, in length bytes.
func expectFrame(t *testing.T, data []byte, at int, want impl.Frame, length int) {
	t.Helper()
	f, next, ok := impl.FrameRead(data, at)
	if !ok || next != at+length || !sameFrame(f, want) {
		t.Fatalf("FrameRead at %d of %d bytes: Kind %d, %d bytes, %d %v, not Kind %d, %d bytes, %d", at, len(data), f.Kind, len(f.Body), next, ok, want.Kind, len(want.Body), at+length)
	}
}

func TestFrameExamples(t *testing.T) {
	if impl.MaxBody != 8000 || impl.FrameMark != 90 {
		t.Error("limits", impl.MaxBody, impl.FrameMark)
	}
	data := mustFrame(t, impl.Frame{Kind: 3, Body: []byte{7}})
	if len(data) != 8 || !bytes.HasPrefix(data, []byte{90, 3, 1, 7}) {
		t.Error(data)
	}
	sum := impl.Crc([]byte{90, 3, 1, 7})
	if !bytes.Equal(data[4:], []byte{byte(sum % 256), byte(sum / 256 % 256), byte(sum / 65536 % 256), byte(sum / 16777216)}) {
		t.Error(data, sum)
	}
}

func TestCrc(t *testing.T) {
	if got := impl.Crc(nil); got != 0 {
		t.Error("nil", got)
	}
	if got := impl.Crc([]byte{}); got != 0 {
		t.Error("no bytes", got)
	}
	if got := impl.Crc([]byte("123456789")); got != 3421780262 {
		t.Error("123456789", got)
	}
	for b := range 256 {
		data := []byte{byte(b)}
		if got, want := impl.Crc(data), int(crc32.ChecksumIEEE(data)); got != want {
			t.Errorf("Crc of %d is %d, not %d", b, got, want)
		}
	}
	for _, n := range append([]int{impl.MaxBody + 1, impl.MaxBody + 4, 2*impl.MaxBody - 1, 2 * impl.MaxBody}, bodySizes...) {
		for k, data := range bodyPatterns(n) {
			if got, want := impl.Crc(data), int(crc32.ChecksumIEEE(data)); got != want {
				t.Errorf("Crc of %d bytes, pattern %d, is %d, not %d", n, k, got, want)
			}
		}
	}
}

// TestCrcByTheWords follows the document's rule literally, with numbers that
// are not limited to 32 bits.
func TestCrcByTheWords(t *testing.T) {
	for _, data := range bodyPatterns(300) {
		value := 4294967295
		for _, b := range data {
			value ^= int(b)
			for range 8 {
				if value%2 == 1 {
					value = value/2 ^ 3988292384
				} else {
					value /= 2
				}
			}
		}
		if got := impl.Crc(data); got != value^4294967295 {
			t.Errorf("Crc is %d, not %d", got, value^4294967295)
		}
	}
}

func TestCrcTooLong(t *testing.T) {
	for _, n := range []int{2*impl.MaxBody + 1, 2*impl.MaxBody + 2, 4 * impl.MaxBody, 1 << 20} {
		if got := impl.Crc(make([]byte, n)); got != -1 {
			t.Errorf("Crc of %d bytes is %d", n, got)
		}
	}
	spare := make([]byte, 3*impl.MaxBody)
	if got, want := impl.Crc(spare[:2*impl.MaxBody]), int(crc32.ChecksumIEEE(spare[:2*impl.MaxBody])); got != want {
		t.Errorf("2 * MaxBody bytes with more behind them: %d, not %d", got, want)
	}
}

func TestFrameOkAndOf(t *testing.T) {
	for _, kind := range []int{0, 1, 3, 89, 90, 91, 127, 128, 254, 255} {
		for _, n := range bodySizes {
			for k, body := range bodyPatterns(n) {
				f := impl.Frame{Kind: kind, Body: body}
				if !impl.FrameOk(f) {
					t.Fatalf("FrameOk, Kind %d, %d bytes", kind, n)
				}
				if got := impl.FrameOf(f); !bytes.Equal(got, plainFrame(f)) {
					t.Fatalf("FrameOf, Kind %d, %d bytes, pattern %d: %d bytes", kind, n, k, len(got))
				}
			}
		}
	}
	if got := impl.FrameOf(impl.Frame{}); !bytes.Equal(got, plainFrame(impl.Frame{})) || len(got) != 7 {
		t.Error("zero value", got)
	}
	if got := mustFrame(t, impl.Frame{Body: make([]byte, impl.MaxBody)}); len(got) != impl.MaxBody+8 {
		t.Error("MaxBody bytes", len(got))
	}
}

func TestEachKind(t *testing.T) {
	for kind := range 256 {
		f := impl.Frame{Kind: kind, Body: []byte{byte(kind), 5}}
		data := mustFrame(t, f)
		if !bytes.Equal(data, plainFrame(f)) {
			t.Error(kind, data)
		}
		expectFrame(t, data, 0, f, 9)
	}
}

// invalidFrames returns values that FrameOk has to reject.
func invalidFrames() []impl.Frame {
	var list []impl.Frame
	for _, kind := range farKinds {
		for _, n := range []int{0, 1, impl.MaxBody, impl.MaxBody + 1} {
			list = append(list, impl.Frame{Kind: kind, Body: make([]byte, n)})
		}
	}
	for _, kind := range []int{0, 3, 255} {
		for _, n := range []int{impl.MaxBody + 1, impl.MaxBody + 2, 2 * impl.MaxBody, 2*impl.MaxBody + 1, 1 << 17} {
			list = append(list, impl.Frame{Kind: kind, Body: make([]byte, n)})
		}
	}
	return list
}

func TestFrameInvalid(t *testing.T) {
	good := impl.Frame{Kind: 3, Body: []byte{7}}
	for _, f := range invalidFrames() {
		if impl.FrameOk(f) {
			t.Errorf("FrameOk, Kind %d, %d bytes", f.Kind, len(f.Body))
		}
		if got := impl.FrameOf(f); got != nil {
			t.Errorf("FrameOf, Kind %d, %d bytes: %d bytes", f.Kind, len(f.Body), len(got))
		}
		for _, list := range [][]impl.Frame{{f}, {f, good}, {good, f}, {good, f, good}} {
			if got, ok := impl.FramesOf(list); ok || got != nil {
				t.Errorf("FramesOf, Kind %d, %d bytes, %d frames: %d bytes, %v", f.Kind, len(f.Body), len(list), len(got), ok)
			}
		}
	}
}

// Promise 5, its first part, for a single frame.
func TestFrameReadWhateverSurrounds(t *testing.T) {
	whole := plainFrame(impl.Frame{Kind: 9, Body: []byte{1, 2}})
	around := [][]byte{nil, {0}, {90}, {90, 3}, {128, 128}, {255, 255, 255, 255, 255, 255, 255, 255}, whole, whole[:5], make([]byte, 3*impl.MaxBody)}
	for _, kind := range []int{0, 3, 90, 255} {
		for _, n := range bodySizes {
			f := impl.Frame{Kind: kind, Body: bodyPatterns(n)[5]}
			code := mustFrame(t, f)
			for _, before := range around {
				for _, after := range around {
					expectFrame(t, slices.Concat(before, code, after), len(before), f, len(code))
				}
			}
		}
	}
}

func TestFrameReadPatterns(t *testing.T) {
	for _, n := range bodySizes {
		for _, body := range bodyPatterns(n) {
			f := impl.Frame{Kind: 255, Body: body}
			code := mustFrame(t, f)
			expectFrame(t, code, 0, f, len(code))
			expectFrame(t, slices.Concat([]byte{90}, code, []byte{90}), 1, f, len(code))
		}
	}
}

func TestFrameReadBadIndex(t *testing.T) {
	code := mustFrame(t, impl.Frame{Kind: 3, Body: []byte{7, 8, 9}})
	for _, data := range [][]byte{nil, {}, {90}, {90, 3}, code, slices.Concat(code, code)} {
		bad := []int{math.MinInt, math.MinInt + 1, math.MinInt + 7, -1 << 32, -10, -2, -1, len(data), len(data) + 1, len(data) + 7, 1 << 32, 1 << 62, math.MaxInt - 4, math.MaxInt - 1, math.MaxInt}
		for _, at := range bad {
			refuseFrame(t, "bad index", data, at)
		}
	}
	for at := 1; at < len(code); at++ {
		refuseFrame(t, "index within the frame", code, at)
	}
}

func TestFrameReadIndexWithinBody(t *testing.T) {
	inner := impl.Frame{Kind: 3, Body: []byte{7}}
	code := mustFrame(t, inner)
	outer := impl.Frame{Kind: 4, Body: slices.Concat([]byte{1, 2}, code)}
	data := mustFrame(t, outer)
	expectFrame(t, data, 0, outer, len(data))
	expectFrame(t, data, 5, inner, len(code))
}

func TestFrameReadOtherMark(t *testing.T) {
	for mark := range 256 {
		data := rawFrame(byte(mark), 3, []byte{1}, []byte{7})
		if mark == impl.FrameMark {
			expectFrame(t, data, 0, impl.Frame{Kind: 3, Body: []byte{7}}, 8)
			continue
		}
		refuseFrame(t, "another mark", data, 0)
		refuseFrame(t, "another mark", append([]byte{90}, data...), 1)
	}
}

// longLength returns the length in the given number of bytes, some of which
// are not necessary.
func longLength(n, size int) []byte {
	var data []byte
	for range size - 1 {
		data = append(data, byte(n%128+128))
		n /= 128
	}
	return append(data, byte(n))
}

func TestFrameReadLengthTooLong(t *testing.T) {
	for _, n := range bodySizes {
		body := bodyPatterns(n)[5]
		least := len(shortLength(n))
		for size := least; size <= 12; size++ {
			data := rawFrame(impl.FrameMark, 3, longLength(n, size), body)
			if size == least {
				expectFrame(t, data, 0, impl.Frame{Kind: 3, Body: body}, len(data))
				continue
			}
			refuseFrame(t, "length with superfluous bytes", data, 0)
			refuseFrame(t, "length with superfluous bytes", slices.Concat([]byte{90}, data, data), 1)
			if list, used := impl.FramesRead(data); n < 7000 && (len(list) != 0 || used != 0) {
				t.Errorf("FramesRead of a length %d in %d bytes: %d frames, %d", n, size, len(list), used)
			}
		}
	}
}

func TestFrameReadBodyTooLong(t *testing.T) {
	sizes := []int{impl.MaxBody + 1, impl.MaxBody + 2, 2*impl.MaxBody - 4, 2*impl.MaxBody - 3, 2 * impl.MaxBody, 2*impl.MaxBody + 1, 16383, 16384, 1 << 16}
	for _, n := range sizes {
		data := rawFrame(impl.FrameMark, 3, shortLength(n), make([]byte, n))
		refuseFrame(t, "Body longer than MaxBody", data, 0)
		// The Crc of more than 2 * MaxBody bytes is -1.
		copy(data[len(data)-4:], []byte{255, 255, 255, 255})
		refuseFrame(t, "Body longer than MaxBody, checksum -1", data, 0)
	}
}

func TestFrameReadLengthBeyondData(t *testing.T) {
	zeros := make([]byte, 100)
	lengths := [][]byte{
		{101}, {127}, {255}, {200, 1}, shortLength(impl.MaxBody), shortLength(impl.MaxBody + 1),
		{255, 255, 255, 255, 15}, {255, 255, 255, 255, 16}, {255, 255, 255, 255, 127},
		{255, 255, 255, 255, 255, 255, 255, 255, 127}, {255, 255, 255, 255, 255, 255, 255, 255, 255, 1},
		bytes.Repeat([]byte{128}, 20), bytes.Repeat([]byte{255}, 20),
	}
	for _, length := range lengths {
		data := slices.Concat([]byte{impl.FrameMark, 3}, length, zeros)
		for k := 2; k <= len(length)+2; k++ {
			refuseFrame(t, "length beyond the data", data[:k], 0)
		}
		refuseFrame(t, "length beyond the data", data, 0)
		refuseFrame(t, "length beyond the data", rawFrame(impl.FrameMark, 3, length, zeros), 0)
	}
}

// TestFrameReadTruncated has the rest of the frame behind the end of the data,
// where it must not be read.
func TestFrameReadTruncated(t *testing.T) {
	for _, n := range bodySizes {
		for _, body := range bodyPatterns(n)[:4] {
			code := mustFrame(t, impl.Frame{Kind: 3, Body: body})
			step := max(1, len(code)/50)
			for k := 0; k < len(code); k += step {
				refuseFrame(t, "truncated", code[:k], 0)
			}
			for k := len(code) - 6; k < len(code); k++ {
				refuseFrame(t, "truncated", code[:k], 0)
				refuseFrame(t, "truncated", slices.Clone(code[:k]), 0)
			}
		}
	}
}

// checkChanged changes the byte with index i of a frame whose Body has n bytes.
// Only if it is a byte of the length can there be a frame, and then one of
// another size.
func checkChanged(t *testing.T, data []byte, n int, i int, add byte) {
	t.Helper()
	lengthEnd := 2 + len(shortLength(n))
	size := lengthEnd + n + 4
	data[i] += add
	f, next, ok := impl.FrameRead(data, 0)
	if ok && (next == size || i < 2 || i >= lengthEnd) {
		t.Fatalf("byte %d of %d, plus %d: decoded with %d bytes", i, size, add, next)
	}
	if i >= 2 && i < lengthEnd {
		want, wantNext, wantOk := plainRead(data, 0)
		if ok != wantOk || next != wantNext || !sameFrame(f, want) {
			t.Fatalf("byte %d of %d, plus %d: %d %v, not %d %v", i, size, add, next, ok, wantNext, wantOk)
		}
	}
	data[i] -= add
}

// Promise 5, its last part: each other value of each byte.
func TestFrameReadChangedByte(t *testing.T) {
	after := slices.Concat(make([]byte, 30), plainFrame(impl.Frame{Kind: 1}))
	for _, n := range []int{0, 1, 2, 3, 20, 126, 127, 128, 129} {
		for _, body := range bodyPatterns(n) {
			code := mustFrame(t, impl.Frame{Kind: 3, Body: body})
			for _, data := range [][]byte{code, slices.Concat(code, after)} {
				for i := range code {
					for add := range 255 {
						checkChanged(t, data, n, i, byte(add+1))
					}
				}
			}
		}
	}
}

func TestFrameReadChangedByteOfLongFrame(t *testing.T) {
	for _, n := range []int{1000, impl.MaxBody - 1, impl.MaxBody} {
		code := mustFrame(t, impl.Frame{Kind: 255, Body: bodyPatterns(n)[5]})
		for i := range code {
			changed := slices.Clone(code)
			changed[i] ^= byte(1 + i%255)
			if _, next, ok := impl.FrameRead(changed, 0); ok && next == len(code) {
				t.Fatalf("byte %d of %d: decoded with the same length", i, len(code))
			}
		}
	}
}

// TestFrameReadChangedLength has frames of which a changed length makes others
// that are valid as well.
func TestFrameReadChangedLength(t *testing.T) {
	short := impl.Frame{Kind: 3, Body: []byte{5, 6}}
	code := plainFrame(short)
	long := impl.Frame{Kind: 3, Body: slices.Concat(code[3:], []byte{1, 2, 3})}
	data := mustFrame(t, long)
	expectFrame(t, data, 0, long, len(data))
	data[2] = 2
	expectFrame(t, data, 0, short, len(code))

	data = slices.Concat(plainFrame(short), []byte{8})
	longer := impl.Frame{Kind: 3, Body: slices.Clone(data[3:])}
	data = slices.Concat(data, plainFrame(longer)[3+len(longer.Body):])
	expectFrame(t, data, 0, short, len(code))
	data[2] = byte(len(longer.Body))
	expectFrame(t, data, 0, longer, len(data))
}

// frameMix returns frames of many kinds and sizes one after the other, with
// something spoilt in most of them.
func frameMix(seed int) []byte {
	var data []byte
	for k := range 6 {
		x := (seed*7919 + k*104729 + seed*k*31) & math.MaxInt32
		code := plainFrame(impl.Frame{Kind: x % 256, Body: bodyPatterns(x / 256 % 140)[x%6]})
		switch x / 7 % 5 {
		case 0:
			code[x%len(code)] ^= 1 << (x % 8)
		case 1:
			code[2] ^= 128
		case 2:
			code = code[:x%len(code)]
		}
		data = append(data, code...)
	}
	return data
}

func TestFrameReadEachIndex(t *testing.T) {
	for seed := range 60 {
		data := frameMix(seed)
		for at := -2; at < len(data)+2; at++ {
			f, next, ok := impl.FrameRead(data, at)
			want, wantNext, wantOk := plainRead(data, at)
			if ok != wantOk || next != wantNext || !sameFrame(f, want) {
				t.Fatalf("mix %d at %d: %d %v, not %d %v", seed, at, next, ok, wantNext, wantOk)
			}
		}
	}
}

func TestFramesOfNone(t *testing.T) {
	for _, list := range [][]impl.Frame{nil, {}} {
		if data, ok := impl.FramesOf(list); !ok || len(data) != 0 {
			t.Error(data, ok)
		}
	}
	for _, data := range [][]byte{nil, {}} {
		if list, used := impl.FramesRead(data); len(list) != 0 || used != 0 {
			t.Error(list, used)
		}
	}
}

// frameLists returns lists of frames with at most MaxBody bytes together.
func frameLists() [][]impl.Frame {
	lists := [][]impl.Frame{
		{{}},
		{{}, {}, {}},
		{{Kind: 3, Body: []byte{7}}},
		{{Kind: 3, Body: []byte{7}}, {Kind: 3, Body: []byte{7}}},
		{{Kind: 255}, {Kind: 0, Body: []byte{90, 0, 0}}, {Kind: 90, Body: make([]byte, 300)}},
		{{Kind: 1, Body: bodyPatterns(127)[3]}, {Kind: 2, Body: bodyPatterns(128)[3]}},
		make([]impl.Frame, impl.MaxBody/7),
	}
	for n := range 8 {
		var list []impl.Frame
		for k := range n * 5 {
			list = append(list, impl.Frame{Kind: k * 51 % 256, Body: bodyPatterns(k * k % 190)[k%6]})
		}
		lists = append(lists, list)
	}
	return append(lists, fullLists()...)
}

// fullLists returns lists of frames with just MaxBody bytes together.
func fullLists() [][]impl.Frame {
	return [][]impl.Frame{
		{{Kind: 3, Body: bodyPatterns(impl.MaxBody - 8)[5]}},
		{{Kind: 3, Body: bodyPatterns(impl.MaxBody - 15)[5]}, {}},
		{{}, {Kind: 3, Body: bodyPatterns(impl.MaxBody - 15)[5]}},
		{{Kind: 1, Body: bodyPatterns(3992)[4]}, {Kind: 2, Body: bodyPatterns(3992)[5]}},
		append(make([]impl.Frame, impl.MaxBody/7-1), impl.Frame{Body: make([]byte, impl.MaxBody%7)}),
	}
}

func plainFrames(list []impl.Frame) []byte {
	var data []byte
	for _, f := range list {
		data = append(data, plainFrame(f)...)
	}
	return data
}

// Promise 5, its first part, for many frames.
func TestFramesOfAndBack(t *testing.T) {
	for k, list := range frameLists() {
		data, ok := impl.FramesOf(list)
		if !ok || !bytes.Equal(data, plainFrames(list)) {
			t.Fatalf("FramesOf, list %d: %d bytes, %v", k, len(data), ok)
		}
		got, used := impl.FramesRead(data)
		if used != len(data) || !sameFrames(got, list) {
			t.Fatalf("FramesRead, list %d: %d frames, %d of %d bytes", k, len(got), used, len(data))
		}
	}
}

func TestFramesOfLimit(t *testing.T) {
	for k, list := range fullLists() {
		data, ok := impl.FramesOf(list)
		if !ok || len(data) != impl.MaxBody {
			t.Errorf("list %d: %d bytes, %v, not MaxBody", k, len(data), ok)
		}
		for i := range min(len(list), 3) {
			more := slices.Clone(list)
			more[i].Body = append(slices.Clone(more[i].Body), 1)
			if data, ok := impl.FramesOf(more); ok || data != nil {
				t.Errorf("list %d, a byte more in frame %d: %d bytes, %v", k, i, len(data), ok)
			}
		}
		if data, ok := impl.FramesOf(append(slices.Clone(list), impl.Frame{})); ok || data != nil {
			t.Errorf("list %d, a frame more: %d bytes, %v", k, len(data), ok)
		}
	}
	for _, n := range []int{impl.MaxBody - 7, impl.MaxBody - 1, impl.MaxBody} {
		if data, ok := impl.FramesOf([]impl.Frame{{Body: make([]byte, n)}}); ok || data != nil {
			t.Errorf("a Body of %d bytes: %d bytes, %v", n, len(data), ok)
		}
	}
	many := make([]impl.Frame, 1000000)
	if data, ok := impl.FramesOf(many); ok || data != nil {
		t.Error("a million frames", len(data), ok)
	}
}

// Promise 5, its middle part: the rest is left, whatever it is.
func TestFramesReadLeavesTheRest(t *testing.T) {
	good := plainFrame(impl.Frame{Kind: 3, Body: []byte{7, 8}})
	spoilt := slices.Clone(good)
	spoilt[3]++
	rests := map[string][]byte{
		"a byte 0":                            {0},
		"a mark":                              {90},
		"a mark and a Kind":                   {90, 3},
		"an empty frame without its checksum": {90, 3, 0},
		"a frame after a byte":                slices.Concat([]byte{0}, good),
		"a spoilt frame":                      spoilt,
		"a frame after a spoilt one":          slices.Concat(spoilt, good),
		"a length of two bytes for 2":         rawFrame(90, 3, []byte{130, 0}, []byte{7, 8}),
		"another mark":                        rawFrame(91, 3, []byte{2}, []byte{7, 8}),
		"a length beyond the data":            {90, 3, 100, 1, 2, 3, 4, 5, 6, 7},
		"many bytes":                          bytes.Repeat([]byte{90}, 200),
	}
	for k := range good[1:] {
		rests["a truncated frame of "+string(rune('1'+k))] = good[:k+1]
	}
	for k, list := range frameLists() {
		data := plainFrames(list)
		for name, rest := range rests {
			all := slices.Concat(data, rest)
			got, used := impl.FramesRead(all)
			if len(all) > impl.MaxBody {
				if got != nil || used != -1 {
					t.Errorf("list %d, %s: more than MaxBody bytes: %d frames, %d", k, name, len(got), used)
				}
				continue
			}
			if used != len(data) || !sameFrames(got, list) {
				t.Errorf("list %d, %s: %d frames, %d bytes, not %d, %d", k, name, len(got), used, len(list), len(data))
			}
		}
	}
}

func TestFramesReadEachPrefix(t *testing.T) {
	list := []impl.Frame{{Kind: 3, Body: []byte{7}}, {}, {Kind: 255, Body: bodyPatterns(130)[5]}, {Kind: 90, Body: []byte{90, 90}}}
	data := plainFrames(list)
	for end := range len(data) + 1 {
		count, size := 0, 0
		for _, f := range list {
			if size+len(plainFrame(f)) > end {
				break
			}
			count, size = count+1, size+len(plainFrame(f))
		}
		got, used := impl.FramesRead(data[:end])
		if used != size || !sameFrames(got, list[:count]) {
			t.Errorf("%d bytes: %d frames, %d bytes, not %d, %d", end, len(got), used, count, size)
		}
	}
}

func TestFramesReadMixes(t *testing.T) {
	for seed := range 500 {
		data := frameMix(seed)
		var list []impl.Frame
		at := 0
		for {
			f, next, ok := plainRead(data, at)
			if !ok {
				break
			}
			list, at = append(list, f), next
		}
		got, used := impl.FramesRead(data)
		if used != at || !sameFrames(got, list) {
			t.Fatalf("mix %d: %d frames, %d bytes, not %d, %d", seed, len(got), used, len(list), at)
		}
	}
}

func TestFramesReadLimit(t *testing.T) {
	for _, list := range fullLists() {
		data := plainFrames(list)
		if got, used := impl.FramesRead(data); used != impl.MaxBody || !sameFrames(got, list) {
			t.Errorf("MaxBody bytes: %d frames, %d bytes", len(got), used)
		}
		if got, used := impl.FramesRead(append(data, 0)); used != -1 || got != nil {
			t.Errorf("MaxBody + 1 bytes: %d frames, %d", len(got), used)
		}
	}
	good := plainFrame(impl.Frame{Kind: 3, Body: []byte{7}})
	for _, n := range []int{impl.MaxBody + 1, impl.MaxBody + 8, 2 * impl.MaxBody, 1 << 20} {
		data := make([]byte, n)
		copy(data, good)
		if got, used := impl.FramesRead(data); used != -1 || got != nil {
			t.Errorf("%d bytes: %d frames, %d", n, len(got), used)
		}
	}
	data := make([]byte, impl.MaxBody+10)
	copy(data, good)
	if got, used := impl.FramesRead(data[:impl.MaxBody]); used != 8 || len(got) != 1 {
		t.Errorf("MaxBody bytes with more behind them: %d frames, %d", len(got), used)
	}
	whole := plainFrame(impl.Frame{Kind: 3, Body: make([]byte, impl.MaxBody)})
	if got, used := impl.FramesRead(whole); used != -1 || got != nil {
		t.Errorf("a frame with a Body of MaxBody bytes: %d frames, %d", len(got), used)
	}
}

// spoilBytes overwrites the bytes, and those behind them.
func spoilBytes(data []byte) {
	data = data[:cap(data)]
	for i := range data {
		data[i] += 77
	}
}

func TestFramesLeaveArgumentsAlone(t *testing.T) {
	for _, n := range []int{0, 1, 5, 200} {
		all := append(slices.Clone(bodyPatterns(n)[5]), 1, 2, 3, 4, 5, 6, 7, 8)
		before := slices.Clone(all)
		f := impl.Frame{Kind: 3, Body: all[:n]}
		impl.Crc(f.Body)
		impl.FrameOk(f)
		code := mustFrame(t, f)
		joined, _ := impl.FramesOf([]impl.Frame{f, f, f})
		if !bytes.Equal(all, before) {
			t.Fatal("a Body is changed, or what is behind it")
		}
		kept := slices.Clone(code)
		spoilBytes(joined)
		if !bytes.Equal(all, before) || !bytes.Equal(code, kept) || !bytes.Equal(impl.FrameOf(f), kept) {
			t.Fatal("FramesOf shares memory")
		}
		spoilBytes(code)
		if !bytes.Equal(all, before) || !bytes.Equal(impl.FrameOf(f), kept) {
			t.Fatal("FrameOf shares memory")
		}
	}
}

func TestFrameReadOwnsItsBody(t *testing.T) {
	list := []impl.Frame{{Kind: 3, Body: []byte{7, 8}}, {}, {Kind: 4, Body: bodyPatterns(50)[5]}, {Kind: 4, Body: []byte{9}}}
	data := plainFrames(list)
	before := slices.Clone(data)
	f, _, _ := impl.FrameRead(data, 0)
	g, _, _ := impl.FrameRead(data, 0)
	got, _ := impl.FramesRead(data)
	spoilBytes(f.Body)
	if !bytes.Equal(data, before) || !sameFrame(g, list[0]) || !sameFrames(got, list) {
		t.Fatal("FrameRead shares memory")
	}
	for i := range got {
		spoilBytes(got[i].Body)
		if !bytes.Equal(data, before) || !sameFrames(got[i+1:], list[i+1:]) {
			t.Fatal("FramesRead shares memory, frame", i)
		}
	}
	again, _ := impl.FramesRead(data)
	spoilBytes(data)
	if !sameFrames(again, list) {
		t.Fatal("FramesRead keeps the data")
	}
}

func TestFramesReadSpareCapacity(t *testing.T) {
	list := []impl.Frame{{Kind: 3, Body: []byte{7, 8}}, {Kind: 4, Body: []byte{9}}}
	data := plainFrames(list)
	before := slices.Clone(data)
	for end := range data {
		got, used := impl.FramesRead(data[:end])
		want, wantUsed := impl.FramesRead(slices.Clone(data[:end]))
		if used != wantUsed || !sameFrames(got, want) || used > end {
			t.Errorf("%d bytes with more behind them: %d frames, %d", end, len(got), used)
		}
	}
	if !bytes.Equal(data, before) {
		t.Error("the data is changed")
	}
}
