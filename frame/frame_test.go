package frame

import (
	"bytes"
	"encoding/binary"
	"fmt"
	"hash/crc32"
	"math"
	"math/big"
	"slices"
	"strings"
	"testing"

	"modelcheck/api"
)

// tails are bytes that may follow an encoding.
var tails = [][]byte{nil, {}, {0}, {1}, {127}, {128}, {255, 255}, {0, 0, 0, 0, 0}, {128, 128, 128, 128, 128, 128, 128, 128, 128, 128}, {2, 2, 3}}

// starts are bytes to which an encoding may be appended.
var starts = [][]byte{nil, {}, {0}, {128}, {172, 2}, {255, 255, 255, 255, 255, 255, 255, 255, 255, 255}, make([]byte, 3, 100)}

// outside are integers above 2^62, and the corresponding negative ones.
var outside = []int{1<<62 + 1, 1<<62 + 2, 3 << 61, math.MaxInt - 1, math.MaxInt, -1 << 62, -1<<62 - 1, -1<<62 + 1, -3 << 61, math.MinInt + 1, math.MinInt}

// unsignedNumbers are integers from 0 to 2^62: small ones, powers of 2 and the integers beside them, and groups of different bits.
func unsignedNumbers() []int {
	all := []int{300, 0x123456789abcdef, 0x3edcba987654321, 0x2aaaaaaaaaaaaaaa, 0x1555555555555555}
	for n := range 600 {
		all = append(all, n)
	}
	for k := range 62 {
		all = append(all, 1<<k-1, 1<<k, 1<<k+1, 3<<k/2, 1<<k+1<<k/4)
	}
	all = append(all, 1<<62-1, 1<<62)
	slices.Sort(all)
	return slices.Compact(all)
}

// signedNumbers are integers from -2^61 to 2^61.
func signedNumbers() []int {
	var all []int
	for _, n := range unsignedNumbers() {
		if n <= 1<<61 {
			all = append(all, n, -n)
		}
	}
	return all
}

// uintBytes is the encoding of an integer, computed by another package, whose variable-length encoding is the same.
func uintBytes(n int) []byte {
	return binary.AppendUvarint(nil, uint64(n))
}

// intBytes is the encoding of a signed integer.
func intBytes(n int) []byte {
	return binary.AppendVarint(nil, int64(n))
}

// intsBytes is the encoding of a slice.
func intsBytes(l []int) []byte {
	encoding := uintBytes(len(l))
	for _, n := range l {
		encoding = append(encoding, intBytes(n)...)
	}
	return encoding
}

// stringBytes is the encoding of a string.
func stringBytes(s string) []byte {
	return append(uintBytes(len(s)), s...)
}

// frameBytes is the frame of a payload.
func frameBytes(payload []byte) []byte {
	content := append(uintBytes(len(payload)), payload...)
	return binary.LittleEndian.AppendUint32(content, crc32.ChecksumIEEE(content))
}

// definedUint decodes an integer by the definition, with integers of any size.
func definedUint(b []byte) (int, []byte, api.Errno) {
	end := slices.IndexFunc(b, func(c byte) bool { return c < 128 })
	switch {
	case (end < 0 || end >= 9) && len(b) >= 9:
		return 0, nil, api.ErrRange
	case end < 0:
		return 0, nil, api.ErrShort
	case end > 0 && b[end] == 0:
		return 0, nil, api.ErrForm
	}
	sum := new(big.Int)
	for i := end; i >= 0; i-- {
		sum.Add(sum.Mul(sum, big.NewInt(128)), big.NewInt(int64(b[i]%128)))
	}
	if sum.Cmp(big.NewInt(1<<62)) > 0 {
		return 0, nil, api.ErrRange
	}
	return int(sum.Int64()), b[end+1:], api.OK
}

// definedInt decodes a signed integer by the definition.
func definedInt(b []byte) (int, []byte, api.Errno) {
	n, rest, err := definedUint(b)
	if n%2 == 1 {
		return -(n + 1) / 2, rest, err
	}
	return n / 2, rest, err
}

// definedInts decodes a slice by the definition.
func definedInts(b []byte, most int) ([]int, []byte, api.Errno) {
	length, rest, err := definedUint(b)
	if err != api.OK {
		return nil, nil, err
	}
	if most < 0 && length > 0 || most >= 0 && length > most {
		return nil, nil, api.ErrLimit
	}
	var l []int
	for len(l) < length {
		var n int
		if n, rest, err = definedInt(rest); err != api.OK {
			return nil, nil, err
		}
		l = append(l, n)
	}
	return l, rest, api.OK
}

// definedString decodes a string by the definition.
func definedString(b []byte, most int) (string, []byte, api.Errno) {
	length, rest, err := definedUint(b)
	switch {
	case err != api.OK:
		return "", nil, err
	case most < 0 && length > 0 || most >= 0 && length > most:
		return "", nil, api.ErrLimit
	case length > len(rest):
		return "", nil, api.ErrShort
	}
	return string(rest[:length]), rest[length:], api.OK
}

// definedOpen decodes a frame by the definition.
func definedOpen(b []byte) ([]byte, []byte, api.Errno) {
	length, rest, err := definedUint(b)
	switch {
	case err != api.OK:
		return nil, nil, err
	case length > len(rest)-4:
		return nil, nil, api.ErrShort
	case !bytes.HasPrefix(b, frameBytes(rest[:length])):
		return nil, nil, api.ErrSum
	}
	return rest[:length], rest[length+4:], api.OK
}

// same reports a result that is not the wanted one. Nil and empty slices are the same.
func same(t *testing.T, what string, arguments, got, want any) {
	t.Helper()
	if a, b := fmt.Sprint(got), fmt.Sprint(want); a != b {
		t.Errorf("%s of %.300s = %.300s, want %.300s", what, fmt.Sprint(arguments), a, b)
	}
}

// results is the list of the results of a call.
func results[T any](result T, rest []byte, err api.Errno) []any {
	return []any{result, rest, err}
}

// failed is the list of the results of a call with an error.
func failed[T any](err api.Errno) []any {
	var zero T
	return results(zero, nil, err)
}

// repeat returns a byte many times, followed by others.
func repeat(c byte, number int, others ...byte) []byte {
	return append(bytes.Repeat([]byte{c}, number), others...)
}

// scrambled returns bytes that depend on seed.
func scrambled(length int, seed uint32) []byte {
	b := make([]byte, length)
	for i := range b {
		seed = seed*1664525 + 1013904223
		b[i] = byte(seed >> 24)
	}
	return b
}

// slicesOfNumbers are slices with elements in range: none, the bounds of the encodings of one and two bytes, the bounds of the range, and lengths of two and three bytes.
func slicesOfNumbers() [][]int {
	return [][]int{
		nil, {}, {0}, {1, -2}, {-1}, {63, 64, -64, -65}, {8191, 8192, -8192, -8193}, {1 << 61}, {-1 << 61}, {1 << 61, 0, -1 << 61, 1<<61 - 1, -1<<61 + 1}, {0, 0, 0}, {3, 2, 1, 0, -1, -2},
		make([]int, 127), make([]int, 128), slices.Repeat([]int{-1, 300}, 100), slices.Repeat([]int{1 << 40}, 16384), signedNumbers(),
	}
}

// texts are strings: empty, with bytes that look like encodings, of other characters, and with lengths at the bounds of the encodings.
func texts() []string {
	return []string{
		"", "a", "\x00", "\x80", "\xff\xff", "abc", "\x03abc", "naïve – 文字", strings.Repeat("x", 63), strings.Repeat("x", 64), strings.Repeat("y", 127), strings.Repeat("\x80", 128),
		string(scrambled(300, 1)), string(scrambled(16383, 2)), string(scrambled(16384, 3)), string(scrambled(100000, 4)),
	}
}

// payloads are the texts as bytes, and no bytes.
func payloads() [][]byte {
	all := [][]byte{nil}
	for _, s := range texts() {
		all = append(all, []byte(s))
	}
	return all
}

func TestExamples(t *testing.T) {
	same(t, "AppendUint", 300, AppendUint(nil, 300), []byte{172, 2})
	same(t, "Uint", 300, results(Uint([]byte{172, 2})), results(300, nil, api.OK))
	same(t, "Int", 300, results(Int([]byte{172, 2})), results(150, nil, api.OK))
	same(t, "AppendInt", -1, AppendInt(nil, -1), []byte{1})
	same(t, "AppendInts", "1, -2", AppendInts(nil, []int{1, -2}), []byte{2, 2, 3})
	same(t, "Checksum", "123456789", Checksum([]byte("123456789")), uint32(3421780262))
	same(t, "Checksum", "123456789", Checksum([]byte("123456789")), uint32(0xCBF43926))
	same(t, "Checksum", "no bytes", Checksum(nil), uint32(0))
	same(t, "Checksum", "the byte 0", Checksum([]byte{0}), uint32(0xD202EF8D))
	same(t, "Seal", "no bytes", Seal(nil), []byte{0, 141, 239, 2, 210})
	same(t, "Open", "no bytes", results(Open([]byte{0, 141, 239, 2, 210})), results([]byte{}, nil, api.OK))
}

func TestAppendUint(t *testing.T) {
	for n, want := range map[int][]byte{
		0: {0}, 1: {1}, 127: {127}, 128: {128, 1}, 129: {129, 1}, 255: {255, 1}, 256: {128, 2}, 300: {172, 2}, 16383: {255, 127}, 16384: {128, 128, 1},
		1 << 62: repeat(128, 8, 64), 1<<62 - 1: repeat(255, 8, 63), 1 << 56: repeat(128, 8, 1), 1<<56 - 1: repeat(255, 7, 127),
	} {
		same(t, "AppendUint", n, AppendUint(nil, n), want)
	}
	for _, start := range starts {
		for _, n := range unsignedNumbers() {
			same(t, "AppendUint", n, AppendUint(start, n), append(slices.Clone(start), uintBytes(n)...))
		}
		for _, n := range append([]int{-1, -2, -300, -1 << 61, -1<<61 - 1, -1 << 31}, outside...) {
			same(t, "AppendUint", n, AppendUint(start, n), start)
		}
	}
}

func TestUint(t *testing.T) {
	for _, n := range unsignedNumbers() {
		for _, tail := range tails {
			b := append(uintBytes(n), tail...)
			same(t, "Uint", b, results(Uint(b)), results(n, tail, api.OK))
		}
	}
}

// malformed returns texts without an integer at the beginning, with the error of each. Those that are too short have no tails, which could complete them.
func malformed() map[string]api.Errno {
	all := map[string]api.Errno{"": api.ErrShort}
	for size := 1; size < 9; size++ {
		for _, c := range []byte{128, 129, 200, 255} {
			all[string(repeat(c, size))] = api.ErrShort
		}
	}
	add := func(b []byte, err api.Errno) {
		for _, tail := range tails {
			all[string(b)+string(tail)] = err
		}
	}
	for size := 1; size < 9; size++ {
		add(repeat(128, size, 0), api.ErrForm)
		add(repeat(255, size, 0), api.ErrForm)
	}
	for _, c := range []byte{128, 129, 191, 192, 255} {
		add(repeat(c, 9), api.ErrRange)
		add(repeat(c, 9, 0), api.ErrRange)
		add(repeat(c, 9, 1), api.ErrRange)
		add(repeat(c, 10), api.ErrRange)
		add(repeat(c, 10, 1), api.ErrRange)
		add(repeat(c, 30), api.ErrRange)
	}
	add(append([]byte{129}, repeat(128, 7, 64)...), api.ErrRange)
	add(repeat(128, 7, 129, 64), api.ErrRange)
	add(repeat(128, 8, 65), api.ErrRange)
	add(repeat(128, 8, 96), api.ErrRange)
	add(repeat(255, 8, 64), api.ErrRange)
	add(repeat(255, 8, 127), api.ErrRange)
	return all
}

func TestUintErrors(t *testing.T) {
	for text, err := range malformed() {
		b := []byte(text)
		same(t, "Uint", b, results(Uint(b)), failed[int](err))
		same(t, "Int", b, results(Int(b)), failed[int](err))
		for _, most := range []int{-1, 0, 5, math.MaxInt, math.MinInt} {
			same(t, "Ints", b, results(Ints(b, most)), failed[[]int](err))
			same(t, "String", b, results(String(b, most)), failed[string](err))
		}
		same(t, "Open", b, results(Open(b)), failed[[]byte](err))
	}
}

// everyText calls f with the texts of at most length bytes, each of which begins or ends a part of the cases of an encoding.
func everyText(length int, f func(b []byte)) {
	var extend func(b []byte)
	extend = func(b []byte) {
		f(b)
		if len(b) == length {
			return
		}
		for _, c := range []byte{0, 1, 63, 64, 65, 127, 128, 129, 255} {
			extend(append(slices.Clip(b), c))
		}
	}
	extend(nil)
}

func TestUintOfEveryText(t *testing.T) {
	check := func(b []byte) {
		same(t, "Uint", b, results(Uint(b)), results(definedUint(b)))
		same(t, "Int", b, results(Int(b)), results(definedInt(b)))
	}
	everyText(4, check)
	for size := 4; size < 10; size++ {
		for _, c := range []byte{128, 255} {
			everyText(3, func(b []byte) { check(append(repeat(c, size), b...)) })
		}
	}
}

func TestAppendInt(t *testing.T) {
	for n, want := range map[int][]byte{
		0: {0}, -1: {1}, 1: {2}, -2: {3}, 2: {4}, 63: {126}, -64: {127}, 64: {128, 1}, -65: {129, 1}, 127: {254, 1}, 128: {128, 2}, 150: {172, 2},
		1 << 61: repeat(128, 8, 64), -1 << 61: repeat(255, 8, 63), 1<<61 - 1: append([]byte{254}, repeat(255, 7, 63)...),
	} {
		same(t, "AppendInt", n, AppendInt(nil, n), want)
	}
	for _, start := range starts {
		for _, n := range signedNumbers() {
			same(t, "AppendInt", n, AppendInt(start, n), append(slices.Clone(start), intBytes(n)...))
		}
		for _, n := range append([]int{1<<61 + 1, -1<<61 - 1, 1<<61 + 2, -1<<61 - 2, 1<<62 - 1, 1 << 62}, outside...) {
			same(t, "AppendInt", n, AppendInt(start, n), start)
		}
	}
}

func TestInt(t *testing.T) {
	for _, n := range signedNumbers() {
		for _, tail := range tails {
			b := append(intBytes(n), tail...)
			same(t, "Int", b, results(Int(b)), results(n, tail, api.OK))
		}
	}
}

func TestAppendInts(t *testing.T) {
	for _, start := range starts {
		for _, l := range slicesOfNumbers() {
			same(t, "AppendInts", l, AppendInts(start, l), append(slices.Clone(start), intsBytes(l)...))
		}
		for _, n := range append([]int{1<<61 + 1, -1<<61 - 1, 1 << 62}, outside...) {
			for _, l := range [][]int{{n}, {n, 1, 2}, {1, n, 2}, {1, 2, n}, {n, n}} {
				same(t, "AppendInts", l, AppendInts(start, l), start)
			}
		}
	}
}

func TestInts(t *testing.T) {
	for _, l := range slicesOfNumbers() {
		for _, tail := range tails {
			b := append(intsBytes(l), tail...)
			for _, most := range []int{len(l), len(l) + 1, 1 << 31, math.MaxInt} {
				same(t, "Ints", l, results(Ints(b, most)), results(l, tail, api.OK))
			}
			if len(l) > 0 {
				for _, most := range []int{len(l) - 1, 0, -1, math.MinInt, -len(l), -1 << 32} {
					same(t, "Ints", l, results(Ints(b, most)), failed[[]int](api.ErrLimit))
				}
			}
		}
	}
	for _, most := range []int{0, -1, -5, math.MinInt} {
		same(t, "Ints", most, results(Ints([]byte{0, 7}, most)), results([]int{}, []byte{7}, api.OK))
	}
}

func TestIntsErrors(t *testing.T) {
	// An element with an error after elements without one, and before one with another error.
	for text, err := range malformed() {
		for _, l := range [][]int{nil, {1}, {-1, 300}, {1 << 61, 0, -1 << 61}} {
			b := append([]byte{byte(len(l) + 1)}, intsBytes(l)[1:]...)
			b = append(b, text...)
			same(t, "Ints", b, results(Ints(b, len(l)+1)), failed[[]int](err))
			same(t, "Ints", b, results(Ints(b, len(l))), failed[[]int](api.ErrLimit))
			if err != api.ErrShort {
				b[0]++
				same(t, "Ints", b, results(Ints(append(b, 128, 0), math.MaxInt)), failed[[]int](err))
				same(t, "Ints", b, results(Ints(append(b, 128, 0), 1)), failed[[]int](api.ErrLimit))
			}
		}
	}
	// Lengths with too few elements behind them.
	for _, length := range []int{1, 2, 5, 128, 1 << 31, 1 << 32, 1 << 61, 1<<62 - 1, 1 << 62} {
		b := uintBytes(length)
		same(t, "Ints", b, results(Ints(b, math.MaxInt)), failed[[]int](api.ErrShort))
		same(t, "Ints", b, results(Ints(b, length-1)), failed[[]int](api.ErrLimit))
		if length > 5 {
			same(t, "Ints", b, results(Ints(append(b, 1, 2, 3, 4, 5), length)), failed[[]int](api.ErrShort))
			same(t, "Ints", b, results(Ints(append(b, 1, 2, 128, 0), length)), failed[[]int](api.ErrForm))
		}
	}
}

func TestAppendString(t *testing.T) {
	same(t, "AppendString", "abc", AppendString(nil, "abc"), []byte{3, 'a', 'b', 'c'})
	for _, start := range starts {
		for _, s := range texts() {
			same(t, "AppendString", s, AppendString(start, s), append(slices.Clone(start), stringBytes(s)...))
		}
	}
}

func TestString(t *testing.T) {
	for _, s := range texts() {
		for _, tail := range tails {
			b := append(stringBytes(s), tail...)
			for _, most := range []int{len(s), len(s) + 1, 1 << 31, math.MaxInt} {
				same(t, "String", s, results(String(b, most)), results(s, tail, api.OK))
			}
			if len(s) > 0 {
				for _, most := range []int{len(s) - 1, 0, -1, math.MinInt, -len(s), -1 << 32} {
					same(t, "String", s, results(String(b, most)), failed[string](api.ErrLimit))
				}
			}
		}
	}
	for _, most := range []int{0, -1, -5, math.MinInt} {
		same(t, "String", most, results(String([]byte{0, 7}, most)), results("", []byte{7}, api.OK))
	}
}

func TestStringErrors(t *testing.T) {
	for _, s := range texts() {
		b := stringBytes(s)
		for size := len(b) - len(s); size < len(b); size += 1 + size/50 {
			same(t, "String", b[:size], results(String(b[:size], len(s))), failed[string](api.ErrShort))
			same(t, "String", b[:size], results(String(b[:size], math.MaxInt)), failed[string](api.ErrShort))
			same(t, "String", b[:size], results(String(b[:size], len(s)-1)), failed[string](api.ErrLimit))
			same(t, "String", b[:size], results(String(b[:size], -1)), failed[string](api.ErrLimit))
		}
	}
	for _, length := range []int{4, 128, 1 << 31, 1 << 32, 1<<32 + 3, 1 << 61, 1<<62 - 1, 1 << 62} {
		b := append(uintBytes(length), 1, 2, 3)
		same(t, "String", b, results(String(b, math.MaxInt)), failed[string](api.ErrShort))
		same(t, "String", b, results(String(b, length)), failed[string](api.ErrShort))
		same(t, "String", b, results(String(b, length-1)), failed[string](api.ErrLimit))
	}
}

func TestChecksum(t *testing.T) {
	check := func(b []byte) {
		same(t, "Checksum", b, Checksum(b), crc32.ChecksumIEEE(b))
	}
	for c := range 256 {
		check([]byte{byte(c)})
		check([]byte{byte(c), 255})
		check([]byte{0, byte(c)})
	}
	for length := range 300 {
		check(make([]byte, length))
		check(repeat(255, length))
		check(scrambled(length, uint32(length)))
	}
	check(scrambled(100000, 9))
	same(t, "Checksum", "a", Checksum([]byte("a")), uint32(0xE8B7BE43))
	same(t, "Checksum", "four bytes", Checksum([]byte{255, 255, 255, 255}), uint32(0xFFFFFFFF))
}

func TestSealAndOpen(t *testing.T) {
	for _, payload := range payloads() {
		sealed := Seal(payload)
		same(t, "Seal", payload, sealed, frameBytes(payload))
		for _, tail := range append(tails, sealed) {
			b := append(slices.Clone(sealed), tail...)
			same(t, "Open", b, results(Open(b)), results(payload, tail, api.OK))
		}
	}
	for length := range 300 {
		same(t, "Seal", length, Seal(scrambled(length, 5)), frameBytes(scrambled(length, 5)))
	}
}

func TestOpenErrors(t *testing.T) {
	for _, length := range []int{0, 1, 4, 128, 1 << 31, 1 << 32, 1<<32 + 1, 1<<62 - 5, 1<<62 - 4, 1<<62 - 1, 1 << 62} {
		b := append(uintBytes(length), 1, 2, 3)
		same(t, "Open", b, results(Open(b)), failed[[]byte](api.ErrShort))
		if length > 0 {
			same(t, "Open", b, results(Open(append(b, 4))), failed[[]byte](api.ErrShort))
		}
	}
	// Checksums of other bytes, among them those of the payload without its length, in the other order, not inverted, or with another polynomial.
	for _, b := range [][]byte{
		{0, 0, 0, 0, 0}, {0, 141, 239, 2, 211}, {0, 210, 2, 239, 141}, {1, 0, 141, 239, 2, 210},
		binary.LittleEndian.AppendUint32([]byte{2, 5, 6}, crc32.ChecksumIEEE([]byte{5, 6})), binary.BigEndian.AppendUint32([]byte{2, 5, 6}, crc32.ChecksumIEEE([]byte{2, 5, 6})),
		binary.LittleEndian.AppendUint32([]byte{2, 5, 6}, crc32.ChecksumIEEE([]byte{1, 5, 6})), binary.LittleEndian.AppendUint32([]byte{2, 5, 6}, ^crc32.ChecksumIEEE([]byte{2, 5, 6})),
		binary.LittleEndian.AppendUint32([]byte{2, 5, 6}, crc32.Checksum([]byte{2, 5, 6}, crc32.MakeTable(crc32.Castagnoli))),
	} {
		for _, tail := range tails {
			same(t, "Open", b, results(Open(append(slices.Clone(b), tail...))), failed[[]byte](api.ErrSum))
		}
	}
	b := append(Seal([]byte("payload")), 1, 2, 3)
	for length := range 12 {
		if length != 7 {
			b[0] = byte(length)
			want := api.ErrSum
			if length > 10 {
				want = api.ErrShort
			}
			same(t, "Open", b, results(Open(b)), failed[[]byte](want))
		}
	}
}

// TestRoundTrip checks that decoding inverts encoding, also for encodings one after the other.
func TestRoundTrip(t *testing.T) {
	for _, n := range unsignedNumbers() {
		same(t, "Uint", n, results(Uint(AppendUint(nil, n))), results(n, nil, api.OK))
	}
	for _, n := range signedNumbers() {
		same(t, "Int", n, results(Int(AppendInt(nil, n))), results(n, nil, api.OK))
	}
	for _, l := range slicesOfNumbers() {
		b := AppendString(AppendInts(AppendInt(AppendUint(nil, len(l)), -7), l), "end")
		n, b, err := Uint(b)
		same(t, "Uint", l, []any{n, err}, []any{len(l), api.OK})
		n, b, err = Int(b)
		same(t, "Int", l, []any{n, err}, []any{-7, api.OK})
		got, b, err := Ints(b, len(l))
		same(t, "Ints", l, []any{got, err}, []any{l, api.OK})
		same(t, "String", l, results(String(b, 3)), results("end", nil, api.OK))
	}
	b := []byte{}
	for _, payload := range payloads() {
		b = slices.Concat(b, Seal(payload))
	}
	for _, want := range payloads() {
		payload, rest, err := Open(b)
		same(t, "Open", want, []any{payload, err}, []any{want, api.OK})
		b = rest
	}
	same(t, "the frames", "all payloads", b, []byte{})
}

// checkEncodings checks the decoding functions by the definition, and that whatever they decode is encoded as the same bytes.
func checkEncodings(t *testing.T, b []byte, most int) {
	t.Helper()
	n, rest, err := Uint(b)
	same(t, "Uint", b, results(n, rest, err), results(definedUint(b)))
	if err == api.OK {
		same(t, "AppendUint", n, slices.Concat(AppendUint(nil, n), rest), b)
	}
	n, rest, err = Int(b)
	same(t, "Int", b, results(n, rest, err), results(definedInt(b)))
	if err == api.OK {
		same(t, "AppendInt", n, slices.Concat(AppendInt(nil, n), rest), b)
	}
	l, rest, err := Ints(b, most)
	same(t, "Ints", b, results(l, rest, err), results(definedInts(b, most)))
	if err == api.OK {
		same(t, "AppendInts", l, slices.Concat(AppendInts(nil, l), rest), b)
	}
	s, rest, err := String(b, most)
	same(t, "String", b, results(s, rest, err), results(definedString(b, most)))
	if err == api.OK {
		same(t, "AppendString", s, slices.Concat(AppendString(nil, s), rest), b)
	}
	payload, rest, err := Open(b)
	same(t, "Open", b, results(payload, rest, err), results(definedOpen(b)))
	if err == api.OK {
		same(t, "Seal", payload, slices.Concat(Seal(payload), rest), b)
	}
}

func TestWhatIsDecodedIsEncoded(t *testing.T) {
	everyText(3, func(b []byte) {
		checkEncodings(t, b, 2)
		checkEncodings(t, append([]byte{2}, b...), 3)
		checkEncodings(t, append([]byte{3, 128, 1}, b...), math.MaxInt)
		checkEncodings(t, append(repeat(128, 6), b...), math.MaxInt)
		checkEncodings(t, append(Seal(b), b...), len(b))
	})
	for _, most := range []int{-1, 0, 1, math.MinInt, math.MaxInt} {
		everyText(2, func(b []byte) { checkEncodings(t, b, most) })
	}
}

func TestTruncation(t *testing.T) {
	check := func(sealed []byte, size int) {
		t.Helper()
		same(t, "Open", sealed[:size], results(Open(sealed[:size])), failed[[]byte](api.ErrShort))
	}
	for length := range 300 {
		sealed := Seal(scrambled(length, uint32(length)))
		for size := range sealed {
			check(sealed, size)
		}
	}
	for _, payload := range payloads() {
		sealed := Seal(payload)
		for size := 0; size < len(sealed); size += 1 + size/100 {
			check(sealed, size)
		}
		for size := max(0, len(sealed)-6); size < len(sealed); size++ {
			check(sealed, size)
		}
	}
}

// patterns are changes of at most 32 consecutive bits, as masks with the first bit set: all of at most 8 bits, and others of every length.
func patterns() []uint32 {
	var all []uint32
	for mask := uint32(1); mask < 256; mask += 2 {
		all = append(all, mask)
	}
	seed := uint32(77)
	for size := 9; size <= 32; size++ {
		last := uint32(1) << (size - 1)
		all = append(all, last|1, last|(last-1))
		for range 20 {
			seed = seed*1664525 + 1013904223
			all = append(all, last|1|seed>>(32-size))
		}
	}
	// The polynomial itself, in both orders of its bits, and its continuation.
	return append(all, polynomial|1, 0x04C11DB7, 0x82608EDB, 0xDB710641)
}

func TestBursts(t *testing.T) {
	for _, payload := range [][]byte{nil, {0}, {255}, []byte("ab"), []byte("123456789"), scrambled(40, 3), make([]byte, 20), scrambled(130, 8)} {
		sealed := Seal(payload)
		first := 8 * (len(sealed) - len(payload) - 4)
		for _, tail := range [][]byte{nil, {0, 1, 2, 3, 4, 5}} {
			for _, mask := range patterns() {
				for from := first; from < 8*len(sealed); from++ {
					b := append(slices.Clone(sealed), tail...)
					for i := range 32 {
						if mask>>i&1 == 1 && from+i < 8*len(sealed) {
							b[(from+i)/8] ^= 1 << ((from + i) % 8)
						}
					}
					if got, rest, err := Open(b); got != nil || rest != nil || err != api.ErrSum {
						t.Fatalf("Open of %v with the bits %b changed from %d on = %v, %v, %d", sealed, mask, from, got, rest, err)
					}
				}
			}
		}
	}
}

// TestBitsOfLargePayload changes one bit at each place, and the bits of four bytes.
func TestBitsOfLargePayload(t *testing.T) {
	sealed := Seal(scrambled(600, 6))
	for at := 2; at < len(sealed); at++ {
		for mask := 1; mask < 256; mask++ {
			b := slices.Clone(sealed)
			b[at] ^= byte(mask)
			same(t, "Open", []int{at, mask}, results(Open(b)), failed[[]byte](api.ErrSum))
		}
		if at+4 <= len(sealed) {
			b := slices.Clone(sealed)
			for i := range 4 {
				b[at+i] ^= byte(1 + at*(i+3)%255)
			}
			same(t, "Open", at, results(Open(b)), failed[[]byte](api.ErrSum))
		}
	}
	// Bytes behind the frame do not matter.
	b := append(slices.Clone(sealed), 9)
	same(t, "Open", "other bytes behind", results(Open(b)), results(scrambled(600, 6), []byte{9}, api.OK))
}

// overwrite changes the elements of a slice and the memory behind them.
func overwrite[T byte | int](l []T) {
	for i := range l[:cap(l)] {
		l[:cap(l)][i] = 99
	}
}

// TestNewMemory passes slices with memory behind them, overwrites the results and calls the functions again: neither the arguments nor the other results change.
func TestNewMemory(t *testing.T) {
	content := slices.Concat([]byte{3, 2, 3, 128, 1}, []byte("text"), make([]byte, 50))
	sealed := append(Seal([]byte("payload")), make([]byte, 50)...)
	numbers := append([]int{1, -2, 300}, make([]int, 50)...)
	want := fmt.Sprint(content, sealed, numbers)
	var previous string
	for range 2 {
		b, f, l := content[:9], sealed[:14], numbers[:3]
		_, afterUint, _ := Uint(b)
		_, afterInt, _ := Int(b)
		ints, afterInts, _ := Ints(b, 3)
		s, afterString, _ := String(b, 3)
		payload, afterOpen, err := Open(f)
		if err != api.OK || len(payload) != 7 || len(afterOpen) != 2 {
			t.Fatalf("Open(%v) = %v, %v, %d", f, payload, afterOpen, err)
		}
		lists := [][]byte{
			afterUint, afterInt, afterInts, afterString, afterOpen, payload, Seal(b), AppendUint(b, 300), AppendInt(b, 300), AppendInts(b, l), AppendString(b, "more"), AppendUint(b, -1), AppendInt(b, 1<<62), AppendInts(b, []int{1 << 62}), AppendInts(b, nil), AppendString(b, ""),
		}
		got := fmt.Sprint(lists, ints, s, Checksum(b))
		if previous != "" && got != previous {
			t.Fatalf("the results have changed from %s to %s", previous, got)
		}
		previous = got
		for i, list := range lists {
			before := fmt.Sprint(lists[i+1:])
			overwrite(list)
			same(t, "the later results", i, lists[i+1:], before)
		}
		overwrite(ints)
		if now := fmt.Sprint(content, sealed, numbers); now != want {
			t.Fatalf("the arguments have changed from %s to %s", want, now)
		}
	}
}

func FuzzFrame(f *testing.F) {
	f.Add([]byte{172, 2}, 5)
	f.Add([]byte{2, 2, 3, 9}, 2)
	f.Add([]byte{0, 141, 239, 2, 210}, 0)
	f.Add(repeat(128, 8, 64), math.MaxInt)
	f.Add(repeat(255, 9, 1), -1)
	f.Fuzz(func(t *testing.T, b []byte, most int) {
		checkEncodings(t, b, most)
		checkEncodings(t, append(Seal(b), b...), most)
	})
}
