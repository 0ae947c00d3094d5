package tests

import (
	"bytes"
	"math"
	"math/big"
	"slices"
	"testing"

	"loop.example/g00539/impl"
)

// expectInt also requires the zero value beside a code.
func expectInt(t *testing.T, call string, got impl.IntResult, code int64, value int64) {
	t.Helper()
	if got.Code != code || got.Value != value {
		t.Errorf("%s: got code %d and value %d, want %d and %d", call, got.Code, got.Value, code, value)
	}
}

func repeatInt(n int64, times int) []int64 {
	return slices.Repeat([]int64{n}, times)
}

// extremes are arguments at and beyond every bound of chapter 1.
func extremes() []int64 {
	return []int64{
		math.MinInt64, math.MinInt64 + 1, -1025, -1024, -257, -256, -255, -1, 0, 1, 2, 255, 256, 257, 1023, 1024, 1025,
		impl.MaxMoney - 1, impl.MaxMoney, impl.MaxMoney + 1, impl.MaxSum - 1, impl.MaxSum, impl.MaxSum + 1,
		math.MaxUint32, math.MaxUint32 + 2, math.MaxInt64 - 1, math.MaxInt64,
	}
}

// wellFormedBits lists all bits, those with the least exponent first.
func wellFormedBits() []int64 {
	var list []int64
	for exponent := int64(0); exponent < 4; exponent++ {
		for mantissa := int64(1); mantissa < 256; mantissa++ {
			list = append(list, 256*exponent+mantissa)
		}
	}
	return list
}

// sumByPowers computes the sum as a polynomial in 33 without any intermediate remainder.
func sumByPowers(data []byte) int64 {
	sum, base := new(big.Int), big.NewInt(33)
	power := func(n int) *big.Int { return new(big.Int).Exp(base, big.NewInt(int64(n)), nil) }
	sum.Mul(big.NewInt(5381), power(len(data)))
	for i, b := range data {
		term := power(len(data) - 1 - i)
		sum.Add(sum, term.Mul(term, big.NewInt(int64(b)+1)))
	}
	return sum.Mod(sum, big.NewInt(2147483647)).Int64()
}

func TestConstants(t *testing.T) {
	got := []int64{impl.OK, impl.ErrForm, impl.ErrMany, impl.ErrRange, impl.ErrNone, impl.ErrText, impl.ErrTaken, impl.ErrMoney, impl.ErrProof, impl.ErrState, impl.ErrFull, impl.MaxMoney, impl.MaxSum}
	want := []int64{0, 1, 2, 3, 4, 5, 6, 7, 8, 9, 10, 1000000, 2147483646}
	if !slices.Equal(got, want) {
		t.Errorf("got %v, want %v", got, want)
	}
}

// Promise 1: the functions of numbers return for all arguments, the same each time, with a zero value beside a code.
func TestPromise1NumbersOfChapter1(t *testing.T) {
	calls := map[string]func(int64) impl.IntResult{
		"TargetOf": impl.TargetOf,
		"BitsOf":   impl.BitsOf,
		"WorkOf":   impl.WorkOf,
		"SumInts":  func(n int64) impl.IntResult { return impl.SumInts([]int64{n}) },
		"TotalOf":  func(n int64) impl.IntResult { return impl.TotalOf([]int64{n}) },
	}
	for _, n := range extremes() {
		for name, call := range calls {
			expectPure(t, name, func() impl.IntResult { return call(n) })
		}
		for _, m := range extremes() {
			expectPure(t, "AddMoney", func() impl.IntResult { return impl.AddMoney(n, m) })
			expectPure(t, "SumInts", func() impl.IntResult { return impl.SumInts([]int64{n, m}) })
			expectPure(t, "TotalOf", func() impl.IntResult { return impl.TotalOf([]int64{n, m}) })
		}
	}
}

func expectPure(t *testing.T, call string, f func() impl.IntResult) {
	t.Helper()
	first := f()
	if first.Code != impl.OK && first.Value != 0 {
		t.Errorf("%s: value %d beside code %d", call, first.Value, first.Code)
	}
	if first.Value < 0 || first.Value > impl.MaxSum {
		t.Errorf("%s: value %d out of range", call, first.Value)
	}
	if again := f(); again != first {
		t.Errorf("%s: %v, then %v", call, first, again)
	}
}

// Promise 1: lists are neither changed nor written behind their end, and nil is an empty list.
func TestPromise1ListsOfChapter1(t *testing.T) {
	expectInt(t, "SumOf(nil)", impl.SumOf(nil), impl.OK, 5381)
	expectInt(t, "SumOf(empty)", impl.SumOf([]byte{}), impl.OK, 5381)
	expectInt(t, "SumInts(nil)", impl.SumInts(nil), impl.OK, 5381)
	expectInt(t, "SumInts(empty)", impl.SumInts([]int64{}), impl.OK, 5381)
	expectInt(t, "TotalOf(nil)", impl.TotalOf(nil), impl.OK, 0)
	expectInt(t, "TotalOf(empty)", impl.TotalOf([]int64{}), impl.OK, 0)

	data := []byte{9, 0, 255, 7, 7, 7, 7, 7}
	impl.SumOf(data[:3])
	if !bytes.Equal(data, []byte{9, 0, 255, 7, 7, 7, 7, 7}) {
		t.Errorf("SumOf changed its argument: %v", data)
	}
	for _, n := range extremes() {
		list := []int64{3, n, 1, 7, 7, 7}
		impl.SumInts(list[:3])
		impl.TotalOf(list[:3])
		if !slices.Equal(list, []int64{3, n, 1, 7, 7, 7}) {
			t.Errorf("a list was changed: %v", list)
		}
	}
}

func TestSumOf(t *testing.T) {
	expectInt(t, "one byte 0", impl.SumOf([]byte{0}), impl.OK, 177574)
	expectInt(t, "one byte 255", impl.SumOf([]byte{255}), impl.OK, 177829)
	expectInt(t, "two bytes 0", impl.SumOf([]byte{0, 0}), impl.OK, 5859943)
	for _, size := range []int{3, 4, 5, 17, 255, 1000, 4000} {
		data := make([]byte, size)
		for i := range data {
			data[i] = byte(i*i + 251*i + size)
		}
		expectInt(t, "patterned bytes", impl.SumOf(data), impl.OK, sumByPowers(data))
		high := bytes.Repeat([]byte{255}, size)
		expectInt(t, "high bytes", impl.SumOf(high), impl.OK, sumByPowers(high))
	}
	expectInt(t, "4001 bytes", impl.SumOf(make([]byte, 4001)), impl.ErrMany, 0)
	if impl.SumOf([]byte{1, 2}) == impl.SumOf([]byte{2, 1}) {
		t.Error("the sum does not depend on the order of the bytes")
	}
}

func TestSumInts(t *testing.T) {
	bytesOfList := []byte{0, 0, 0, 1, 0x12, 0x34, 0x56, 0x78, 0x7f, 0xff, 0xff, 0xfe, 0, 0, 0, 0}
	list := []int64{1, 0x12345678, impl.MaxSum, 0}
	expectInt(t, "four numbers", impl.SumInts(list), impl.OK, sumByPowers(bytesOfList))
	expectInt(t, "200 numbers", impl.SumInts(repeatInt(0, 200)), impl.OK, sumByPowers(make([]byte, 800)))
	expectInt(t, "201 numbers", impl.SumInts(repeatInt(0, 201)), impl.ErrMany, 0)
	expectInt(t, "201 malformed numbers", impl.SumInts(repeatInt(-1, 201)), impl.ErrMany, 0)
	for _, n := range []int64{-1, impl.MaxSum + 1, 1 << 32, math.MinInt64, math.MaxInt64} {
		expectInt(t, "malformed first", impl.SumInts([]int64{n, 1}), impl.ErrRange, 0)
		expectInt(t, "malformed last", impl.SumInts(append(repeatInt(1, 199), n)), impl.ErrRange, 0)
	}
}

func TestTargetOf(t *testing.T) {
	for bits, target := range map[int64]int64{
		1: 1, 2: 2, 255: 255, 257: 255, 258: 383, 511: 32767, 513: 32767, 514: 49151,
		767: 4194303, 769: 4194303, 770: 6291455, 1022: 534773759, 1023: 536870911,
	} {
		expectInt(t, "TargetOf", impl.TargetOf(bits), impl.OK, target)
	}
}

func TestMalformedBits(t *testing.T) {
	well := wellFormedBits()
	for _, bits := range append(extremes(), 512, 768, 1279, 1280, -254, -512, -768, 1<<32+1, math.MaxInt64-254) {
		if slices.Contains(well, bits) {
			continue
		}
		expectInt(t, "TargetOf", impl.TargetOf(bits), impl.ErrRange, 0)
		expectInt(t, "WorkOf", impl.WorkOf(bits), impl.ErrRange, 0)
	}
	for _, bits := range well {
		if impl.TargetOf(bits).Code != impl.OK || impl.WorkOf(bits).Code != impl.OK {
			t.Errorf("the bits %d were refused", bits)
		}
	}
}

func TestBitsOfEdges(t *testing.T) {
	for target, bits := range map[int64]int64{
		1: 1, 254: 254, 255: 255, 256: 255, 382: 255, 383: 258, 32767: 511, 32768: 511, 49150: 511, 49151: 514,
		4194303: 767, 6291454: 767, 6291455: 770, 536870910: 1022, 536870911: 1023, 536870912: 1023, impl.MaxSum: 1023,
	} {
		expectInt(t, "BitsOf", impl.BitsOf(target), impl.OK, bits)
	}
	for _, target := range []int64{0, -1, impl.MaxSum + 1, math.MinInt64, math.MaxInt64} {
		expectInt(t, "BitsOf", impl.BitsOf(target), impl.ErrRange, 0)
	}
}

// Promise 2: the bits of a target are the first ones of the greatest target that is not greater.
func TestPromise2Bits(t *testing.T) {
	for _, near := range wellFormedBits() {
		at := impl.TargetOf(near).Value
		for _, target := range []int64{at - 1, at, at + 1} {
			if target < 1 {
				continue
			}
			var best, reached int64
			for _, bits := range wellFormedBits() {
				if v := impl.TargetOf(bits).Value; v <= target && v > reached {
					best, reached = bits, v
				}
			}
			expectInt(t, "BitsOf", impl.BitsOf(target), impl.OK, best)
		}
	}
}

// Promise 2: a smaller target is more work; rounding may hide it only while the target is more than half as large.
func TestPromise2Work(t *testing.T) {
	for _, a := range wellFormedBits() {
		for _, b := range wellFormedBits() {
			small, large := impl.TargetOf(a).Value, impl.TargetOf(b).Value
			more, less := impl.WorkOf(a).Value, impl.WorkOf(b).Value
			if small <= large && more < less || 2*(small+1) <= large+1 && more <= less {
				t.Fatalf("target %d has work %d, target %d has work %d", small, more, large, less)
			}
		}
	}
}

func TestWorkOf(t *testing.T) {
	for bits, work := range map[int64]int64{
		1: 1073741823, 2: 715827882, 255: 8388607, 257: 8388607, 513: 65535, 769: 511, 1021: 4, 1022: 4, 1023: 3,
	} {
		expectInt(t, "WorkOf", impl.WorkOf(bits), impl.OK, work)
	}
}

// Promise 2: a sum above the limit is rejected, and a number that is no amount before that.
func TestPromise2AddMoney(t *testing.T) {
	cases := []struct{ a, b, code, value int64 }{
		{0, 0, impl.OK, 0}, {1, 2, impl.OK, 3}, {600000, 400000, impl.OK, 1000000}, {impl.MaxMoney, 0, impl.OK, 1000000},
		{600000, 400001, impl.ErrMoney, 0}, {impl.MaxMoney, 1, impl.ErrMoney, 0}, {impl.MaxMoney, impl.MaxMoney, impl.ErrMoney, 0},
		{-1, 0, impl.ErrRange, 0}, {-1, 1, impl.ErrRange, 0}, {impl.MaxMoney + 1, 0, impl.ErrRange, 0}, {impl.MaxMoney + 1, -1, impl.ErrRange, 0},
		{impl.MaxMoney, impl.MaxMoney + 1, impl.ErrRange, 0}, {math.MaxInt64, math.MaxInt64, impl.ErrRange, 0}, {math.MinInt64, math.MinInt64, impl.ErrRange, 0},
	}
	for _, c := range cases {
		expectInt(t, "AddMoney", impl.AddMoney(c.a, c.b), c.code, c.value)
		expectInt(t, "AddMoney turned", impl.AddMoney(c.b, c.a), c.code, c.value)
	}
}

func TestPromise2TotalOf(t *testing.T) {
	most := repeatInt(5000, 200)
	expectInt(t, "200 numbers at the limit", impl.TotalOf(most), impl.OK, 1000000)
	most[199]++
	expectInt(t, "200 numbers above the limit", impl.TotalOf(most), impl.ErrMoney, 0)
	expectInt(t, "200 greatest amounts", impl.TotalOf(repeatInt(impl.MaxMoney, 200)), impl.ErrMoney, 0)
	expectInt(t, "201 numbers", impl.TotalOf(repeatInt(0, 201)), impl.ErrMany, 0)
	expectInt(t, "201 malformed numbers", impl.TotalOf(repeatInt(-1, 201)), impl.ErrMany, 0)
	for _, n := range []int64{-1, impl.MaxMoney + 1, math.MinInt64, math.MaxInt64} {
		expectInt(t, "malformed alone", impl.TotalOf([]int64{n}), impl.ErrRange, 0)
		expectInt(t, "malformed first", impl.TotalOf([]int64{n, impl.MaxMoney, 1}), impl.ErrRange, 0)
		expectInt(t, "malformed after the limit", impl.TotalOf([]int64{impl.MaxMoney, 1, n}), impl.ErrRange, 0)
	}
}

// Promise 2: amounts are added in any order, at once or one after the other.
func TestPromise2AnyOrder(t *testing.T) {
	for _, c := range []struct {
		list        []int64
		code, value int64
	}{
		{[]int64{1, 20, 300, 4000}, impl.OK, 4321},
		{[]int64{999999, 0, 1, 0}, impl.OK, 1000000},
		{[]int64{999999, 1, 1, 0}, impl.ErrMoney, 0},
		{[]int64{1000000, 1000001, 5, 0}, impl.ErrRange, 0},
	} {
		for _, order := range ordersOf(c.list) {
			expectInt(t, "TotalOf", impl.TotalOf(order), c.code, c.value)
			if c.code != impl.OK {
				continue
			}
			sum := impl.IntResult{}
			for _, n := range order {
				sum = impl.AddMoney(sum.Value, n)
			}
			expectInt(t, "AddMoney one by one", sum, c.code, c.value)
		}
	}
}

func ordersOf(list []int64) [][]int64 {
	if len(list) == 0 {
		return [][]int64{nil}
	}
	var all [][]int64
	for i, first := range list {
		rest := slices.Delete(slices.Clone(list), i, i+1)
		for _, order := range ordersOf(rest) {
			all = append(all, append([]int64{first}, order...))
		}
	}
	return all
}
