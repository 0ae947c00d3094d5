package tests

import (
	"math"
	"math/rand/v2"
	"slices"
	"testing"

	"loop.example/g00539/impl"
)

// expectRun also requires an empty stack beside a code.
func expectRun(t *testing.T, call string, got impl.RunResult, code int64, stack ...int64) {
	t.Helper()
	if got.Code != code || !slices.Equal(got.Stack, stack) {
		t.Errorf("%s: got code %d and stack %v, want %d and %v", call, got.Code, got.Stack, code, stack)
	}
}

// expectList also requires an empty list beside a code.
func expectList(t *testing.T, call string, got impl.IntsResult, code int64, list ...int64) {
	t.Helper()
	if got.Code != code || !slices.Equal(got.List, list) {
		t.Errorf("%s: got code %d and list %v, want %d and %v", call, got.Code, got.List, code, list)
	}
}

func run(p []int64, stack ...int64) impl.RunResult {
	return impl.RunProgram(p, stack, 77, 50)
}

func program(ops ...int64) []int64 {
	return ops
}

func pushed(n int64) int64 {
	return impl.OpPush + n
}

func signature(key int64, text int64) int64 {
	return impl.SignOf(key, text).Value
}

// sumOfInts computes the sum of the four-byte numbers without the package.
func sumOfInts(list ...int64) int64 {
	var data []byte
	for _, n := range list {
		data = append(data, byte(n>>24), byte(n>>16), byte(n>>8), byte(n))
	}
	return sumByPowers(data)
}

func shortSumOf(list ...int64) int64 {
	return sumOfInts(list...) % 1000
}

// malformedKeys are no keys, although 900 to 999 can be pushed.
func malformedKeys() []int64 {
	return []int64{-1, 900, 901, 999, 1000, 9999, 1 << 32, math.MinInt64, math.MaxInt64}
}

func malformedOperations() []int64 {
	return []int64{math.MinInt64, -100, -1, 0, 10, 11, 50, 98, 99, 1100, 1101, 2147483647, 1<<32 + 1, 1<<32 + 100, math.MaxInt64}
}

func allOperations() []int64 {
	var list []int64
	for op := int64(impl.OpDup); op <= impl.OpAfter; op++ {
		list = append(list, op)
	}
	for n := int64(0); n <= 999; n++ {
		list = append(list, pushed(n))
	}
	return list
}

// texts are sums that may be signed.
func texts() []int64 {
	return []int64{0, 1, 77, 5381, 123456789, impl.MaxSum - 1, impl.MaxSum}
}

func TestConstantsOfChapter2(t *testing.T) {
	got := []int64{impl.OpDup, impl.OpDrop, impl.OpSwap, impl.OpAdd, impl.OpEqual, impl.OpVerify, impl.OpSum, impl.OpSign, impl.OpAfter, impl.OpPush, impl.MaxProgram, impl.MaxStack}
	want := []int64{1, 2, 3, 4, 5, 6, 7, 8, 9, 100, 12, 8}
	if !slices.Equal(got, want) {
		t.Errorf("got %v, want %v", got, want)
	}
}

// Promise 1: all functions return for all arguments, the same each time, with zero values beside a code.
func TestPromise1NumbersOfChapter2(t *testing.T) {
	for _, a := range append(extremes(), 10, 99, 100, 899, 900, 999, 1000, 1099, 1100, 9999, 10000) {
		for _, b := range append(extremes(), 8, 899, 900, 999, 1000, 9999, 10000) {
			expectPure(t, "SignOf", func() impl.IntResult { return impl.SignOf(a, b) })
			expectSameList(t, "KeyLock", func() impl.IntsResult { return impl.KeyLock(a) })
			expectSameList(t, "PairLock", func() impl.IntsResult { return impl.PairLock(a, b) })
			expectSameList(t, "LaterLock", func() impl.IntsResult { return impl.LaterLock(a, b) })
			expectSameRun(t, []int64{a}, []int64{b}, 7, 9)
			expectSameRun(t, []int64{impl.OpDup, impl.OpSign}, []int64{7, 7}, a, b)
			expectSameRun(t, []int64{a, b}, []int64{1, 2, 3}, 7, 9)
			expectSameRun(t, []int64{impl.OpAdd}, []int64{a, b}, 7, 9)
		}
	}
}

func expectSameList(t *testing.T, call string, f func() impl.IntsResult) {
	t.Helper()
	first := f()
	if first.Code != impl.OK && len(first.List) != 0 {
		t.Errorf("%s: list %v beside code %d", call, first.List, first.Code)
	}
	if again := f(); again.Code != first.Code || !slices.Equal(again.List, first.List) {
		t.Errorf("%s: %v, then %v", call, first, again)
	}
}

// expectSameRun runs a program twice; what Opens reports must be what RunProgram leaves.
func expectSameRun(t *testing.T, p []int64, stack []int64, text int64, height int64) {
	t.Helper()
	first := impl.RunProgram(p, stack, text, height)
	if first.Code != impl.OK && len(first.Stack) != 0 {
		t.Errorf("%v on %v: stack %v beside code %d", p, stack, first.Stack, first.Code)
	}
	again := impl.RunProgram(p, stack, text, height)
	expectRun(t, "the same program again", again, first.Code, first.Stack...)
	top := int64(0)
	if n := len(first.Stack); n > 0 {
		top = first.Stack[n-1]
	}
	if impl.Opens(p, stack, text, height) != (top != 0) {
		t.Errorf("%v on %v leaves %v, but Opens reports %t", p, stack, first, top == 0)
	}
}

// Promise 1: nil is an empty list, and arguments are neither changed nor written behind their end.
func TestPromise1ListsOfChapter2(t *testing.T) {
	for _, empty := range [][]int64{nil, {}} {
		if code := impl.ProgramFault(empty); code != impl.OK {
			t.Errorf("the empty program has the fault %d", code)
		}
		expectRun(t, "nothing on nothing", impl.RunProgram(empty, empty, 0, 0), impl.OK)
		expectRun(t, "nothing on three", impl.RunProgram(empty, []int64{4, 5, 6}, 0, 0), impl.OK, 4, 5, 6)
		expectRun(t, "a push on nothing", impl.RunProgram(program(pushed(5)), empty, 0, 0), impl.OK, 5)
	}
	for _, op := range []int64{impl.OpDup, impl.OpDrop, impl.OpSwap, impl.OpAdd, impl.OpEqual, impl.OpVerify, impl.OpSum, impl.OpSign, impl.OpAfter, pushed(4), 0} {
		p := []int64{op, pushed(1), pushed(2), 3, 3}
		stack := []int64{1, 2, 3, 9, 9, 9}
		impl.ProgramFault(p[:3])
		impl.RunProgram(p[:3], stack[:3], 77, 50)
		impl.Opens(p[:3], stack[:3], 77, 50)
		if !slices.Equal(p, []int64{op, pushed(1), pushed(2), 3, 3}) || !slices.Equal(stack, []int64{1, 2, 3, 9, 9, 9}) {
			t.Errorf("operation %d changed %v or %v", op, p, stack)
		}
	}
}

// Promise 1: results are new memory, also when nothing was executed or everything is as before.
func TestPromise1NewMemoryOfChapter2(t *testing.T) {
	stack := []int64{1, 2, 3}
	for _, p := range [][]int64{nil, {pushed(5), impl.OpDrop}, {impl.OpSwap, impl.OpSwap}} {
		left := impl.RunProgram(p, stack, 77, 50)
		left.Stack[0], left.Stack[2] = 8, 8
		_ = append(left.Stack[:1], 9, 9)
		expectRun(t, "after a result was changed", impl.RunProgram(p, stack, 77, 50), impl.OK, 1, 2, 3)
	}
	for _, lock := range []func() impl.IntsResult{
		func() impl.IntsResult { return impl.KeyLock(3) },
		func() impl.IntsResult { return impl.PairLock(3, 4) },
		func() impl.IntsResult { return impl.LaterLock(3, 9) },
	} {
		first := lock()
		want := slices.Clone(first.List)
		first.List[0], first.List[1] = 0, 0
		expectList(t, "after a result was changed", lock(), impl.OK, want...)
	}
}

func TestProgramFault(t *testing.T) {
	for _, op := range allOperations() {
		if code := impl.ProgramFault(program(op)); code != impl.OK {
			t.Errorf("operation %d has the fault %d", op, code)
		}
	}
	for _, op := range malformedOperations() {
		for _, p := range [][]int64{{op}, {op, impl.OpDup}, append(repeatInt(impl.OpDup, 11), op)} {
			if code := impl.ProgramFault(p); code != impl.ErrForm {
				t.Errorf("program %v has the fault %d", p, code)
			}
		}
		if code := impl.ProgramFault(repeatInt(op, 13)); code != impl.ErrMany {
			t.Errorf("13 malformed operations %d have the fault %d", op, code)
		}
	}
	for size, want := range map[int]int64{11: impl.OK, 12: impl.OK, 13: impl.ErrMany, 1000: impl.ErrMany} {
		if code := impl.ProgramFault(repeatInt(pushed(1), size)); code != want {
			t.Errorf("%d operations have the fault %d", size, code)
		}
	}
}

func TestRunProgramLimits(t *testing.T) {
	// pairs of push and drop fit a stack of any height below the limit
	twelve := slices.Repeat([]int64{pushed(6), impl.OpDrop}, 6)
	expectRun(t, "12 operations", run(twelve, 3), impl.OK, 3)
	expectRun(t, "13 operations", run(append(twelve, pushed(6)), 3), impl.ErrMany)
	expectRun(t, "8 numbers", run(nil, 0, 1, 2, 3, 4, 5, 6, 9999), impl.OK, 0, 1, 2, 3, 4, 5, 6, 9999)
	expectRun(t, "9 numbers", run(nil, repeatInt(0, 9)...), impl.ErrMany)
	for _, n := range []int64{0, 9999} {
		expectRun(t, "a number at its limit", run(nil, n), impl.OK, n)
	}
	for _, n := range []int64{-1, 10000, math.MinInt64, math.MaxInt64} {
		expectRun(t, "a malformed number first", run(nil, n, 1), impl.ErrRange)
		expectRun(t, "a malformed number last", run(nil, append(repeatInt(1, 7), n)...), impl.ErrRange)
		expectRun(t, "a malformed number to drop", run(program(impl.OpDrop), n), impl.ErrRange)
	}
	for _, text := range []int64{0, impl.MaxSum} {
		expectRun(t, "a text at its limit", impl.RunProgram(nil, []int64{1}, text, 0), impl.OK, 1)
	}
	for _, height := range []int64{0, 9999} {
		expectRun(t, "a height at its limit", impl.RunProgram(nil, []int64{1}, 0, height), impl.OK, 1)
	}
	for _, text := range []int64{-1, impl.MaxSum + 1, math.MinInt64, math.MaxInt64} {
		expectRun(t, "a malformed text", impl.RunProgram(nil, []int64{1}, text, 0), impl.ErrRange)
	}
	for _, height := range []int64{-1, 10000, math.MinInt64, math.MaxInt64} {
		expectRun(t, "a malformed height", impl.RunProgram(nil, []int64{1}, 0, height), impl.ErrRange)
	}
}

// The codes come in the order of the contract: the program, the stack, text and height, the execution.
func TestRunProgramOrderOfCodes(t *testing.T) {
	nine, wrong := repeatInt(-1, 9), []int64{-1}
	expectRun(t, "13 malformed operations before 9 numbers", impl.RunProgram(repeatInt(0, 13), nine, -1, -1), impl.ErrMany)
	expectRun(t, "a malformed operation before 9 numbers", impl.RunProgram(program(0), nine, -1, -1), impl.ErrForm)
	expectRun(t, "a malformed operation before a malformed number", impl.RunProgram(program(impl.OpDup, 0), wrong, 0, 0), impl.ErrForm)
	expectRun(t, "a malformed operation before a malformed text", impl.RunProgram(program(0), nil, -1, 0), impl.ErrForm)
	expectRun(t, "9 malformed numbers", impl.RunProgram(nil, nine, -1, -1), impl.ErrMany)
	expectRun(t, "9 numbers before a failure", impl.RunProgram(program(pushed(0), impl.OpVerify), repeatInt(0, 9), 0, 0), impl.ErrMany)
	expectRun(t, "a malformed number before a failure", impl.RunProgram(program(pushed(0), impl.OpVerify), wrong, 0, 0), impl.ErrRange)
	for _, p := range [][]int64{{impl.OpDrop}, {pushed(0), impl.OpVerify}, repeatInt(pushed(0), 9)} {
		expectRun(t, "a malformed text before a failure", impl.RunProgram(p, nil, -1, 0), impl.ErrRange)
		expectRun(t, "a malformed height before a failure", impl.RunProgram(p, nil, 0, -1), impl.ErrRange)
		expectRun(t, "a malformed operation behind a failure", impl.RunProgram(append(slices.Clone(p), 10), nil, 0, 0), impl.ErrForm)
	}
	expectRun(t, "the first failure counts", run(program(impl.OpVerify, impl.OpAdd), 1, 0), impl.ErrProof)
	expectRun(t, "the first failure counts", run(program(impl.OpAdd, impl.OpVerify), 0), impl.ErrNone)
	expectRun(t, "the first failure counts", run(program(impl.OpAdd, impl.OpSwap), 9999, 1), impl.ErrRange)
	expectRun(t, "the first failure counts", run(program(impl.OpDup, impl.OpAdd), repeatInt(9999, 8)...), impl.ErrFull)
}

// Each operation on each size of stack: what it needs, and what it leaves below.
func TestRunProgramSizes(t *testing.T) {
	for _, c := range []struct{ op, needs, leaves int64 }{
		{impl.OpDup, 1, 2}, {impl.OpDrop, 1, 0}, {impl.OpSwap, 2, 2}, {impl.OpAdd, 2, 1}, {impl.OpEqual, 2, 1},
		{impl.OpVerify, 1, 0}, {impl.OpSum, 1, 1}, {impl.OpSign, 2, 1}, {impl.OpAfter, 1, 0}, {pushed(1), 0, 1},
	} {
		for size := range int64(9) {
			stack := make([]int64, size)
			for i := range stack {
				stack[i] = int64(i) + 1
			}
			got := run(program(c.op), stack...)
			if size < c.needs {
				expectRun(t, "too few numbers", got, impl.ErrNone)
				continue
			}
			if size-c.needs+c.leaves > 8 {
				expectRun(t, "too many numbers", got, impl.ErrFull)
				continue
			}
			below := stack[:size-c.needs]
			if got.Code != impl.OK || int64(len(got.Stack)) != size-c.needs+c.leaves || !slices.Equal(got.Stack[:len(below)], below) {
				t.Errorf("operation %d on %v: %v", c.op, stack, got)
			}
		}
	}
}

func TestRunProgramPush(t *testing.T) {
	for n := range int64(1000) {
		expectRun(t, "push", run(program(pushed(n)), 5), impl.OK, 5, n)
	}
	for size := range 9 {
		expectRun(t, "pushes", run(repeatInt(pushed(7), size)), impl.OK, repeatInt(7, size)...)
	}
	expectRun(t, "9 pushes", run(repeatInt(pushed(7), 9)), impl.ErrFull)
	expectRun(t, "a push on 8 numbers", run(program(pushed(0)), repeatInt(1, 8)...), impl.ErrFull)
}

func TestRunProgramMoves(t *testing.T) {
	expectRun(t, "dup", run(program(impl.OpDup), 4, 9999), impl.OK, 4, 9999, 9999)
	expectRun(t, "dup of 0", run(program(impl.OpDup), 0), impl.OK, 0, 0)
	expectRun(t, "drop", run(program(impl.OpDrop), 4, 5, 6), impl.OK, 4, 5)
	expectRun(t, "drop of the last", run(program(impl.OpDrop), 0), impl.OK)
	expectRun(t, "swap", run(program(impl.OpSwap), 4, 5, 6), impl.OK, 4, 6, 5)
	expectRun(t, "swap of 8", run(program(impl.OpSwap), 1, 2, 3, 4, 5, 6, 7, 8), impl.OK, 1, 2, 3, 4, 5, 6, 8, 7)
	expectRun(t, "in order", run(program(pushed(5), impl.OpDup, impl.OpAdd, pushed(3), impl.OpSwap), 7), impl.OK, 7, 3, 10)
}

func TestRunProgramAdd(t *testing.T) {
	for _, c := range []struct{ a, b, code, sum int64 }{
		{0, 0, impl.OK, 0}, {2, 3, impl.OK, 5}, {0, 9999, impl.OK, 9999}, {1, 9998, impl.OK, 9999}, {5000, 4999, impl.OK, 9999},
		{1, 9999, impl.ErrRange, 0}, {5000, 5000, impl.ErrRange, 0}, {9999, 9999, impl.ErrRange, 0},
	} {
		for _, stack := range [][]int64{{6, c.a, c.b}, {6, c.b, c.a}} {
			if c.code == impl.OK {
				expectRun(t, "add", run(program(impl.OpAdd), stack...), c.code, 6, c.sum)
			} else {
				expectRun(t, "add", run(program(impl.OpAdd), stack...), c.code)
			}
		}
	}
}

func TestRunProgramEqual(t *testing.T) {
	for _, a := range []int64{0, 1, 2, 7, 1001, 9999} {
		for _, b := range []int64{0, 1, 2, 7, 1001, 9999} {
			want := int64(0)
			if a == b {
				want = 1
			}
			expectRun(t, "equal", run(program(impl.OpEqual), 6, a, b), impl.OK, 6, want)
		}
	}
}

func TestRunProgramVerify(t *testing.T) {
	for _, n := range []int64{1, 2, 10, 9999} {
		expectRun(t, "verify", run(program(impl.OpVerify), 0, n), impl.OK, 0)
		expectRun(t, "verify of the last", run(program(impl.OpVerify), n), impl.OK)
	}
	expectRun(t, "verify of 0", run(program(impl.OpVerify), 1, 0), impl.ErrProof)
	expectRun(t, "verify of nothing", run(program(impl.OpVerify)), impl.ErrNone)
}

func TestRunProgramSum(t *testing.T) {
	for n := range int64(10000) {
		expectRun(t, "sum", run(program(impl.OpSum), 6, n), impl.OK, 6, shortSumOf(n))
	}
	expectRun(t, "sum of a sum", run(program(impl.OpSum, impl.OpSum), 5), impl.OK, shortSumOf(shortSumOf(5)))
}

func TestRunProgramSign(t *testing.T) {
	for _, text := range texts() {
		for _, key := range []int64{0, 1, 3, 898, 899} {
			good := signature(key, text)
			for _, claimed := range []int64{good, (good + 1) % 1000, (good + 999) % 1000, good + 1000, 0, 1, 9999} {
				want := int64(0)
				if claimed == good {
					want = 1
				}
				expectRun(t, "sign", impl.RunProgram(program(impl.OpSign), []int64{6, claimed, key}, text, 0), impl.OK, 6, want)
			}
		}
	}
}

// The upper number is the key: in the other order the same numbers are no signature.
func TestRunProgramSignOrder(t *testing.T) {
	good := signature(3, 77)
	if good == 3 || good < 900 && signature(good, 77) == 3 {
		t.Fatalf("the signature %d does not tell the orders apart", good)
	}
	expectRun(t, "the key on top", run(program(impl.OpSign), good, 3), impl.OK, 1)
	expectRun(t, "the signature on top", run(program(impl.OpSign), 3, good), impl.OK, 0)
	expectRun(t, "swapped", run(program(impl.OpSwap, impl.OpSign), 3, good), impl.OK, 1)
	expectRun(t, "for another text", impl.RunProgram(program(impl.OpSign), []int64{good, 3}, 78, 0), impl.OK, 0)
}

// A top that is no key gives 0 and no code, whatever is below it.
func TestRunProgramSignWithoutKey(t *testing.T) {
	for _, top := range []int64{900, 901, 950, 999, 1000, 9999} {
		for _, other := range []int64{0, 1, 899, top, shortSumOf(top, 77, 7)} {
			expectRun(t, "no key", run(program(impl.OpSign), 6, other, top), impl.OK, 6, 0)
		}
	}
	for top := int64(900); top <= 999; top++ {
		expectRun(t, "no key, pushed", run(program(pushed(top), impl.OpSign), shortSumOf(top, 77, 7)), impl.OK, 0)
	}
	// a key whose signature is 0 is still a key
	for text := range int64(5000) {
		if signature(3, text) == 0 {
			expectRun(t, "a signature of 0", impl.RunProgram(program(impl.OpSign), []int64{0, 3}, text, 0), impl.OK, 1)
			return
		}
	}
	t.Error("no text has the signature 0")
}

func TestRunProgramAfter(t *testing.T) {
	for _, n := range []int64{0, 1, 9, 50, 999, 9998, 9999} {
		expectRun(t, "at the height", impl.RunProgram(program(impl.OpAfter), []int64{6, n}, 0, n), impl.OK, 6)
		expectRun(t, "at the greatest height", impl.RunProgram(program(impl.OpAfter), []int64{6, n}, 0, 9999), impl.OK, 6)
		if n > 0 {
			expectRun(t, "one before", impl.RunProgram(program(impl.OpAfter), []int64{6, n}, 0, n-1), impl.ErrProof)
			expectRun(t, "at height 0", impl.RunProgram(program(impl.OpAfter), []int64{6, n}, 0, 0), impl.ErrProof)
		}
	}
	expectRun(t, "after without a number", run(program(impl.OpAfter)), impl.ErrNone)
}

func TestSignOf(t *testing.T) {
	for _, text := range texts() {
		for key := range int64(900) {
			expectInt(t, "SignOf", impl.SignOf(key, text), impl.OK, shortSumOf(key, text, 7))
		}
	}
	for _, key := range malformedKeys() {
		expectInt(t, "SignOf without a key", impl.SignOf(key, 77), impl.ErrRange, 0)
	}
	for _, text := range []int64{-1, impl.MaxSum + 1, 1 << 32, math.MinInt64, math.MaxInt64} {
		expectInt(t, "SignOf without a text", impl.SignOf(3, text), impl.ErrRange, 0)
	}
}

func TestLocks(t *testing.T) {
	expectList(t, "KeyLock", impl.KeyLock(3), impl.OK, 103, 8)
	for key := range int64(900) {
		expectList(t, "KeyLock", impl.KeyLock(key), impl.OK, 100+key, 8)
		expectList(t, "PairLock", impl.PairLock(key, 899-key), impl.OK, 100+key, 8, 6, 999-key, 8)
		expectList(t, "LaterLock", impl.LaterLock(key, 999-key), impl.OK, 1099-key, 9, 100+key, 8)
	}
	expectList(t, "PairLock of one key", impl.PairLock(5, 5), impl.OK, 105, 8, 6, 105, 8)
	expectList(t, "LaterLock of height 0", impl.LaterLock(899, 0), impl.OK, 100, 9, 999, 8)
	for _, key := range malformedKeys() {
		expectList(t, "KeyLock without a key", impl.KeyLock(key), impl.ErrRange)
		expectList(t, "PairLock without the first key", impl.PairLock(key, 3), impl.ErrRange)
		expectList(t, "PairLock without the second key", impl.PairLock(3, key), impl.ErrRange)
		expectList(t, "LaterLock without a key", impl.LaterLock(key, 9), impl.ErrRange)
	}
	for _, height := range []int64{-1, 1000, 9999, math.MinInt64, math.MaxInt64} {
		expectList(t, "LaterLock without a height", impl.LaterLock(3, height), impl.ErrRange)
	}
}

func TestOpens(t *testing.T) {
	for _, c := range []struct {
		call     string
		p, proof []int64
		want     bool
	}{
		{"nothing left", nil, nil, false},
		{"everything dropped", program(impl.OpDrop), []int64{1}, false},
		{"a top of 1", nil, []int64{1}, true},
		{"a top of 9999", nil, []int64{0, 9999}, true},
		{"a top of 0", nil, []int64{0}, false},
		{"0 above others", nil, []int64{1, 1, 0}, false},
		{"a full stack", nil, []int64{0, 0, 0, 0, 0, 0, 0, 1}, true},
		{"too full a stack", nil, repeatInt(1, 9), false},
		{"a push of 1", program(pushed(1)), nil, true},
		{"a push of 0", program(pushed(0)), nil, false},
		{"a malformed operation", program(pushed(1), 10), nil, false},
		{"too many operations", append(slices.Repeat([]int64{pushed(1), impl.OpDrop}, 6), pushed(1)), nil, false},
		{"a malformed number", program(pushed(1)), []int64{-1}, false},
		{"a failure above others", program(pushed(0), impl.OpVerify), []int64{1}, false},
		{"a missing number", program(impl.OpSwap), []int64{1}, false},
	} {
		if impl.Opens(c.p, c.proof, 77, 50) != c.want {
			t.Errorf("%s: Opens does not report %t", c.call, c.want)
		}
	}
	for _, n := range []int64{-1, math.MinInt64, math.MaxInt64} {
		if impl.Opens(nil, []int64{1}, n, 0) || impl.Opens(nil, []int64{1}, 0, n) {
			t.Errorf("opened with the text or the height %d", n)
		}
	}
	if impl.Opens(nil, []int64{1}, impl.MaxSum+1, 0) || impl.Opens(nil, []int64{1}, 0, 10000) || !impl.Opens(nil, []int64{1}, impl.MaxSum, 9999) {
		t.Error("the limits of text and height are not those of RunProgram")
	}
}

// Promise 3: the holder of a key opens its lock, and nothing but the signature does.
func TestPromise3KeyLock(t *testing.T) {
	for _, text := range texts() {
		for key := range int64(900) {
			lock := impl.KeyLock(key).List
			good := signature(key, text)
			if !impl.Opens(lock, []int64{good}, text, 0) || !impl.Opens(lock, []int64{9999, good}, text, 9999) {
				t.Fatalf("the holder of key %d does not open its lock for the text %d", key, text)
			}
			if impl.Opens(lock, []int64{(good + 1) % 1000}, text, 0) || impl.Opens(lock, []int64{good + 1000}, text, 0) || impl.Opens(lock, nil, text, 0) {
				t.Fatalf("the lock of key %d is open for the text %d", key, text)
			}
		}
	}
	lock, good := impl.KeyLock(3).List, signature(3, 77)
	for claimed := range int64(10000) {
		if impl.Opens(lock, []int64{claimed}, 77, 0) != (claimed == good) {
			t.Errorf("the lock of key 3 and the proof %d", claimed)
		}
	}
}

// Promise 3: the holder of both keys opens a pair lock, the first one's signature on top; one signature is not enough.
func TestPromise3PairLock(t *testing.T) {
	keys := []int64{0, 3, 4, 450, 898, 899}
	for _, text := range texts() {
		for _, a := range keys {
			for _, b := range keys {
				lock := impl.PairLock(a, b).List
				first, second := signature(a, text), signature(b, text)
				if !impl.Opens(lock, []int64{second, first}, text, 0) {
					t.Errorf("the holder of %d and %d does not open their lock for the text %d", a, b, text)
				}
				if impl.Opens(lock, []int64{first, second}, text, 0) != (first == second) {
					t.Errorf("the lock of %d and %d with the proofs in the other order", a, b)
				}
				wrong := []int64{(second + 1) % 1000, first, second, (first + 1) % 1000}
				if impl.Opens(lock, wrong[:2], text, 0) || impl.Opens(lock, wrong[2:], text, 0) {
					t.Errorf("half a proof opens the lock of %d and %d", a, b)
				}
				if impl.Opens(lock, []int64{first}, text, 0) || impl.Opens(lock, nil, text, 0) {
					t.Errorf("one signature opens the lock of %d and %d", a, b)
				}
			}
		}
	}
}

// Promise 3: a later lock is not opened before its height, and from then on by its key.
func TestPromise3LaterLock(t *testing.T) {
	for _, height := range []int64{0, 1, 9, 10, 500, 998, 999} {
		for _, key := range []int64{0, 3, 899} {
			lock, good := impl.LaterLock(key, height).List, signature(key, 77)
			for at := range int64(1002) {
				if impl.Opens(lock, []int64{good}, 77, at) != (at >= height) {
					t.Errorf("the lock of key %d and height %d at height %d", key, height, at)
				}
			}
			if !impl.Opens(lock, []int64{good}, 77, 9999) || impl.Opens(lock, []int64{(good + 1) % 1000}, 77, 9999) || impl.Opens(lock, nil, 77, 9999) {
				t.Errorf("the lock of key %d and height %d at height 9999", key, height)
			}
		}
	}
}

// expectSplit runs a program in two parts, divided at each place.
func expectSplit(t *testing.T, p []int64, stack []int64, text int64, height int64) {
	t.Helper()
	whole := impl.RunProgram(p, stack, text, height)
	for at := range len(p) + 1 {
		parts := impl.RunProgram(p[:at], stack, text, height)
		if parts.Code == impl.OK {
			parts = impl.RunProgram(p[at:], parts.Stack, text, height)
		}
		if parts.Code != whole.Code || !slices.Equal(parts.Stack, whole.Stack) {
			t.Fatalf("%v on %v: %v, divided at %d: %v", p, stack, whole, at, parts)
		}
	}
}

// Promise 3: two parts leave what the whole leaves, for all programs of three operations and some stacks.
func TestPromise3TwoPartsOfShortPrograms(t *testing.T) {
	good := signature(3, 77)
	ops := []int64{impl.OpDup, impl.OpDrop, impl.OpSwap, impl.OpAdd, impl.OpEqual, impl.OpVerify, impl.OpSum, impl.OpSign, impl.OpAfter, pushed(0), pushed(3), pushed(999)}
	stacks := [][]int64{nil, {0}, {1}, {good, 3}, {3, good}, {9999, 1}, {5, 5, 51}, repeatInt(2, 7), repeatInt(3, 8)}
	for _, stack := range stacks {
		for _, a := range ops {
			for _, b := range ops {
				for _, c := range ops {
					expectSplit(t, program(a, b, c), stack, 77, 50)
				}
			}
		}
	}
}

// Promise 3: the same for long programs; each end must occur often enough to be tested.
func TestPromise3TwoPartsOfLongPrograms(t *testing.T) {
	source := rand.New(rand.NewPCG(2, 3))
	ends := map[int64]int{}
	for range 20000 {
		p := make([]int64, 6+source.IntN(7))
		for i := range p {
			p[i] = pushed(source.Int64N(1000))
			if source.IntN(2) == 0 {
				p[i] = 1 + source.Int64N(impl.OpAfter)
			}
		}
		stack := make([]int64, source.IntN(9))
		for i := range stack {
			stack[i] = source.Int64N(10000)
		}
		expectSplit(t, p, stack, 77, 9000)
		ends[impl.RunProgram(p, stack, 77, 9000).Code]++
	}
	for _, code := range []int64{impl.OK, impl.ErrNone, impl.ErrFull, impl.ErrProof, impl.ErrRange} {
		if ends[code] < 100 {
			t.Errorf("only %d programs ended with code %d", ends[code], code)
		}
	}
}
