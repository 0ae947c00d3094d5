package tests

import (
	"bytes"
	"math"
	"math/rand/v2"
	"reflect"
	"slices"
	"testing"

	"loop.example/g00539/impl"
)

// expectBytes also requires no bytes beside a code.
func expectBytes(t *testing.T, call string, got impl.BytesResult, code int64, want ...byte) {
	t.Helper()
	if got.Code != code || !bytes.Equal(got.Bytes, want) {
		t.Errorf("%s: got code %d and bytes %v, want %d and %v", call, got.Code, got.Bytes, code, want)
	}
}

// expectVar requires ErrText and zero values where used is 0.
func expectVar(t *testing.T, data []byte, value int64, used int64) {
	t.Helper()
	want := impl.VarResult{Value: value, Used: used}
	if used == 0 {
		want = impl.VarResult{Code: impl.ErrText}
	}
	if got := impl.ReadVar(data); got != want {
		t.Errorf("ReadVar of %v: got %v, want %v", data, got, want)
	}
}

func expectTx(t *testing.T, data []byte, want impl.Tx, used int) {
	t.Helper()
	got := impl.ReadTx(data)
	if got.Code != impl.OK || !equalTxs(got.Tx, want) || got.Used != int64(used) {
		t.Errorf("ReadTx of %v: got %v, want %v and %d", data, got, want, used)
	}
}

func expectNoTx(t *testing.T, what string, data []byte) {
	t.Helper()
	got := impl.ReadTx(data)
	if got.Code != impl.ErrText || !equalTxs(got.Tx, impl.Tx{}) || got.Used != 0 {
		t.Errorf("%s: ReadTx of %v: got %v, want ErrText alone", what, data, got)
	}
}

// expectFault requires the same code of all functions that return TxFault.
func expectFault(t *testing.T, what string, x impl.Tx, code int64) {
	t.Helper()
	if got := impl.TxFault(x); got != code {
		t.Errorf("%s: the fault of %v is %d, want %d", what, x, got, code)
	}
	if code == impl.OK {
		expectBytes(t, what+": PackTx", impl.PackTx(x), code, wire(numbersOf(x)...)...)
		expectInt(t, what+": TxSum", impl.TxSum(x), code, sumByPowers(wire(numbersOf(bare(x))...)))
		return
	}
	expectBytes(t, what+": PackTx", impl.PackTx(x), code)
	expectInt(t, what+": TxSum", impl.TxSum(x), code, 0)
}

// equalTxs compares without the package; nil is an empty list.
func equalTxs(a impl.Tx, b impl.Tx) bool {
	same := a.Note == b.Note && len(a.Ins) == len(b.Ins) && len(a.Outs) == len(b.Outs)
	for i := 0; same && i < len(a.Ins); i++ {
		x, y := a.Ins[i], b.Ins[i]
		same = x.Tx == y.Tx && x.Out == y.Out && slices.Equal(x.Proof, y.Proof)
	}
	for i := 0; same && i < len(a.Outs); i++ {
		x, y := a.Outs[i], b.Outs[i]
		same = x.Value == y.Value && slices.Equal(x.Lock, y.Lock)
	}
	return same
}

func cloneTx(x impl.Tx) impl.Tx {
	x.Ins, x.Outs = slices.Clone(x.Ins), slices.Clone(x.Outs)
	for i := range x.Ins {
		x.Ins[i].Proof = slices.Clone(x.Ins[i].Proof)
	}
	for i := range x.Outs {
		x.Outs[i].Lock = slices.Clone(x.Outs[i].Lock)
	}
	return x
}

// bare is a copy with empty proofs.
func bare(x impl.Tx) impl.Tx {
	x = cloneTx(x)
	for i := range x.Ins {
		x.Ins[i].Proof = nil
	}
	return x
}

// numbersOf lists the numbers of an encoding, those of malformed transactions too.
func numbersOf(x impl.Tx) []int64 {
	list := []int64{x.Note, int64(len(x.Ins))}
	for _, in := range x.Ins {
		list = append(list, in.Tx&65535, in.Tx>>16, in.Out, int64(len(in.Proof)))
		list = append(list, in.Proof...)
	}
	list = append(list, int64(len(x.Outs)))
	for _, out := range x.Outs {
		list = append(list, out.Value&65535, out.Value>>16, int64(len(out.Lock)))
		list = append(list, out.Lock...)
	}
	return list
}

// wire encodes numbers from 0 to 65535 without the package.
func wire(numbers ...int64) []byte {
	var data []byte
	for _, n := range numbers {
		switch {
		case n <= 252:
			data = append(data, byte(n))
		default:
			data = append(data, longForm(n)...)
		}
	}
	return data
}

// longForm takes three bytes for every number.
func longForm(n int64) []byte {
	return []byte{253, byte(n % 256), byte(n / 256)}
}

// encodable tells whether wire can encode the numbers.
func encodable(numbers []int64) bool {
	return slices.Min(numbers) >= 0 && slices.Max(numbers) <= 65535
}

// plainTx has three inputs, three outputs and numbers of both lengths.
func plainTx() impl.Tx {
	return impl.Tx{
		Note: 5,
		Ins: []impl.In{
			{Tx: 70000, Out: 1, Proof: []int64{9, 300}},
			{Tx: 70000, Out: 2, Proof: []int64{0}},
			{Tx: 252, Out: 1, Proof: nil},
		},
		Outs: []impl.Out{
			{Value: 50, Lock: []int64{103, impl.OpSign}},
			{Value: 65536, Lock: []int64{109, impl.OpAfter, 999, impl.OpSign}},
			{Value: 0, Lock: nil},
		},
	}
}

func changedTx(changes ...func(*impl.Tx)) impl.Tx {
	x := plainTx()
	for _, change := range changes {
		change(&x)
	}
	return x
}

// outTx has one output alone.
func outTx(value int64, lock ...int64) impl.Tx {
	return impl.Tx{Outs: []impl.Out{{Value: value, Lock: lock}}}
}

// inTx has one input and an output of nothing.
func inTx(tx int64, out int64, proof ...int64) impl.Tx {
	return impl.Tx{Ins: []impl.In{{Tx: tx, Out: out, Proof: proof}}, Outs: []impl.Out{{}}}
}

// sizedTx has the given numbers of inputs and outputs, all different.
func sizedTx(ins int, outs int) impl.Tx {
	var x impl.Tx
	for i := range ins {
		x.Ins = append(x.Ins, impl.In{Tx: int64(i / 4), Out: int64(i % 4)})
	}
	for i := range outs {
		x.Outs = append(x.Outs, impl.Out{Value: int64(i)})
	}
	return x
}

// greatestTx has the longest encoding.
func greatestTx() impl.Tx {
	x := impl.Tx{Note: 65535}
	for i := range int64(4) {
		x.Ins = append(x.Ins, impl.In{Tx: impl.MaxSum - i, Out: 3, Proof: repeatInt(9999, 8)})
		x.Outs = append(x.Outs, impl.Out{Value: 240000 + i, Lock: repeatInt(1099, 12)})
	}
	return x
}

// randomTx is a valid transaction in which every bound occurs.
func randomTx(source *rand.Rand) impl.Tx {
	pick := func(list []int64, limit int64) int64 {
		if source.IntN(2) == 0 {
			return list[source.IntN(len(list))]
		}
		return source.Int64N(limit + 1)
	}
	x := impl.Tx{Note: pick([]int64{0, 1, 252, 253, 255, 256, 65534, 65535}, 65535)}
	for range source.IntN(5) {
		in := impl.In{Tx: pick([]int64{0, 252, 253, 65535, 65536, 65537, 1 << 24, impl.MaxSum}, impl.MaxSum), Out: source.Int64N(4)}
		for range source.IntN(9) {
			in.Proof = append(in.Proof, pick([]int64{0, 252, 253, 255, 256, 9999}, 9999))
		}
		if !slices.ContainsFunc(x.Ins, func(e impl.In) bool { return e.Tx == in.Tx && e.Out == in.Out }) {
			x.Ins = append(x.Ins, in)
		}
	}
	for range 1 + source.IntN(4) {
		out := impl.Out{Value: pick([]int64{0, 252, 253, 65535, 65536, 65537, 250000}, 250000)}
		for range source.IntN(13) {
			ops := []int64{1, 2, 3, 4, 5, 6, 7, 8, 9, 100, 252, 253, 255, 256, 1099, pushed(source.Int64N(1000))}
			out.Lock = append(out.Lock, ops[source.IntN(len(ops))])
		}
		x.Outs = append(x.Outs, out)
	}
	return x
}

func randomTxs(count int) []impl.Tx {
	source := rand.New(rand.NewPCG(4, 3))
	list := []impl.Tx{plainTx(), bare(plainTx()), greatestTx(), outTx(0), inTx(0, 0), sizedTx(4, 4)}
	for range count {
		list = append(list, randomTx(source))
	}
	return list
}

// A txChange makes plainTx malformed, or another transaction where the code is OK.
type txChange struct {
	what string
	code int64
	make func(*impl.Tx)
}

// faultsInOrder lists changes in the order in which the contract checks for them.
func faultsInOrder() []txChange {
	fill := func(list []int64, n int64, size int) []int64 {
		return append(list, repeatInt(n, size-len(list))...)
	}
	return []txChange{
		{"note", impl.ErrRange, func(x *impl.Tx) { x.Note = 65536 }},
		{"5 inputs", impl.ErrMany, func(x *impl.Tx) { x.Ins = append(x.Ins, impl.In{Tx: 1}, impl.In{Tx: 2}) }},
		{"5 outputs", impl.ErrMany, func(x *impl.Tx) { x.Outs = append(x.Outs, impl.Out{}, impl.Out{}) }},
		{"first Tx", impl.ErrRange, func(x *impl.Tx) { x.Ins[0].Tx = -1 }},
		{"first Out", impl.ErrRange, func(x *impl.Tx) { x.Ins[0].Out = 4 }},
		{"first Proof of 9", impl.ErrMany, func(x *impl.Tx) { x.Ins[0].Proof = fill(x.Ins[0].Proof, 1, 9) }},
		{"number of the first Proof", impl.ErrRange, func(x *impl.Tx) { x.Ins[0].Proof[1] = 10000 }},
		{"second Tx", impl.ErrRange, func(x *impl.Tx) { x.Ins[1].Tx = impl.MaxSum + 1 }},
		{"second Proof of 9", impl.ErrMany, func(x *impl.Tx) { x.Ins[1].Proof = fill(x.Ins[1].Proof, 1, 9) }},
		{"number of the second Proof", impl.ErrRange, func(x *impl.Tx) { x.Ins[1].Proof[0] = -1 }},
		{"second input as the first", impl.ErrTaken, func(x *impl.Tx) { x.Ins[1].Tx, x.Ins[1].Out = x.Ins[0].Tx, x.Ins[0].Out }},
		{"third Out", impl.ErrRange, func(x *impl.Tx) { x.Ins[2].Out = -1 }},
		{"third Proof of 9", impl.ErrMany, func(x *impl.Tx) { x.Ins[2].Proof = fill(x.Ins[2].Proof, 1, 9) }},
		{"third input as the first", impl.ErrTaken, func(x *impl.Tx) { x.Ins[2].Tx, x.Ins[2].Out = x.Ins[0].Tx, x.Ins[0].Out }},
		{"first Value", impl.ErrRange, func(x *impl.Tx) { x.Outs[0].Value = impl.MaxMoney + 1 }},
		{"first Lock of 13", impl.ErrMany, func(x *impl.Tx) { x.Outs[0].Lock = fill(x.Outs[0].Lock, 100, 13) }},
		{"operation of the first Lock", impl.ErrForm, func(x *impl.Tx) { x.Outs[0].Lock[1] = 10 }},
		{"second Value", impl.ErrRange, func(x *impl.Tx) { x.Outs[1].Value = -1 }},
		{"second Lock of 13", impl.ErrMany, func(x *impl.Tx) { x.Outs[1].Lock = fill(x.Outs[1].Lock, 100, 13) }},
		{"operation of the second Lock", impl.ErrForm, func(x *impl.Tx) { x.Outs[1].Lock[0] = 1100 }},
		{"third Value", impl.ErrRange, func(x *impl.Tx) { x.Outs[2].Value = math.MinInt64 }},
		{"all Values", impl.ErrMoney, func(x *impl.Tx) { x.Outs[0].Value, x.Outs[2].Value = impl.MaxMoney-65536, 1 }},
	}
}

// differences lists changes of everything that is no proof; all results are valid and different.
func differences() []txChange {
	return []txChange{
		{"nothing", impl.OK, func(x *impl.Tx) {}},
		{"another Note", impl.OK, func(x *impl.Tx) { x.Note = 6 }},
		{"a Note of three bytes", impl.OK, func(x *impl.Tx) { x.Note = 261 }},
		{"no inputs", impl.OK, func(x *impl.Tx) { x.Ins = nil }},
		{"an input less", impl.OK, func(x *impl.Tx) { x.Ins = x.Ins[:2] }},
		{"an input more", impl.OK, func(x *impl.Tx) { x.Ins = append(x.Ins, impl.In{}) }},
		{"inputs in another order", impl.OK, func(x *impl.Tx) { slices.Reverse(x.Ins) }},
		{"another Tx", impl.OK, func(x *impl.Tx) { x.Ins[0].Tx++ }},
		{"another half of a Tx", impl.OK, func(x *impl.Tx) { x.Ins[0].Tx += 65536 }},
		{"another Tx at the end", impl.OK, func(x *impl.Tx) { x.Ins[2].Tx++ }},
		{"another Out", impl.OK, func(x *impl.Tx) { x.Ins[0].Out = 3 }},
		{"another Out at the end", impl.OK, func(x *impl.Tx) { x.Ins[2].Out = 3 }},
		{"one output", impl.OK, func(x *impl.Tx) { x.Outs = x.Outs[:1] }},
		{"an output less", impl.OK, func(x *impl.Tx) { x.Outs = x.Outs[:2] }},
		{"an output more", impl.OK, func(x *impl.Tx) { x.Outs = append(x.Outs, impl.Out{}) }},
		{"outputs in another order", impl.OK, func(x *impl.Tx) { slices.Reverse(x.Outs) }},
		{"another Value", impl.OK, func(x *impl.Tx) { x.Outs[0].Value++ }},
		{"another half of a Value", impl.OK, func(x *impl.Tx) { x.Outs[0].Value += 65536 }},
		{"another Value at the end", impl.OK, func(x *impl.Tx) { x.Outs[2].Value++ }},
		{"another operation", impl.OK, func(x *impl.Tx) { x.Outs[0].Lock[0]++ }},
		{"another operation of three bytes", impl.OK, func(x *impl.Tx) { x.Outs[1].Lock[2]++ }},
		{"an operation less", impl.OK, func(x *impl.Tx) { x.Outs[0].Lock = x.Outs[0].Lock[:1] }},
		{"an operation more", impl.OK, func(x *impl.Tx) { x.Outs[2].Lock = []int64{1} }},
		{"no operations", impl.OK, func(x *impl.Tx) { x.Outs[1].Lock = nil }},
		{"operations in another order", impl.OK, func(x *impl.Tx) { slices.Reverse(x.Outs[0].Lock) }},
		{"an operation in another output", impl.OK, func(x *impl.Tx) {
			x.Outs[0].Lock, x.Outs[2].Lock = x.Outs[0].Lock[:1], x.Outs[0].Lock[1:]
		}},
	}
}

// proofChanges lists changes of proofs alone; all results are valid and different.
func proofChanges() []txChange {
	return []txChange{
		{"another number", impl.OK, func(x *impl.Tx) { x.Ins[0].Proof[0]++ }},
		{"another number at the end", impl.OK, func(x *impl.Tx) { x.Ins[0].Proof[1]++ }},
		{"numbers in another order", impl.OK, func(x *impl.Tx) { slices.Reverse(x.Ins[0].Proof) }},
		{"a number less", impl.OK, func(x *impl.Tx) { x.Ins[0].Proof = x.Ins[0].Proof[:1] }},
		{"a number more", impl.OK, func(x *impl.Tx) { x.Ins[2].Proof = []int64{1} }},
		{"8 numbers", impl.OK, func(x *impl.Tx) { x.Ins[1].Proof = repeatInt(9999, 8) }},
		{"one empty proof", impl.OK, func(x *impl.Tx) { x.Ins[1].Proof = nil }},
		{"empty proofs", impl.OK, func(x *impl.Tx) { *x = bare(*x) }},
		{"exchanged proofs", impl.OK, func(x *impl.Tx) { x.Ins[0].Proof, x.Ins[1].Proof = x.Ins[1].Proof, x.Ins[0].Proof }},
	}
}

func TestConstantsOfChapter3(t *testing.T) {
	if got := [3]int64{impl.MaxIns, impl.MaxOuts, impl.MaxVar}; got != [3]int64{4, 4, 65535} {
		t.Errorf("got %v", got)
	}
}

// Promise 1: the functions of numbers and bytes return for all arguments, the same each time.
func TestPromise1NumbersOfChapter3(t *testing.T) {
	for _, n := range append(extremes(), 252, 253, 254, 65534, 65535, 65536, 65788, 65789) {
		first, again := impl.PutVar(n), impl.PutVar(n)
		if first.Code != again.Code || !bytes.Equal(first.Bytes, again.Bytes) {
			t.Errorf("PutVar of %d: %v, then %v", n, first, again)
		}
		if n < 0 || n > 65535 {
			expectBytes(t, "PutVar out of range", first, impl.ErrRange)
		} else {
			expectBytes(t, "PutVar", first, impl.OK, wire(n)...)
		}
	}
	for _, data := range [][]byte{nil, {}, {0}, {252}, {253}, {255}, bytes.Repeat([]byte{255}, 5000), make([]byte, 5000), bytes.Repeat([]byte{253}, 5000)} {
		if impl.ReadVar(data) != impl.ReadVar(data) || !reflect.DeepEqual(impl.ReadTx(data), impl.ReadTx(data)) {
			t.Errorf("not the same each time: %v", data)
		}
		expectNoTx(t, "no transaction", data)
	}
}

// Promise 1: the functions of transactions return for all arguments, the same each time, and change none.
func TestPromise1TxsOfChapter3(t *testing.T) {
	list := randomTxs(50)
	for _, c := range slices.Concat(faultsInOrder(), differences(), proofChanges()) {
		list = append(list, changedTx(c.make))
	}
	for _, n := range extremes() {
		list = append(list, inTx(n, 0), inTx(0, n), inTx(0, 0, n), outTx(n), outTx(0, n))
		list = append(list, impl.Tx{Note: n, Outs: []impl.Out{{Value: n, Lock: repeatInt(n, 40)}}}, impl.Tx{Note: n, Ins: make([]impl.In, 300), Outs: make([]impl.Out, 300)})
	}
	for i, x := range list {
		before, other := cloneTx(x), cloneTx(list[(i+1)%len(list)])
		code, packed, sum := impl.TxFault(x), impl.PackTx(x), impl.TxSum(x)
		expectFault(t, "again", x, code)
		expectBytes(t, "PackTx again", impl.PackTx(x), packed.Code, packed.Bytes...)
		expectInt(t, "TxSum again", impl.TxSum(x), sum.Code, sum.Value)
		if impl.SameTxs(x, other) != impl.SameTxs(other, x) || !impl.SameTxs(x, x) {
			t.Errorf("SameTxs of %v and %v", x, other)
		}
		if !reflect.DeepEqual(x, before) || !equalTxs(other, list[(i+1)%len(list)]) {
			t.Errorf("%v was changed to %v", before, x)
		}
	}
}

// Promise 1: nothing is written behind the end of an argument, and nothing is read there.
func TestPromise1EndsOfChapter3(t *testing.T) {
	proof, lock := []int64{9, 300, 7, 7}, []int64{103, impl.OpSign, 7, 7}
	ins := []impl.In{{Tx: 1, Proof: proof[:2]}, {Tx: 2}, {Tx: 3}}
	outs := []impl.Out{{Value: 1, Lock: lock[:2]}, {Value: 2}, {Value: 3}}
	cut := impl.Tx{Ins: ins[:1], Outs: outs[:1]}
	expectFault(t, "a part of longer lists", cut, impl.OK)
	if !impl.SameTxs(cut, cloneTx(cut)) || !slices.Equal(proof, []int64{9, 300, 7, 7}) || !slices.Equal(lock, []int64{103, 8, 7, 7}) {
		t.Error("written behind the end of a list of numbers")
	}
	if ins[1].Tx != 2 || ins[2].Tx != 3 || outs[1].Value != 2 || outs[2].Value != 3 {
		t.Error("written behind the end of inputs or outputs")
	}
	data := append(wire(numbersOf(plainTx())...), 7, 7)
	before := slices.Clone(data)
	for size := range data {
		impl.ReadTx(data[:size])
		impl.ReadVar(data[:size])
	}
	expectVar(t, []byte{253, 44, 1}[:2], 0, 0)
	if !bytes.Equal(data, before) {
		t.Error("bytes were changed")
	}
}

// Promise 1: results share no memory with arguments, with other results or among their own lists.
func TestPromise1NewMemoryOfChapter3(t *testing.T) {
	for _, n := range []int64{0, 5, 252, 253, 65535} {
		clear(impl.PutVar(n).Bytes)
		_ = append(impl.PutVar(n).Bytes[:0], 9, 9, 9)
		expectBytes(t, "PutVar after a result was changed", impl.PutVar(n), impl.OK, wire(n)...)
	}
	x := greatestTx()
	want := wire(numbersOf(x)...)
	packed := impl.PackTx(x)
	clear(packed.Bytes)
	expectBytes(t, "PackTx after a result was changed", impl.PackTx(x), impl.OK, want...)
	first, second := impl.ReadTx(want).Tx, impl.ReadTx(want).Tx
	clear(want)
	if !equalTxs(first, x) {
		t.Error("a read transaction changes with the bytes")
	}
	for i := range 4 {
		clear(second.Ins[i].Proof)
		clear(second.Outs[i].Lock)
		_ = append(first.Ins[i].Proof, 1, 2, 3, 4, 5)
		_ = append(first.Outs[i].Lock, 1, 2, 3, 4, 5)
	}
	_, _ = append(first.Ins, impl.In{}), append(first.Outs, impl.Out{})
	if !equalTxs(first, x) {
		t.Error("the lists of read transactions share memory")
	}
	clear(second.Ins)
	clear(second.Outs)
	if !equalTxs(first, x) || !equalTxs(x, greatestTx()) {
		t.Error("read transactions share memory")
	}
}

// Promise 1: nil is an empty list.
func TestPromise1EmptyListsOfChapter3(t *testing.T) {
	empty := impl.Tx{Ins: []impl.In{}, Outs: []impl.Out{}}
	expectFault(t, "nothing, as nil", impl.Tx{}, impl.ErrMany)
	expectFault(t, "nothing, as empty lists", empty, impl.ErrMany)
	one := impl.Tx{Ins: []impl.In{{Proof: []int64{}}}, Outs: []impl.Out{{Lock: []int64{}}}}
	expectFault(t, "empty proofs and locks", one, impl.OK)
	expectFault(t, "no proofs and locks", inTx(0, 0), impl.OK)
	if !impl.SameTxs(empty, impl.Tx{}) || !impl.SameTxs(one, inTx(0, 0)) || impl.SameTxs(one, empty) {
		t.Error("nil and empty lists are not equal")
	}
	expectVar(t, nil, 0, 0)
	expectVar(t, []byte{}, 0, 0)
	expectNoTx(t, "nil", nil)
	expectNoTx(t, "no bytes", []byte{})
}

func TestPutVar(t *testing.T) {
	for n, want := range map[int64]string{
		0: "\x00", 1: "\x01", 252: "\xfc", 253: "\xfd\xfd\x00", 254: "\xfd\xfe\x00", 255: "\xfd\xff\x00", 256: "\xfd\x00\x01",
		300: "\xfd\x2c\x01", 509: "\xfd\xfd\x01", 4660: "\xfd\x34\x12", 65534: "\xfd\xfe\xff", 65535: "\xfd\xff\xff",
	} {
		expectBytes(t, "PutVar", impl.PutVar(n), impl.OK, []byte(want)...)
	}
	for _, n := range []int64{-1, -253, 65536, 65537, 1 << 32, math.MinInt64, math.MaxInt64} {
		expectBytes(t, "PutVar out of range", impl.PutVar(n), impl.ErrRange)
	}
}

func TestReadVar(t *testing.T) {
	for _, behind := range [][]byte{nil, {0}, {9, 253}, {253, 253, 253, 253}} {
		for value, data := range map[int64][]byte{
			0: {0}, 1: {1}, 252: {252}, 253: {253, 253, 0}, 254: {253, 254, 0}, 255: {253, 255, 0}, 256: {253, 0, 1}, 300: {253, 44, 1}, 65535: {253, 255, 255},
		} {
			expectVar(t, slices.Concat(data, behind), value, int64(len(data)))
		}
		for _, data := range [][]byte{{253, 0, 0}, {253, 1, 0}, {253, 251, 0}, {253, 252, 0}, {254, 44, 1}, {254, 0, 0}, {255, 0, 0}, {255, 255, 255}} {
			expectVar(t, slices.Concat(data, behind), 0, 0)
		}
	}
	for _, data := range [][]byte{{253}, {253, 44}, {253, 253}, {253, 0}, {254}, {255}} {
		expectVar(t, data, 0, 0)
	}
}

// Promise 4: all numbers are decoded from their encodings, whatever follows them and not from a part.
func TestPromise4Numbers(t *testing.T) {
	encodings := map[string]int64{}
	for n := range int64(65536) {
		data := impl.PutVar(n).Bytes
		if earlier, taken := encodings[string(data)]; taken {
			t.Fatalf("%d and %d have the encoding %v", earlier, n, data)
		}
		encodings[string(data)] = n
		expectVar(t, data, n, int64(len(data)))
		expectVar(t, append(slices.Clone(data), 253, 1), n, int64(len(data)))
		for size := range data {
			expectVar(t, data[:size], 0, 0)
		}
	}
	// and nothing else is an encoding
	for _, first := range []byte{0, 1, 251, 252, 253, 254, 255} {
		for rest := range 65536 {
			data := []byte{first, byte(rest), byte(rest >> 8)}
			value, used := int64(0), int64(0)
			for size := 1; size <= 3; size++ {
				if n, found := encodings[string(data[:size])]; found {
					value, used = n, int64(size)
				}
			}
			expectVar(t, data, value, used)
		}
	}
}

func TestTxFaultOfNumbers(t *testing.T) {
	type numberCase struct {
		what      string
		good, bad []int64
		code      int64
		with      func(n int64) impl.Tx
	}
	cases := []numberCase{
		{"Note", []int64{0, 252, 253, 65535}, []int64{-1, 65536}, impl.ErrRange, func(n int64) impl.Tx { return impl.Tx{Note: n, Outs: []impl.Out{{}}} }},
		{"Tx", []int64{0, 65535, 65536, impl.MaxSum}, []int64{-1, impl.MaxSum + 1, 1 << 32}, impl.ErrRange, func(n int64) impl.Tx { return inTx(n, 0) }},
		{"Out", []int64{0, 1, 2, 3}, []int64{-1, 4, 1 << 32}, impl.ErrRange, func(n int64) impl.Tx { return inTx(0, n) }},
		{"first of a Proof", []int64{0, 252, 253, 9999}, []int64{-1, 10000, 65536}, impl.ErrRange, func(n int64) impl.Tx { return inTx(0, 0, n, 1) }},
		{"last of a Proof", []int64{0, 252, 253, 9999}, []int64{-1, 10000, 65536}, impl.ErrRange, func(n int64) impl.Tx { return inTx(0, 0, 1, 1, 1, 1, 1, 1, 1, n) }},
		{"Value", []int64{0, 65535, 65536, impl.MaxMoney}, []int64{-1, impl.MaxMoney + 1, 1 << 32}, impl.ErrRange, func(n int64) impl.Tx { return outTx(n) }},
		{"first of a Lock", allOperations(), malformedOperations(), impl.ErrForm, func(n int64) impl.Tx { return outTx(0, n, 1) }},
		{"last of a Lock", allOperations(), malformedOperations(), impl.ErrForm, func(n int64) impl.Tx { return outTx(0, 1, 1, 1, 1, 1, 1, 1, 1, 1, 1, 1, n) }},
	}
	for _, c := range cases {
		for _, n := range c.good {
			expectFault(t, c.what, c.with(n), impl.OK)
		}
		for _, n := range append(c.bad, math.MinInt64, math.MaxInt64) {
			expectFault(t, c.what, c.with(n), c.code)
		}
	}
}

func TestTxFaultOfSizes(t *testing.T) {
	for ins := range 7 {
		for outs := range 7 {
			want := int64(impl.OK)
			if ins > 4 || outs < 1 || outs > 4 {
				want = impl.ErrMany
			}
			expectFault(t, "sizes", sizedTx(ins, outs), want)
		}
	}
	for size := range 11 {
		want := int64(impl.OK)
		if size > 8 {
			want = impl.ErrMany
		}
		expectFault(t, "size of a Proof", inTx(0, 0, repeatInt(1, size)...), want)
	}
	for size := range 15 {
		want := int64(impl.OK)
		if size > 12 {
			want = impl.ErrMany
		}
		expectFault(t, "size of a Lock", outTx(0, repeatInt(1, size)...), want)
	}
	expectFault(t, "the greatest transaction", greatestTx(), impl.OK)
}

func TestTxFaultOfTakenInputs(t *testing.T) {
	for first := range 4 {
		for second := range first {
			x := sizedTx(4, 1)
			x.Ins[first].Out, x.Ins[first].Proof = x.Ins[second].Out, []int64{7}
			expectFault(t, "two equal inputs", x, impl.ErrTaken)
			x.Ins[first].Tx = 5
			expectFault(t, "the same Out of different Txs", x, impl.OK)
		}
	}
	expectFault(t, "halves of a Tx", impl.Tx{Ins: []impl.In{{Tx: 65536}, {Tx: 1}, {Tx: 0, Out: 1}, {Tx: 0}}, Outs: []impl.Out{{}}}, impl.OK)
}

func TestTxFaultOfMoney(t *testing.T) {
	for _, c := range []struct {
		values []int64
		code   int64
	}{
		{[]int64{600000, 400000}, impl.OK}, {[]int64{600000, 400001}, impl.ErrMoney}, {[]int64{250000, 250000, 250000, 250000}, impl.OK},
		{[]int64{250000, 250000, 250000, 250001}, impl.ErrMoney}, {[]int64{impl.MaxMoney, 0, 0, 1}, impl.ErrMoney}, {repeatInt(impl.MaxMoney, 4), impl.ErrMoney},
	} {
		for _, order := range ordersOf(c.values) {
			var x impl.Tx
			for _, value := range order {
				x.Outs = append(x.Outs, impl.Out{Value: value})
			}
			expectFault(t, "values", x, c.code)
		}
	}
}

// The codes come in the order of the contract: of two faults the one that is checked first.
func TestTxFaultOrderOfCodes(t *testing.T) {
	expectFault(t, "plain", plainTx(), impl.OK)
	faults := faultsInOrder()
	for i, first := range faults {
		expectFault(t, first.what, changedTx(first.make), first.code)
		for _, later := range faults[i+1:] {
			expectFault(t, first.what+" and "+later.what, changedTx(later.make, first.make), first.code)
		}
	}
	expectFault(t, "no outputs before an input", impl.Tx{Ins: []impl.In{{Tx: -1}}}, impl.ErrMany)
	expectFault(t, "a note before no outputs", impl.Tx{Note: -1}, impl.ErrRange)
	expectFault(t, "5 malformed inputs", impl.Tx{Ins: slices.Repeat([]impl.In{{Tx: -1}}, 5), Outs: []impl.Out{{}}}, impl.ErrMany)
	expectFault(t, "5 malformed outputs", impl.Tx{Outs: slices.Repeat([]impl.Out{{Value: -1}}, 5)}, impl.ErrMany)
	expectFault(t, "9 malformed numbers", inTx(0, 0, repeatInt(-1, 9)...), impl.ErrMany)
	expectFault(t, "13 malformed operations", outTx(0, repeatInt(0, 13)...), impl.ErrMany)
}

func TestPackTx(t *testing.T) {
	example := impl.Tx{Note: 5, Ins: []impl.In{{Tx: 70000, Out: 1, Proof: []int64{9}}}, Outs: []impl.Out{{Value: 50, Lock: []int64{103, 8}}}}
	for _, c := range []struct {
		want string
		x    impl.Tx
	}{
		{"\x00\x00\x01\x00\x00\x00", outTx(0)},
		{"\x05\x01\xfd\x70\x11\x01\x01\x01\x09\x01\x32\x00\x02\x67\x08", example},
		{"\xfd\xfd\x00\x00\x01\xfc\x00\x00", impl.Tx{Note: 253, Outs: []impl.Out{{Value: 252}}}},
		{"\xfd\xff\xff\x00\x01\xfd\xfd\x00\x00\x00", impl.Tx{Note: 65535, Outs: []impl.Out{{Value: 253}}}},
		{"\x00\x00\x01\xfd\xff\xff\x00\x00", outTx(65535)},
		{"\x00\x00\x01\x00\x01\x00", outTx(65536)},
		{"\x00\x00\x01\x01\x01\x00", outTx(65537)},
		{"\x00\x00\x01\xfd\x40\x42\x0f\x00", outTx(1000000)},
		{"\x00\x00\x01\x00\x00\x03\x01\xfd\x4b\x04\x64", outTx(0, 1, 1099, 100)},
		{"\x00\x00\x02\x01\x00\x00\x02\x00\x01\x09", impl.Tx{Outs: []impl.Out{{Value: 1}, {Value: 2, Lock: []int64{9}}}}},
		{"\x00\x01\xfd\xff\xff\x00\x03\x00\x01\x00\x00\x00", inTx(65535, 3)},
		{"\x00\x01\x00\x01\x00\x00\x01\x00\x00\x00", inTx(65536, 0)},
		{"\x00\x01\xfd\xfe\xff\xfd\xff\x7f\x02\x03\xfd\x0f\x27\x00\xfc\x01\x00\x00\x00", inTx(impl.MaxSum, 2, 9999, 0, 252)},
	} {
		expectBytes(t, "PackTx", impl.PackTx(c.x), impl.OK, []byte(c.want)...)
		expectTx(t, []byte(c.want), c.x, len(c.want))
	}
}

// Promise 4: transactions are decoded from their encodings, whatever follows them.
func TestPromise4Txs(t *testing.T) {
	list := randomTxs(2000)
	for _, c := range slices.Concat(differences(), proofChanges()) {
		list = append(list, changedTx(c.make))
	}
	for _, x := range list {
		want := wire(numbersOf(x)...)
		expectBytes(t, "PackTx", impl.PackTx(x), impl.OK, want...)
		expectTx(t, want, x, len(want))
		expectTx(t, append(slices.Clone(want), 0), x, len(want))
		expectTx(t, append(slices.Clone(want), want...), x, len(want))
		expectTx(t, append(slices.Clone(want), bytes.Repeat([]byte{255}, 5000)...), x, len(want))
	}
}

// Promise 4: data that end within a transaction are none.
func TestPromise4CutTxs(t *testing.T) {
	for _, x := range randomTxs(200) {
		data := wire(numbersOf(x)...)
		for size := range data {
			expectNoTx(t, "cut", data[:size])
			expectNoTx(t, "cut, in its own memory", slices.Clone(data[:size]))
		}
	}
}

// Promise 4: a longer encoding of any of the numbers is not an encoding of the transaction.
func TestPromise4LongForms(t *testing.T) {
	for _, x := range randomTxs(200) {
		numbers := numbersOf(x)
		for i, n := range numbers {
			if n > 252 {
				continue
			}
			expectNoTx(t, "long form", slices.Concat(wire(numbers[:i]...), longForm(n), wire(numbers[i+1:]...)))
		}
	}
}

// Promise 4: bytes that would encode a malformed transaction are no encoding.
func TestPromise4MalformedTxs(t *testing.T) {
	refused := 0
	refuse := func(what string, x impl.Tx) {
		if numbers := numbersOf(x); encodable(numbers) {
			expectNoTx(t, what, wire(numbers...))
			refused++
		}
	}
	for _, c := range faultsInOrder() {
		refuse(c.what, changedTx(c.make))
	}
	refuse("no outputs", sizedTx(0, 0))
	for size := 5; size < 300; size++ {
		refuse("too many inputs", sizedTx(size, 1))
		refuse("too many outputs", sizedTx(1, size))
		refuse("too long a Proof", inTx(0, 0, repeatInt(1, size+4)...))
		refuse("too long a Lock", outTx(0, repeatInt(1, size+8)...))
	}
	for _, n := range []int64{impl.MaxSum + 1, impl.MaxSum + 2, 1<<32 - 1} {
		refuse("Tx", inTx(n, 0))
	}
	for _, n := range []int64{4, 5, 255, 65535} {
		refuse("Out", inTx(0, n))
	}
	for _, n := range []int64{10000, 65535} {
		refuse("Proof", inTx(0, 0, n))
	}
	for _, n := range []int64{impl.MaxMoney + 1, 1 << 24, 1<<32 - 1} {
		refuse("Value", outTx(n))
	}
	for _, n := range []int64{0, 10, 50, 99, 1100, 65535} {
		refuse("Lock", outTx(0, n))
	}
	if refused < 4*295 {
		t.Errorf("only %d malformed transactions were encoded", refused)
	}
	// numbers of elements that the data do not have
	for _, data := range [][]byte{{0, 253, 255, 255}, {0, 0, 253, 255, 255}, {0, 1, 0, 0, 0, 253, 255, 255}, {0, 0, 1, 0, 0, 253, 255, 255}, {0, 252}, {0, 0, 252}} {
		expectNoTx(t, "lengths without elements", data)
		expectNoTx(t, "lengths with a few elements", append(data, make([]byte, 200)...))
	}
}

// Promise 4: whatever is decoded is encoded as the bytes from which it came.
func TestPromise4ChangedBytes(t *testing.T) {
	source := rand.New(rand.NewPCG(5, 4))
	decoded, refused := 0, 0
	for range 20000 {
		data := wire(numbersOf(randomTx(source))...)
		for range 1 + source.IntN(2) {
			data[source.IntN(len(data))] = byte(source.IntN(256))
		}
		got := impl.ReadTx(data)
		if got.Code != impl.OK {
			expectNoTx(t, "changed bytes", data)
			refused++
			continue
		}
		decoded++
		if got.Used < 1 || got.Used > int64(len(data)) {
			t.Fatalf("%d of %d bytes were used", got.Used, len(data))
		}
		expectBytes(t, "PackTx of what was read", impl.PackTx(got.Tx), impl.OK, data[:got.Used]...)
	}
	if decoded < 1000 || refused < 1000 {
		t.Errorf("%d decoded and %d refused are too few", decoded, refused)
	}
}

// Promise 4: the sum depends on everything except the proofs.
func TestPromise4TxSum(t *testing.T) {
	sums := map[int64]string{}
	for _, c := range differences() {
		x := changedTx(c.make)
		sum := impl.TxSum(x)
		expectInt(t, c.what, sum, impl.OK, sumByPowers(wire(numbersOf(bare(x))...)))
		if other, taken := sums[sum.Value]; taken {
			t.Errorf("%s and %s have the same sum", other, c.what)
		}
		sums[sum.Value] = c.what
	}
	plain := impl.TxSum(plainTx())
	for _, c := range proofChanges() {
		x := changedTx(c.make)
		expectInt(t, c.what, impl.TxSum(x), impl.OK, plain.Value)
		if impl.SameTxs(x, plainTx()) || bytes.Equal(impl.PackTx(x).Bytes, impl.PackTx(plainTx()).Bytes) {
			t.Errorf("%s makes no other transaction", c.what)
		}
	}
	for _, x := range randomTxs(500) {
		expectInt(t, "TxSum", impl.TxSum(x), impl.OK, sumByPowers(wire(numbersOf(bare(x))...)))
		expectInt(t, "TxSum without proofs", impl.TxSum(bare(x)), impl.OK, impl.TxSum(x).Value)
	}
	expectInt(t, "TxSum of an example", impl.TxSum(outTx(0)), impl.OK, sumByPowers([]byte{0, 0, 1, 0, 0, 0}))
	// a sum does not contain proofs, and a malformed one is a fault all the same
	expectInt(t, "a proof of 9", impl.TxSum(inTx(0, 0, repeatInt(1, 9)...)), impl.ErrMany, 0)
	expectInt(t, "a proof with a malformed number", impl.TxSum(inTx(0, 0, 10000)), impl.ErrRange, 0)
}

// SameTxs compares all fields, those of malformed transactions too.
func TestSameTxs(t *testing.T) {
	var list []impl.Tx
	for _, c := range slices.Concat(differences(), proofChanges(), faultsInOrder()) {
		list = append(list, changedTx(c.make))
	}
	for _, n := range extremes()[:9] {
		list = append(list, inTx(n, 7), inTx(7, n), inTx(7, 7, n), outTx(n), outTx(7, n), impl.Tx{Note: n, Ins: make([]impl.In, 20)})
	}
	list = append(list, impl.Tx{}, impl.Tx{Note: 1})
	for i, a := range list {
		for j, b := range list {
			if impl.SameTxs(cloneTx(a), b) != (i == j) {
				t.Errorf("SameTxs of %v and %v does not report %t", a, b, i == j)
			}
		}
	}
}
