package tests

import (
	"math"
	"math/rand/v2"
	"reflect"
	"slices"
	"testing"

	"loop.example/g00539/impl"
)

// coinAt is a coin that the signature of key 3 opens.
func coinAt(tx int64, out int64, value int64) impl.Coin {
	return impl.Coin{Tx: tx, Out: out, Value: value, Lock: program(pushed(3), impl.OpSign), Height: 1}
}

// coinsOf lists the given number of coins of the value 0, four for each Tx.
func coinsOf(count int) []impl.Coin {
	var list []impl.Coin
	for i := range int64(count) {
		list = append(list, coinAt(10*(i/4)+1, i%4, 0))
	}
	return list
}

// valued gives coins their values, from the first one on.
func valued(list []impl.Coin, values ...int64) []impl.Coin {
	for i, value := range values {
		list[i].Value = value
	}
	return list
}

func cloneCoins(list []impl.Coin) []impl.Coin {
	list = slices.Clone(list)
	for i := range list {
		list[i].Lock = slices.Clone(list[i].Lock)
	}
	return list
}

// equalCoins compares without the package; nil is an empty list.
func equalCoins(a []impl.Coin, b []impl.Coin) bool {
	same := len(a) == len(b)
	for i := 0; same && i < len(a); i++ {
		x, y := a[i], b[i]
		same = x.Tx == y.Tx && x.Out == y.Out && x.Value == y.Value && slices.Equal(x.Lock, y.Lock) && x.Height == y.Height && x.Base == y.Base
	}
	return same
}

func expectCode(t *testing.T, call string, got int64, want int64) {
	t.Helper()
	if got != want {
		t.Errorf("%s: got code %d, want %d", call, got, want)
	}
}

func expectCoin(t *testing.T, call string, got impl.CoinResult, code int64, want impl.Coin) {
	t.Helper()
	if got.Code != code || !equalCoins([]impl.Coin{got.Coin}, []impl.Coin{want}) {
		t.Errorf("%s: got %v, want %d and %v", call, got, code, want)
	}
}

func expectCoins(t *testing.T, call string, got impl.CoinsResult, want impl.CoinsResult) {
	t.Helper()
	if got.Code != want.Code || got.Fee != want.Fee || !equalCoins(got.Spent, want.Spent) || !equalCoins(got.Coins, want.Coins) {
		t.Errorf("%s: got %v, want %v", call, got, want)
	}
}

// expectRefused requires a code alone.
func expectRefused(t *testing.T, call string, got impl.CoinsResult, code int64) {
	t.Helper()
	expectCoins(t, call, got, impl.CoinsResult{Code: code})
}

// expectCoinsFault requires the same code of all functions that return CoinsFault, whatever their other arguments are.
func expectCoinsFault(t *testing.T, what string, list []impl.Coin, code int64) {
	t.Helper()
	expectCode(t, what+": CoinsFault", impl.CoinsFault(list), code)
	if code == impl.OK {
		worth := int64(0)
		for _, c := range list {
			worth += c.Value
			expectCoin(t, what+": FindCoin", impl.FindCoin(list, c.Tx, c.Out), impl.OK, c)
		}
		expectInt(t, what+": WorthOf", impl.WorthOf(list), impl.OK, worth)
		return
	}
	expectInt(t, what+": WorthOf", impl.WorthOf(list), code, 0)
	for _, n := range []int64{-1, 0, 1, impl.MaxSum + 1} {
		expectCoin(t, what+": FindCoin", impl.FindCoin(list, n, 0), code, impl.Coin{})
	}
	for _, x := range []impl.Tx{{}, {Note: -1}, outTx(1), outTx(-1), inTx(1, 0), inTx(5, 0)} {
		for _, height := range []int64{-1, 0, 10000} {
			expectCode(t, what+": SpendFault", impl.SpendFault(list, x, height), code)
			expectRefused(t, what+": ApplyTx", impl.ApplyTx(list, x, height), code)
		}
		expectRefused(t, what+": UndoTx", impl.UndoTx(list, x, nil), code)
		expectRefused(t, what+": UndoTx", impl.UndoTx(list, x, list), code)
	}
}

// proofFor is a proof that opens the locks of these tests, late enough.
func proofFor(lock []int64, text int64) []int64 {
	switch len(lock) {
	case 0:
		return []int64{1}
	case 2:
		return []int64{signature(lock[0]-impl.OpPush, text)}
	case 4:
		return []int64{signature(lock[2]-impl.OpPush, text)}
	case 5:
		return []int64{signature(lock[3]-impl.OpPush, text), signature(lock[0]-impl.OpPush, text)}
	}
	return nil
}

// signed is a copy with the proofs that open the locks of the coins; a missing coin gets no proof.
func signed(list []impl.Coin, x impl.Tx) impl.Tx {
	x = cloneTx(x)
	text := impl.TxSum(bare(x)).Value
	for i, in := range x.Ins {
		for _, c := range list {
			if c.Tx == in.Tx && c.Out == in.Out {
				x.Ins[i].Proof = proofFor(c.Lock, text)
			}
		}
	}
	return x
}

// spendTx spends coins, all of them with Out 0 and the given Tx, for outputs of the given values.
func spendTx(txs []int64, values ...int64) impl.Tx {
	var x impl.Tx
	for _, tx := range txs {
		x.Ins = append(x.Ins, impl.In{Tx: tx})
	}
	for _, value := range values {
		x.Outs = append(x.Outs, impl.Out{Value: value, Lock: program(pushed(4), impl.OpSign)})
	}
	return x
}

// modelFault compares places as one number.
func modelFault(list []impl.Coin) int64 {
	if len(list) > 40 {
		return impl.ErrMany
	}
	within := func(n int64, most int64) bool { return n >= 0 && n <= most }
	total := int64(0)
	for i, c := range list {
		if !within(c.Tx, 2147483646) || !within(c.Out, 3) || !within(c.Value, 1000000) || !within(c.Height, 9999) {
			return impl.ErrRange
		}
		if code := impl.ProgramFault(c.Lock); code != impl.OK {
			return code
		}
		// both numbers are within their bounds here
		if i > 0 && 4*list[i-1].Tx+list[i-1].Out >= 4*c.Tx+c.Out {
			return impl.ErrForm
		}
		total += c.Value
	}
	if total > 1000000 {
		return impl.ErrMoney
	}
	return impl.OK
}

func modelIndex(list []impl.Coin, tx int64, out int64) int {
	return slices.IndexFunc(list, func(c impl.Coin) bool { return c.Tx == tx && c.Out == out })
}

// insertCoin puts a coin behind those that are not greater.
func insertCoin(list []impl.Coin, c impl.Coin) []impl.Coin {
	at := len(list)
	for at > 0 && (c.Tx < list[at-1].Tx || c.Tx == list[at-1].Tx && c.Out < list[at-1].Out) {
		at--
	}
	return slices.Insert(slices.Clone(list), at, c)
}

// modelApply applies a transaction to a list of coins, without a map.
func modelApply(list []impl.Coin, x impl.Tx, height int64) impl.CoinsResult {
	refuse := func(code int64) impl.CoinsResult { return impl.CoinsResult{Code: code} }
	if code := modelFault(list); code != impl.OK {
		return refuse(code)
	}
	if code := impl.TxFault(x); code != impl.OK {
		return refuse(code)
	}
	if height < 0 || height > 9999 {
		return refuse(impl.ErrRange)
	}
	sum := impl.TxSum(x).Value
	result := impl.CoinsResult{Coins: list}
	for _, in := range x.Ins {
		at := modelIndex(result.Coins, in.Tx, in.Out)
		if at < 0 {
			return refuse(impl.ErrNone)
		}
		c := result.Coins[at]
		if c.Base && height-c.Height < 2 {
			return refuse(impl.ErrState)
		}
		if !impl.Opens(c.Lock, in.Proof, sum, height) {
			return refuse(impl.ErrProof)
		}
		result.Fee += c.Value
		result.Spent = append(result.Spent, c)
		result.Coins = slices.Delete(slices.Clone(result.Coins), at, at+1)
	}
	taken := false
	for i, out := range x.Outs {
		taken = taken || modelIndex(list, sum, int64(i)) >= 0
		result.Fee -= out.Value
		result.Coins = insertCoin(result.Coins, impl.Coin{Tx: sum, Out: int64(i), Value: out.Value, Lock: out.Lock, Height: height, Base: len(x.Ins) == 0})
	}
	switch {
	case len(x.Ins) > 0 && result.Fee < 0:
		return refuse(impl.ErrMoney)
	case taken:
		return refuse(impl.ErrTaken)
	case len(result.Coins) > 40:
		return refuse(impl.ErrMany)
	case modelFault(result.Coins) != impl.OK:
		return refuse(impl.ErrMoney)
	}
	if len(x.Ins) == 0 {
		result.Fee = 0
	}
	return result
}

// modelUndo takes a transaction back from a list of coins.
func modelUndo(list []impl.Coin, x impl.Tx, spent []impl.Coin) impl.CoinsResult {
	if code := modelFault(list); code != impl.OK {
		return impl.CoinsResult{Code: code}
	}
	if code := impl.TxFault(x); code != impl.OK {
		return impl.CoinsResult{Code: code}
	}
	sum, coins := impl.TxSum(x).Value, list
	for i := range x.Outs {
		at := modelIndex(coins, sum, int64(i))
		if at < 0 {
			return impl.CoinsResult{Code: impl.ErrNone}
		}
		coins = slices.Delete(slices.Clone(coins), at, at+1)
	}
	if len(spent) != len(x.Ins) || len(coins)+len(spent) > 40 {
		return impl.CoinsResult{Code: impl.ErrMany}
	}
	for _, c := range spent {
		coins = insertCoin(coins, c)
	}
	if code := modelFault(coins); code != impl.OK {
		return impl.CoinsResult{Code: code}
	}
	return impl.CoinsResult{Coins: coins}
}

// A coinStep is a transaction for some coins at a height, and what the model makes of it.
type coinStep struct {
	coins  []impl.Coin
	x      impl.Tx
	height int64
	want   impl.CoinsResult
}

func randomLock(source *rand.Rand) []int64 {
	key, other := pushed(source.Int64N(5)), pushed(source.Int64N(5))
	switch source.IntN(8) {
	case 0:
		return program(key, impl.OpSign, impl.OpVerify, other, impl.OpSign)
	case 1:
		return program(pushed(source.Int64N(30)), impl.OpAfter, key, impl.OpSign)
	case 2:
		return nil
	case 3:
		return program(pushed(1))
	}
	return program(key, impl.OpSign)
}

// randomSpend spends some of the coins; most of the transactions are valid.
func randomSpend(source *rand.Rand, coins []impl.Coin) impl.Tx {
	x := impl.Tx{Note: source.Int64N(65536)}
	worth := source.Int64N(300)
	if source.IntN(4) > 0 {
		worth = 0
		for _, at := range source.Perm(len(coins))[:min(len(coins), source.IntN(5))] {
			worth += coins[at].Value
			x.Ins = append(x.Ins, impl.In{Tx: coins[at].Tx, Out: coins[at].Out})
		}
	}
	if len(x.Ins) > 0 && source.IntN(20) == 0 {
		x.Ins[source.IntN(len(x.Ins))].Tx++
	}
	if source.IntN(12) == 0 {
		worth += source.Int64N(3)
	}
	for range 1 + source.IntN(4) {
		value := source.Int64N(worth + 1)
		worth -= value
		x.Outs = append(x.Outs, impl.Out{Value: value, Lock: randomLock(source)})
	}
	if source.IntN(3) == 0 {
		x.Outs[0].Value += worth
	}
	x = signed(coins, x)
	if len(x.Ins) > 0 && source.IntN(20) == 0 {
		x.Ins[source.IntN(len(x.Ins))].Proof = []int64{0}
	}
	return x
}

// randomChain applies one transaction after the other, from no coins on; refused ones leave the coins as they are.
func randomChain(source *rand.Rand, length int) []coinStep {
	var steps []coinStep
	var coins []impl.Coin
	height := int64(0)
	for i := range length {
		x := randomSpend(source, coins)
		if i > 0 && source.IntN(15) == 0 {
			x = steps[i-1].x
		}
		step := coinStep{coins, x, height, modelApply(coins, x, height)}
		steps = append(steps, step)
		if step.want.Code == impl.OK {
			coins = step.want.Coins
		}
		height += source.Int64N(3)
	}
	return steps
}

func randomSteps(chains int, length int) []coinStep {
	source := rand.New(rand.NewPCG(6, 5))
	var steps []coinStep
	for range chains {
		steps = append(steps, randomChain(source, length)...)
	}
	return steps
}

// A coinsChange makes three good coins malformed.
type coinsChange struct {
	what string
	code int64
	make func(list []impl.Coin)
}

func threeCoins(changes ...func([]impl.Coin)) []impl.Coin {
	list := []impl.Coin{coinAt(7, 1, 50), coinAt(7, 2, 20), coinAt(9, 0, 0)}
	for _, change := range changes {
		change(list)
	}
	return list
}

// coinsFaultsInOrder lists changes in the order in which the contract checks for them.
func coinsFaultsInOrder() []coinsChange {
	var all []coinsChange
	for i, name := range []string{"first ", "second ", "third "} {
		all = append(all,
			coinsChange{name + "Tx", impl.ErrRange, func(list []impl.Coin) { list[i].Tx = impl.MaxSum + 1 }},
			coinsChange{name + "Out", impl.ErrRange, func(list []impl.Coin) { list[i].Out = 4 }},
			coinsChange{name + "Value", impl.ErrRange, func(list []impl.Coin) { list[i].Value = -1 }},
			coinsChange{name + "Height", impl.ErrRange, func(list []impl.Coin) { list[i].Height = 10000 }},
			coinsChange{name + "Lock of 13", impl.ErrMany, func(list []impl.Coin) { list[i].Lock = append(list[i].Lock, repeatInt(1, 11)...) }},
			coinsChange{name + "Lock", impl.ErrForm, func(list []impl.Coin) { list[i].Lock[0] = 0 }},
		)
		if i > 0 {
			all = append(all, coinsChange{name + "coin as the one before", impl.ErrForm, func(list []impl.Coin) { list[i].Tx, list[i].Out = list[i-1].Tx, list[i-1].Out }})
		}
	}
	return append(all, coinsChange{"all Values", impl.ErrMoney, func(list []impl.Coin) { list[0].Value, list[2].Value = impl.MaxMoney-20, 1 }})
}

func TestConstantsOfChapter5(t *testing.T) {
	if got := [2]int64{impl.Mature, impl.MaxCoins}; got != [2]int64{2, 40} {
		t.Errorf("got %v", got)
	}
}

func TestCoinsFaultOfSizes(t *testing.T) {
	for _, size := range []int{0, 1, 2, 3, 39, 40} {
		expectCoinsFault(t, "some coins", coinsOf(size), impl.OK)
	}
	for _, size := range []int{41, 42, 80, 200, 201, 5000} {
		expectCoinsFault(t, "too many coins", coinsOf(size), impl.ErrMany)
	}
	// the number of the coins comes before each of them
	expectCoinsFault(t, "41 malformed coins", slices.Repeat([]impl.Coin{{Tx: -1}}, 41), impl.ErrMany)
	expectCoinsFault(t, "40 malformed coins", slices.Repeat([]impl.Coin{{Tx: -1}}, 40), impl.ErrRange)
	expectCoinsFault(t, "40 equal coins", make([]impl.Coin, 40), impl.ErrForm)
	expectCoinsFault(t, "a malformed coin after 39", append(coinsOf(39), coinAt(1000, 4, 0)), impl.ErrRange)
}

func TestCoinsFaultOfNumbers(t *testing.T) {
	type numberCase struct {
		what      string
		good, bad []int64
		with      func(n int64) impl.Coin
	}
	cases := []numberCase{
		{"Tx", []int64{0, 1, 2147483645, 2147483646}, []int64{-1, 2147483647, 2147483648, 1 << 32}, func(n int64) impl.Coin { return coinAt(n, 0, 5) }},
		{"Out", []int64{0, 1, 2, 3}, []int64{-1, 4, 5, 1 << 32}, func(n int64) impl.Coin { return coinAt(5, n, 5) }},
		{"Value", []int64{0, 1, 999999, 1000000}, []int64{-1, 1000001, 1 << 32}, func(n int64) impl.Coin { return coinAt(5, 0, n) }},
		{"Height", []int64{0, 1, 9998, 9999}, []int64{-1, 10000, 10001, 1 << 32}, func(n int64) impl.Coin {
			c := coinAt(5, 0, 5)
			c.Height, c.Base = n, n%2 == 0
			return c
		}},
	}
	for _, c := range cases {
		for _, n := range c.good {
			expectCoinsFault(t, c.what, []impl.Coin{c.with(n)}, impl.OK)
		}
		for _, n := range append(c.bad, math.MinInt64, math.MaxInt64) {
			expectCoinsFault(t, c.what, []impl.Coin{c.with(n)}, impl.ErrRange)
		}
	}
}

func TestCoinsFaultOfLocks(t *testing.T) {
	locked := func(lock ...int64) []impl.Coin {
		c := coinAt(5, 0, 5)
		c.Lock = lock
		return []impl.Coin{c}
	}
	for size := range 13 {
		expectCoinsFault(t, "a Lock", locked(repeatInt(1, size)...), impl.OK)
	}
	for _, size := range []int{13, 14, 200} {
		expectCoinsFault(t, "too long a Lock", locked(repeatInt(1, size)...), impl.ErrMany)
		expectCoinsFault(t, "too long a malformed Lock", locked(repeatInt(0, size)...), impl.ErrMany)
	}
	for _, op := range malformedOperations() {
		expectCoinsFault(t, "a malformed operation", locked(op), impl.ErrForm)
		expectCoinsFault(t, "a malformed last operation", locked(append(repeatInt(1, 11), op)...), impl.ErrForm)
	}
}

func TestCoinsFaultOfOrder(t *testing.T) {
	for _, c := range []struct {
		what       string
		tx1, out1  int64
		tx2, out2  int64
		increasing bool
	}{
		{"the next Out", 7, 0, 7, 1, true},
		{"the last Out", 7, 0, 7, 3, true},
		{"the next Tx", 7, 0, 8, 0, true},
		{"the next Tx with a lower Out", 7, 3, 8, 0, true},
		{"the first and the last Tx", 0, 3, impl.MaxSum, 0, true},
		{"equal neighbours", 7, 1, 7, 1, false},
		{"equal neighbours of the last Tx", impl.MaxSum, 3, impl.MaxSum, 3, false},
		{"equal neighbours of 0", 0, 0, 0, 0, false},
		{"the Out before", 7, 2, 7, 1, false},
		{"the Tx before", 8, 1, 7, 1, false},
		{"the Tx before with a higher Out", 8, 0, 7, 3, false},
		{"the last and the first Tx", impl.MaxSum, 0, 0, 3, false},
	} {
		want := int64(impl.ErrForm)
		if c.increasing {
			want = impl.OK
		}
		first, second := coinAt(c.tx1, c.out1, 5), coinAt(c.tx2, c.out2, 6)
		expectCoinsFault(t, c.what, []impl.Coin{first, second}, want)
		if c.tx1 > 0 && c.tx2 < impl.MaxSum {
			expectCoinsFault(t, c.what+" after others", []impl.Coin{coinAt(0, 0, 1), coinAt(0, 1, 1), first, second}, want)
			expectCoinsFault(t, c.what+" before others", []impl.Coin{first, second, coinAt(impl.MaxSum, 3, 1)}, want)
		}
	}
	// other fields do not count
	equal := []impl.Coin{coinAt(7, 1, 5), coinAt(7, 1, 6)}
	equal[1].Height, equal[1].Base, equal[1].Lock = 5, true, nil
	expectCoinsFault(t, "other coins of the same place", equal, impl.ErrForm)
	expectCoinsFault(t, "coins that are equal, but no neighbours", []impl.Coin{coinAt(7, 1, 5), coinAt(8, 1, 5), coinAt(7, 1, 5)}, impl.ErrForm)
}

func TestCoinsFaultOfMoney(t *testing.T) {
	for _, c := range []struct {
		values []int64
		code   int64
	}{
		{[]int64{1000000}, impl.OK}, {[]int64{600000, 400000}, impl.OK}, {[]int64{600000, 400001}, impl.ErrMoney},
		{[]int64{1000000, 0, 0, 1}, impl.ErrMoney}, {[]int64{999999, 0, 0, 1}, impl.OK},
		{[]int64{333333, 333333, 333334}, impl.OK}, {[]int64{333333, 333334, 333334}, impl.ErrMoney},
	} {
		for _, order := range ordersOf(c.values) {
			expectCoinsFault(t, "values", valued(coinsOf(len(order)), order...), c.code)
		}
	}
	expectCoinsFault(t, "40 equal values", valued(coinsOf(40), repeatInt(25000, 40)...), impl.OK)
	expectCoinsFault(t, "40 values, the last one greater", valued(coinsOf(40), append(repeatInt(25000, 39), 25001)...), impl.ErrMoney)
	expectCoinsFault(t, "40 greatest values", valued(coinsOf(40), repeatInt(impl.MaxMoney, 40)...), impl.ErrMoney)
}

// The codes come in the order of the contract: of two faults the one that is checked first.
func TestCoinsFaultOrderOfCodes(t *testing.T) {
	expectCoinsFault(t, "three coins", threeCoins(), impl.OK)
	faults := coinsFaultsInOrder()
	for i, first := range faults {
		expectCoinsFault(t, first.what, threeCoins(first.make), first.code)
		for _, later := range faults[i+1:] {
			expectCoinsFault(t, first.what+" and "+later.what, threeCoins(later.make, first.make), first.code)
		}
	}
	for _, op := range malformedOperations() {
		list := []impl.Coin{coinAt(7, 1, 5), coinAt(7, 1, 5)}
		list[1].Lock = repeatInt(op, 13)
		expectCoinsFault(t, "a long lock of an equal coin", list, impl.ErrMany)
	}
}

func TestFindCoin(t *testing.T) {
	list := append(coinsOf(38), coinAt(impl.MaxSum, 2, 5), coinAt(impl.MaxSum, 3, impl.MaxMoney-5))
	list[3].Base, list[3].Height, list[3].Lock = true, 9999, repeatInt(pushed(5), 12)
	list[4].Lock, list[5].Lock = nil, []int64{}
	for _, c := range list {
		expectCoin(t, "FindCoin", impl.FindCoin(list, c.Tx, c.Out), impl.OK, c)
	}
	for _, n := range append(extremes(), 4, 90) {
		for _, m := range extremes() {
			if modelIndex(list, n, m) < 0 {
				expectCoin(t, "no such coin", impl.FindCoin(list, n, m), impl.ErrNone, impl.Coin{})
			}
		}
	}
	for at, c := range list {
		missing := slices.Delete(slices.Clone(list), at, at+1)
		expectCoin(t, "the missing coin", impl.FindCoin(missing, c.Tx, c.Out), impl.ErrNone, impl.Coin{})
	}
	for _, empty := range [][]impl.Coin{nil, {}} {
		expectCoin(t, "no coins", impl.FindCoin(empty, 0, 0), impl.ErrNone, impl.Coin{})
	}
	expectCoin(t, "coin of zeros", impl.FindCoin(make([]impl.Coin, 1), 0, 0), impl.OK, impl.Coin{})
	expectCoin(t, "an Out of another Tx", impl.FindCoin([]impl.Coin{coinAt(7, 0, 1), coinAt(9, 1, 1)}, 9, 0), impl.ErrNone, impl.Coin{})
	expectCoin(t, "numbers exchanged", impl.FindCoin([]impl.Coin{coinAt(1, 2, 1)}, 2, 1), impl.ErrNone, impl.Coin{})
}

func TestWorthOf(t *testing.T) {
	expectInt(t, "nil", impl.WorthOf(nil), impl.OK, 0)
	expectInt(t, "no coins", impl.WorthOf([]impl.Coin{}), impl.OK, 0)
	expectInt(t, "three coins", impl.WorthOf(threeCoins()), impl.OK, 70)
	expectInt(t, "40 coins", impl.WorthOf(valued(coinsOf(40), repeatInt(25000, 40)...)), impl.OK, impl.MaxMoney)
	expectInt(t, "too much", impl.WorthOf(valued(coinsOf(3), 500000, 500000, 1)), impl.ErrMoney, 0)
}

// SameCoins compares all fields, those of malformed coins too.
func TestSameCoins(t *testing.T) {
	lists := [][]impl.Coin{nil, threeCoins(), threeCoins()[:2], threeCoins()[1:], coinsOf(40), coinsOf(41), make([]impl.Coin, 1), make([]impl.Coin, 2), make([]impl.Coin, 200)}
	for _, c := range coinsFaultsInOrder() {
		lists = append(lists, threeCoins(c.make))
	}
	for i := range 3 {
		for _, change := range []func(c *impl.Coin){
			func(c *impl.Coin) { c.Tx += 1000 }, func(c *impl.Coin) { c.Out = 3 }, func(c *impl.Coin) { c.Value++ }, func(c *impl.Coin) { c.Height++ },
			func(c *impl.Coin) { c.Base = true }, func(c *impl.Coin) { c.Lock[1]++ }, func(c *impl.Coin) { c.Lock = c.Lock[:1] }, func(c *impl.Coin) { c.Lock = nil },
			func(c *impl.Coin) { c.Lock = append(c.Lock, 1) }, func(c *impl.Coin) { slices.Reverse(c.Lock) }, func(c *impl.Coin) { c.Tx = -1 }, func(c *impl.Coin) { c.Value = math.MinInt64 },
		} {
			lists = append(lists, threeCoins(func(list []impl.Coin) { change(&list[i]) }))
		}
	}
	lists = append(lists, threeCoins(func(list []impl.Coin) { slices.Reverse(list) }))
	for i, a := range lists {
		for j, b := range lists {
			if impl.SameCoins(cloneCoins(a), b) != (i == j) {
				t.Errorf("SameCoins of %v and %v does not report %t", a, b, i == j)
			}
		}
	}
	if !impl.SameCoins(nil, []impl.Coin{}) || !impl.SameCoins([]impl.Coin{{Lock: nil}}, []impl.Coin{{Lock: []int64{}}}) {
		t.Error("nil and empty lists are not equal")
	}
}

// The example: coins of 50 and 20, and an output of 60.
func TestExampleOfChapter5(t *testing.T) {
	coins := []impl.Coin{coinAt(7, 0, 50), coinAt(9, 0, 20)}
	coins[0].Base = true
	x := signed(coins, spendTx([]int64{7, 9}, 60))
	for height, want := range map[int64]int64{-1: impl.ErrRange, 0: impl.ErrState, 1: impl.ErrState, 2: impl.ErrState, 3: impl.OK, 4: impl.OK, 9999: impl.OK, 10000: impl.ErrRange} {
		expectCode(t, "SpendFault", impl.SpendFault(coins, x, height), want)
		if want != impl.OK {
			expectRefused(t, "ApplyTx", impl.ApplyTx(coins, x, height), want)
			continue
		}
		created := impl.Coin{Tx: impl.TxSum(x).Value, Value: 60, Lock: x.Outs[0].Lock, Height: height}
		expectCoins(t, "ApplyTx", impl.ApplyTx(coins, x, height), impl.CoinsResult{Fee: 10, Spent: coins, Coins: []impl.Coin{created}})
		expectCoins(t, "UndoTx", impl.UndoTx([]impl.Coin{created}, x, coins), impl.CoinsResult{Coins: coins})
	}
}

// A base coin is spent from its Height plus 2 on, another coin at any height, also before its own.
func TestPromise6Maturity(t *testing.T) {
	for _, made := range []int64{0, 1, 2, 500, 9996, 9997, 9998, 9999} {
		coins := []impl.Coin{coinAt(7, 0, 50)}
		coins[0].Height = made
		x := signed(coins, spendTx([]int64{7}, 50))
		for _, height := range []int64{0, 1, 2, 3, 4, 499, 500, 501, 502, 503, 9996, 9997, 9998, 9999} {
			coins[0].Base = false
			expectCode(t, "not of a base", impl.SpendFault(coins, x, height), impl.OK)
			coins[0].Base = true
			want := int64(impl.OK)
			if height < made+2 {
				want = impl.ErrState
			}
			expectCode(t, "of a base", impl.SpendFault(coins, x, height), want)
			expectCode(t, "of a base: ApplyTx", impl.ApplyTx(coins, x, height).Code, want)
		}
	}
}

// The coins that a base makes are immature at its height and at the next one.
func TestPromise6MaturityOfBases(t *testing.T) {
	base := spendTx(nil, 50, 20)
	coins := impl.ApplyTx(nil, base, 30).Coins
	x := signed(coins, spendTx([]int64{impl.TxSum(base).Value}, 50))
	for height, want := range map[int64]int64{29: impl.ErrState, 30: impl.ErrState, 31: impl.ErrState, 32: impl.OK} {
		expectCode(t, "after a base", impl.SpendFault(coins, x, height), want)
	}
	later := impl.ApplyTx(coins, x, 32).Coins
	y := signed(later, spendTx([]int64{impl.TxSum(x).Value}, 50))
	expectCode(t, "after another transaction", impl.SpendFault(later, y, 32), impl.OK)
}

// A locked coin is spent by its key alone, at its time, for the transaction that was signed.
func TestPromise6Locks(t *testing.T) {
	coins := []impl.Coin{coinAt(7, 0, 50), coinAt(8, 0, 50), coinAt(9, 0, 50)}
	coins[1].Lock = impl.PairLock(3, 4).List
	coins[2].Lock = impl.LaterLock(3, 20).List
	for at, c := range coins {
		x := signed(coins, spendTx([]int64{c.Tx}, 40))
		expectCode(t, "signed", impl.SpendFault(coins, x, 20), impl.OK)
		for _, proof := range [][]int64{nil, {}, {0}, {1}, {1, 1}, append([]int64{1}, proofFor(c.Lock, 1)...)} {
			x.Ins[0].Proof = proof
			expectCode(t, "another proof", impl.SpendFault(coins, x, 20), impl.ErrProof)
			expectRefused(t, "another proof", impl.ApplyTx(coins, x, 20), impl.ErrProof)
		}
		x = signed(coins, spendTx([]int64{c.Tx}, 40))
		x.Outs[0].Value = 41
		expectCode(t, "another transaction", impl.SpendFault(coins, x, 20), impl.ErrProof)
		x.Outs[0].Value = 40
		changed := cloneCoins(coins)
		changed[at].Lock = impl.KeyLock(5).List
		expectCode(t, "another lock", impl.SpendFault(changed, x, 20), impl.ErrProof)
	}
	x := signed(coins, spendTx([]int64{9}, 40))
	expectCode(t, "before the height of the lock", impl.SpendFault(coins, x, 19), impl.ErrProof)
	expectRefused(t, "before the height of the lock", impl.ApplyTx(coins, x, 19), impl.ErrProof)
	// each input has its own proof: they may not be exchanged
	coins[1].Lock = impl.KeyLock(4).List
	x = signed(coins, spendTx([]int64{8, 7}, 100))
	expectCode(t, "two keys", impl.SpendFault(coins, x, 20), impl.OK)
	x.Ins[0].Proof, x.Ins[1].Proof = x.Ins[1].Proof, x.Ins[0].Proof
	expectCode(t, "exchanged proofs", impl.SpendFault(coins, x, 20), impl.ErrProof)
}

// A missing coin is not spent: another Tx, another Out, or no coins at all.
func TestPromise6MissingCoins(t *testing.T) {
	coins := []impl.Coin{coinAt(7, 1, 50), coinAt(9, 2, 20)}
	for _, in := range []impl.In{{Tx: 7}, {Tx: 7, Out: 2}, {Tx: 9, Out: 1}, {Tx: 8, Out: 1}, {Tx: 0, Out: 0}, {Tx: impl.MaxSum, Out: 3}} {
		x := impl.Tx{Ins: []impl.In{in}, Outs: []impl.Out{{}}}
		expectCode(t, "missing", impl.SpendFault(coins, x, 5), impl.ErrNone)
		expectRefused(t, "missing", impl.ApplyTx(coins, x, 5), impl.ErrNone)
		expectCode(t, "no coins", impl.SpendFault(nil, x, 5), impl.ErrNone)
		expectRefused(t, "no coins", impl.ApplyTx([]impl.Coin{}, x, 5), impl.ErrNone)
		x.Ins = []impl.In{{Tx: 7, Out: 1}, in, {Tx: 9, Out: 2}}
		expectCode(t, "missing between others", impl.SpendFault(coins, signed(coins, x), 5), impl.ErrNone)
	}
}

// spending has what SpendFault is given; the coins are opened by the keys.
type spending struct {
	coins  []impl.Coin
	x      impl.Tx
	height int64
	keys   []int64
}

func (s *spending) sign() {
	text := impl.TxSum(bare(s.x)).Value
	for i := range s.x.Ins {
		s.x.Ins[i].Proof = []int64{signature(s.keys[i], text)}
	}
}

type spendingChange struct {
	what string
	code int64
	make func(s *spending)
}

func newSpending(changes ...func(*spending)) spending {
	coins := []impl.Coin{coinAt(7, 0, 50), coinAt(9, 0, 20)}
	coins[0].Base, coins[1].Base = true, true
	s := spending{coins, spendTx([]int64{9, 7}, 60, 10), 3, []int64{3, 3}}
	for _, change := range changes {
		change(&s)
	}
	s.sign()
	return s
}

// spendingFaultsInOrder lists changes in the order in which the contract of SpendFault checks for them.
func spendingFaultsInOrder() []spendingChange {
	return []spendingChange{
		{"41 coins", impl.ErrMany, func(s *spending) { s.coins = coinsOf(41) }},
		{"equal coins", impl.ErrForm, func(s *spending) { s.coins = append(s.coins, s.coins[len(s.coins)-1]) }},
		{"coins worth too much", impl.ErrMoney, func(s *spending) { s.coins[0].Value, s.coins[1].Value = impl.MaxMoney, 1 }},
		{"Note", impl.ErrRange, func(s *spending) { s.x.Note = -1 }},
		{"no outputs", impl.ErrMany, func(s *spending) { s.x.Outs = nil }},
		{"the same coin twice", impl.ErrTaken, func(s *spending) { s.x.Ins = []impl.In{{Tx: 9}, {Tx: 9}} }},
		{"outputs worth too much", impl.ErrMoney, func(s *spending) { s.x.Outs = []impl.Out{{Value: impl.MaxMoney}, {Value: 1}} }},
		{"height", impl.ErrRange, func(s *spending) { s.height = 10000 }},
		{"base", impl.ErrForm, func(s *spending) { s.x.Ins = nil }},
		{"first missing", impl.ErrNone, func(s *spending) { s.x.Ins[0].Tx = 8 }},
		{"first immature", impl.ErrState, func(s *spending) { s.coins[1].Height = 2 }},
		{"first locked", impl.ErrProof, func(s *spending) { s.keys[0] = 4 }},
		{"second missing", impl.ErrNone, func(s *spending) { s.x.Ins[1].Out = 1 }},
		{"second immature", impl.ErrState, func(s *spending) { s.coins[0].Height = 9999 }},
		{"second locked", impl.ErrProof, func(s *spending) { s.keys[1] = 5 }},
		{"outputs exceed the coins", impl.ErrMoney, func(s *spending) { s.x.Outs[1].Value = 11 }},
	}
}

// The codes come in the order of the contract; ApplyTx has the same ones, but for a base.
func TestSpendFaultOrderOfCodes(t *testing.T) {
	expect := func(what string, code int64, changes ...func(*spending)) {
		t.Helper()
		s := newSpending(changes...)
		expectCode(t, what+": SpendFault", impl.SpendFault(s.coins, s.x, s.height), code)
		if len(s.x.Ins) > 0 {
			expectCode(t, what+": ApplyTx", impl.ApplyTx(s.coins, s.x, s.height).Code, code)
		}
	}
	expect("no change", impl.OK)
	faults := spendingFaultsInOrder()
	for i, first := range faults {
		expect(first.what, first.code, first.make)
		for _, later := range faults[i+1:] {
			if first.what == "no outputs" && later.what == "outputs worth too much" {
				continue
			}
			expect(first.what+" and "+later.what, first.code, later.make, first.make)
		}
	}
}

func TestSpendFaultOfBases(t *testing.T) {
	coins := threeCoins()
	for _, values := range [][]int64{{0}, {70}, {71}, {impl.MaxMoney}} {
		for height, want := range map[int64]int64{-1: impl.ErrRange, 0: impl.ErrForm, 9999: impl.ErrForm, 10000: impl.ErrRange} {
			expectCode(t, "a base", impl.SpendFault(coins, spendTx(nil, values...), height), want)
			expectCode(t, "a base without coins", impl.SpendFault(nil, spendTx(nil, values...), height), want)
		}
	}
}

// Outputs that together are equal to the coins, and one more.
func TestSpendFaultOfMoney(t *testing.T) {
	coins := []impl.Coin{coinAt(7, 0, 50), coinAt(9, 0, 20), coinAt(11, 0, 0), coinAt(13, 0, 999000)}
	for _, c := range []struct {
		txs    []int64
		values []int64
		fee    int64
	}{
		{[]int64{7}, []int64{50}, 0}, {[]int64{7}, []int64{51}, -1}, {[]int64{7}, []int64{0}, 50}, {[]int64{7}, []int64{25, 25}, 0}, {[]int64{7}, []int64{25, 25, 1}, -1},
		{[]int64{7, 9}, []int64{70}, 0}, {[]int64{9, 7}, []int64{71}, -1}, {[]int64{9, 7}, []int64{20, 50}, 0}, {[]int64{7, 9}, []int64{60}, 10},
		{[]int64{11}, []int64{0, 0}, 0}, {[]int64{11}, []int64{0, 1}, -1}, {[]int64{7, 9, 11, 13}, []int64{999070}, 0}, {[]int64{13, 11, 9, 7}, []int64{999071}, -1},
		{[]int64{13}, []int64{999000}, 0}, {[]int64{13}, []int64{999001}, -1}, {[]int64{13}, []int64{impl.MaxMoney}, -1000}, {[]int64{7, 9, 11, 13}, []int64{0}, 999070},
	} {
		x := signed(coins, spendTx(c.txs, c.values...))
		if c.fee < 0 {
			expectCode(t, "too much", impl.SpendFault(coins, x, 5), impl.ErrMoney)
			expectRefused(t, "too much", impl.ApplyTx(coins, x, 5), impl.ErrMoney)
			continue
		}
		expectCode(t, "not too much", impl.SpendFault(coins, x, 5), impl.OK)
		expectCoins(t, "ApplyTx", impl.ApplyTx(coins, x, 5), modelApply(coins, x, 5))
		if got := impl.ApplyTx(coins, x, 5).Fee; got != c.fee {
			t.Errorf("the fee is %d, want %d", got, c.fee)
		}
	}
}

func TestApplyTxOfBases(t *testing.T) {
	x := impl.Tx{Note: 4, Outs: []impl.Out{{Value: 50, Lock: []int64{103, 8}}, {Value: 0}, {Value: 7, Lock: repeatInt(1, 12)}}}
	sum := impl.TxSum(x).Value
	for _, height := range []int64{0, 1, 9998, 9999} {
		made := []impl.Coin{
			{Tx: sum, Out: 0, Value: 50, Lock: []int64{103, 8}, Height: height, Base: true},
			{Tx: sum, Out: 1, Value: 0, Height: height, Base: true},
			{Tx: sum, Out: 2, Value: 7, Lock: repeatInt(1, 12), Height: height, Base: true},
		}
		expectCoins(t, "without coins", impl.ApplyTx(nil, x, height), impl.CoinsResult{Coins: made})
		lower, higher := coinAt(sum-1, 3, 1), coinAt(sum+1, 0, 2)
		expectCoins(t, "between others", impl.ApplyTx([]impl.Coin{lower, higher}, x, height), impl.CoinsResult{Coins: slices.Concat([]impl.Coin{lower}, made, []impl.Coin{higher})})
		// a coin of the same Tx, but of an Out that the transaction does not have
		last := coinAt(sum, 3, 3)
		expectCoins(t, "beside another Out", impl.ApplyTx([]impl.Coin{lower, last}, x, height), impl.CoinsResult{Coins: slices.Concat([]impl.Coin{lower}, made, []impl.Coin{last})})
	}
	for _, height := range []int64{math.MinInt64, -1, 10000, math.MaxInt64} {
		expectRefused(t, "height", impl.ApplyTx(nil, x, height), impl.ErrRange)
		expectRefused(t, "Note before height", impl.ApplyTx(nil, impl.Tx{Note: 65536}, height), impl.ErrRange)
		expectRefused(t, "no outputs before height", impl.ApplyTx(nil, impl.Tx{}, height), impl.ErrMany)
	}
}

// A coin that a transaction creates may not exist, at whichever of its outputs and whatever it is otherwise.
func TestApplyTxOfTakenCoins(t *testing.T) {
	coins := []impl.Coin{coinAt(7, 0, 50)}
	for _, x := range []impl.Tx{spendTx(nil, 1, 2, 3), signed(coins, spendTx([]int64{7}, 1, 2, 3))} {
		sum := impl.TxSum(x).Value
		for out := range int64(4) {
			list := insertCoin(coins, coinAt(sum, out, 5))
			want := int64(impl.ErrTaken)
			if out == 3 {
				want = impl.OK
			}
			expectCode(t, "a coin of the same Tx", impl.ApplyTx(list, x, 9).Code, want)
		}
		expectCode(t, "SpendFault does not look for it", impl.SpendFault(insertCoin(coins, coinAt(sum, 0, 5)), signed(coins, spendTx([]int64{7}, 1, 2, 3)), 9), impl.OK)
	}
	base := spendTx(nil, 50)
	once := impl.ApplyTx(coins, base, 5)
	for _, height := range []int64{0, 5, 6, 9999} {
		expectRefused(t, "a base twice", impl.ApplyTx(once.Coins, base, height), impl.ErrTaken)
	}
	other := base
	other.Note++
	expectCode(t, "another base", impl.ApplyTx(once.Coins, other, 5).Code, impl.OK)
}

// selfSpender returns a transaction that spends the given Out of its own sum.
// The numbers are solutions of that equation, found by trying.
func selfSpender(t *testing.T, out int64) impl.Tx {
	t.Helper()
	note, sum := int64(2), int64(1644803808)
	if out == 3 {
		note, sum = 3, 1745539323
	}
	x := impl.Tx{Note: note, Ins: []impl.In{{Tx: sum, Out: out}}, Outs: []impl.Out{{Value: 5, Lock: []int64{103, 8}}}}
	if impl.TxSum(x).Value != sum {
		t.Fatalf("the sum is %d, not %d", impl.TxSum(x).Value, sum)
	}
	return x
}

// A coin that a transaction spends itself exists all the same.
func TestApplyTxOfTheCoinItSpends(t *testing.T) {
	x := selfSpender(t, 0)
	coins := []impl.Coin{coinAt(x.Ins[0].Tx, 0, 6)}
	expectCode(t, "SpendFault", impl.SpendFault(coins, signed(coins, x), 4), impl.OK)
	expectRefused(t, "ApplyTx", impl.ApplyTx(coins, signed(coins, x), 4), impl.ErrTaken)
	expectRefused(t, "ApplyTx without a proof", impl.ApplyTx(coins, x, 4), impl.ErrProof)
	// undone, it only has the created coin to remove before the spent one is there
	expectCoins(t, "UndoTx", impl.UndoTx([]impl.Coin{coinAt(x.Ins[0].Tx, 0, 5)}, x, coins), impl.CoinsResult{Coins: coins})

	y := selfSpender(t, 3)
	coins = []impl.Coin{coinAt(y.Ins[0].Tx, 3, 6)}
	y = signed(coins, y)
	created := impl.Coin{Tx: y.Ins[0].Tx, Out: 0, Value: 5, Lock: []int64{103, 8}, Height: 4}
	expectCoins(t, "an Out that it does not create", impl.ApplyTx(coins, y, 4), impl.CoinsResult{Fee: 1, Spent: coins, Coins: []impl.Coin{created}})
	expectRefused(t, "again", impl.ApplyTx(append([]impl.Coin{created}, coins...), y, 4), impl.ErrTaken)
}

// Just 40 coins after a transaction, and 41.
func TestApplyTxOfSizes(t *testing.T) {
	for _, size := range []int{30, 35, 36, 37, 38, 39, 40} {
		coins := coinsOf(size)
		for ins := range 5 {
			for outs := 1; outs <= 4; outs++ {
				x := sizedTx(0, outs)
				for i := range x.Outs {
					x.Outs[i].Value = 0
				}
				for _, c := range coins[:ins] {
					x.Ins = append(x.Ins, impl.In{Tx: c.Tx, Out: c.Out})
				}
				got := impl.ApplyTx(coins, signed(coins, x), 7)
				if size-ins+outs > 40 {
					expectRefused(t, "too many coins", got, impl.ErrMany)
					continue
				}
				if got.Code != impl.OK || len(got.Coins) != size-ins+outs || len(got.Spent) != ins {
					t.Errorf("%d coins, %d inputs, %d outputs: %v", size, ins, outs, got)
				}
				expectCode(t, "undone", impl.UndoTx(got.Coins, x, got.Spent).Code, impl.OK)
			}
		}
	}
}

// A base may create money only up to the limit.
func TestApplyTxOfMoney(t *testing.T) {
	for _, c := range []struct {
		values []int64
		base   []int64
		code   int64
	}{
		{nil, []int64{impl.MaxMoney}, impl.OK}, {[]int64{0}, []int64{impl.MaxMoney}, impl.OK}, {[]int64{1}, []int64{impl.MaxMoney}, impl.ErrMoney},
		{[]int64{impl.MaxMoney}, []int64{0}, impl.OK}, {[]int64{impl.MaxMoney}, []int64{1}, impl.ErrMoney}, {[]int64{impl.MaxMoney - 50}, []int64{50}, impl.OK},
		{[]int64{impl.MaxMoney - 50}, []int64{51}, impl.ErrMoney}, {[]int64{400000, 500000}, []int64{50000, 50000}, impl.OK}, {[]int64{400000, 500000}, []int64{50000, 50000, 1}, impl.ErrMoney},
	} {
		coins, x := valued(coinsOf(len(c.values)), c.values...), spendTx(nil, c.base...)
		if c.code != impl.OK {
			expectRefused(t, "too much", impl.ApplyTx(coins, x, 3), c.code)
			continue
		}
		expectCoins(t, "not too much", impl.ApplyTx(coins, x, 3), modelApply(coins, x, 3))
	}
	// all of the money may be spent
	all := valued(coinsOf(1), impl.MaxMoney)
	x := signed(all, spendTx([]int64{1}, 500000, 500000))
	expectCoins(t, "all of the money", impl.ApplyTx(all, x, 3), modelApply(all, x, 3))
}

// The last codes of ApplyTx: a coin that exists, then too many coins, then too much money.
func TestApplyTxOrderOfCodes(t *testing.T) {
	x := spendTx(nil, 1)
	sum := impl.TxSum(x).Value
	full := valued(coinsOf(40), impl.MaxMoney)
	expectRefused(t, "too many before too much", impl.ApplyTx(full, x, 3), impl.ErrMany)
	expectRefused(t, "too much", impl.ApplyTx(full[:39], x, 3), impl.ErrMoney)
	taken := insertCoin(full[:39], coinAt(sum, 0, 0))
	expectRefused(t, "taken before too many", impl.ApplyTx(taken, x, 3), impl.ErrTaken)
	expectRefused(t, "taken before too much", impl.ApplyTx(insertCoin(full[:30], coinAt(sum, 0, 0)), x, 3), impl.ErrTaken)
	expectRefused(t, "height before taken", impl.ApplyTx(taken, x, -1), impl.ErrRange)

	coins := coinsOf(39)
	y := signed(coins, spendTx([]int64{1}, 0, 0, 0))
	taken = insertCoin(coins, coinAt(impl.TxSum(y).Value, 2, 0))
	expectRefused(t, "spending: taken before too many", impl.ApplyTx(taken, y, 3), impl.ErrTaken)
	expectRefused(t, "spending: too many", impl.ApplyTx(coins, y, 3), impl.ErrMany)
	y.Ins[0].Proof = nil
	expectRefused(t, "locked before taken", impl.ApplyTx(taken, y, 3), impl.ErrProof)
	more := spendTx([]int64{1}, 1)
	taken = insertCoin(coins, coinAt(impl.TxSum(more).Value, 0, 0))
	expectRefused(t, "outputs that exceed the coins before taken", impl.ApplyTx(taken, signed(taken, more), 3), impl.ErrMoney)
	expectRefused(t, "outputs that exceed the coins before too many", impl.ApplyTx(coinsOf(40), signed(coinsOf(40), spendTx([]int64{1}, 1, 0, 0)), 3), impl.ErrMoney)
}

// Spent coins are in the order of the inputs, the others in their own.
func TestApplyTxOfOrders(t *testing.T) {
	coins := valued(coinsOf(10), 1, 2, 3, 4, 5, 6, 7, 8, 9, 10)
	for _, order := range ordersOf([]int64{0, 3, 4, 9}) {
		x := impl.Tx{Outs: []impl.Out{{Value: 20}, {Value: 0}}}
		var spent []impl.Coin
		for _, at := range order {
			spent = append(spent, coins[at])
			x.Ins = append(x.Ins, impl.In{Tx: coins[at].Tx, Out: coins[at].Out})
		}
		x = signed(coins, x)
		got := impl.ApplyTx(coins, x, 8)
		expectCoins(t, "an order", got, modelApply(coins, x, 8))
		if got.Fee != 0 || !equalCoins(got.Spent, spent) || len(got.Coins) != 8 {
			t.Errorf("inputs %v: got %v", order, got)
		}
		for _, again := range ordersOf([]int64{0, 1, 2, 3}) {
			restored := []impl.Coin{spent[again[0]], spent[again[1]], spent[again[2]], spent[again[3]]}
			expectCoins(t, "undone in an order", impl.UndoTx(got.Coins, x, restored), impl.CoinsResult{Coins: coins})
		}
	}
}

func TestUndoTxOfBases(t *testing.T) {
	x := spendTx(nil, 50, 20)
	coins := coinsOf(5)
	with := impl.ApplyTx(coins, x, 3).Coins
	for _, none := range [][]impl.Coin{nil, {}} {
		expectCoins(t, "a base", impl.UndoTx(with, x, none), impl.CoinsResult{Coins: coins})
	}
	expectCoins(t, "a base alone", impl.UndoTx(impl.ApplyTx(nil, x, 3).Coins, x, nil), impl.CoinsResult{})
	expectRefused(t, "a base has spent nothing", impl.UndoTx(with, x, []impl.Coin{coinAt(500, 0, 0)}), impl.ErrMany)
}

// All of the created coins must be there, and they alone are removed, whatever else they are.
func TestUndoTxOfCreatedCoins(t *testing.T) {
	x := spendTx(nil, 50, 20, 0)
	sum := impl.TxSum(x).Value
	with := impl.ApplyTx(coinsOf(5), x, 3).Coins
	for out := range int64(3) {
		at := modelIndex(with, sum, out)
		expectRefused(t, "a created coin is missing", impl.UndoTx(slices.Delete(slices.Clone(with), at, at+1), x, nil), impl.ErrNone)
		other := cloneCoins(with)
		other[at].Value, other[at].Height, other[at].Base, other[at].Lock = 1, 77, false, nil
		expectCoins(t, "a created coin is another one", impl.UndoTx(other, x, nil), impl.CoinsResult{Coins: coinsOf(5)})
	}
	last := coinAt(sum, 3, 9)
	expectCoins(t, "an Out that it does not create", impl.UndoTx(insertCoin(with, last), x, nil), impl.CoinsResult{Coins: insertCoin(coinsOf(5), last)})
	expectRefused(t, "all are missing", impl.UndoTx(coinsOf(5), x, nil), impl.ErrNone)
	expectRefused(t, "no coins", impl.UndoTx(nil, x, nil), impl.ErrNone)
	once := impl.UndoTx(with, x, nil).Coins
	expectRefused(t, "undone twice", impl.UndoTx(once, x, nil), impl.ErrNone)
}

// One coin too few and too many, and more than 40 coins.
func TestUndoTxOfSizes(t *testing.T) {
	coins := valued(coinsOf(6), 5, 6, 7, 8, 9)
	for ins := range 5 {
		x := spendTx(nil, 4)
		for _, c := range coins[:ins] {
			x.Ins = append(x.Ins, impl.In{Tx: c.Tx, Out: c.Out})
		}
		with := modelApply(coins, signed(coins, x), 3).Coins
		for size := range 7 {
			if size == ins {
				expectCoins(t, "spent", impl.UndoTx(with, x, coins[:size]), impl.CoinsResult{Coins: coins})
				continue
			}
			expectRefused(t, "too few or too many", impl.UndoTx(with, x, coins[:size]), impl.ErrMany)
		}
		expectRefused(t, "far too many", impl.UndoTx(with, x, make([]impl.Coin, 5000)), impl.ErrMany)
	}
	spent := []impl.Coin{coinAt(500, 0, 0), coinAt(500, 1, 0), coinAt(500, 2, 0), coinAt(500, 3, 0)}
	for size := 35; size <= 40; size++ {
		for ins := range 5 {
			for outs := 1; outs <= 4; outs++ {
				x := sizedTx(ins, outs)
				list := coinsOf(size - outs)
				for i := range int64(outs) {
					list = insertCoin(list, coinAt(impl.TxSum(x).Value, i, 0))
				}
				got := impl.UndoTx(list, x, spent[:ins])
				expectCoins(t, "undone", got, modelUndo(list, x, spent[:ins]))
				if many := size-outs+ins > 40; many != (got.Code == impl.ErrMany) {
					t.Errorf("%d coins, %d inputs, %d outputs: got code %d", size, ins, outs, got.Code)
				}
			}
		}
	}
}

// The restored coins have a fault as a list: each of the spent ones, their order among the others, their worth.
func TestUndoTxOfMalformedCoins(t *testing.T) {
	coins := []impl.Coin{coinAt(7, 0, 50), coinAt(8, 0, 900000), coinAt(9, 0, 20)}
	x := signed(coins, spendTx([]int64{9, 7}, 60))
	done := impl.ApplyTx(coins, x, 3)
	for _, c := range []struct {
		what string
		code int64
		make func(spent []impl.Coin)
	}{
		{"nothing", impl.OK, func(spent []impl.Coin) {}},
		{"Tx", impl.ErrRange, func(spent []impl.Coin) { spent[0].Tx = -1 }},
		{"a great Tx", impl.ErrRange, func(spent []impl.Coin) { spent[1].Tx = impl.MaxSum + 1 }},
		{"Out", impl.ErrRange, func(spent []impl.Coin) { spent[1].Out = 4 }},
		{"Value", impl.ErrRange, func(spent []impl.Coin) { spent[0].Value = impl.MaxMoney + 1 }},
		{"Height", impl.ErrRange, func(spent []impl.Coin) { spent[0].Height = 10000 }},
		{"Lock", impl.ErrForm, func(spent []impl.Coin) { spent[0].Lock = []int64{0} }},
		{"Lock of 13", impl.ErrMany, func(spent []impl.Coin) { spent[1].Lock = repeatInt(1, 13) }},
		{"a coin that exists", impl.ErrForm, func(spent []impl.Coin) { spent[0].Tx = 8 }},
		{"an equal coin that exists", impl.ErrForm, func(spent []impl.Coin) { spent[0] = coins[1] }},
		{"the same coin twice", impl.ErrForm, func(spent []impl.Coin) { spent[1] = spent[0] }},
		{"worth just an amount", impl.OK, func(spent []impl.Coin) { spent[0].Value = 99950 }},
		{"worth one more", impl.ErrMoney, func(spent []impl.Coin) { spent[0].Value = 99951 }},
		{"coins of other inputs", impl.OK, func(spent []impl.Coin) { spent[0].Tx, spent[1].Out = 500, 3 }},
		{"the place of the created coin", impl.OK, func(spent []impl.Coin) { spent[0].Tx = impl.TxSum(x).Value }},
		// the coins are looked at in their own order, not in that of the inputs
		{"Lock of 9, Value of 7", impl.ErrRange, func(spent []impl.Coin) { spent[0].Lock, spent[1].Value = []int64{0}, -1 }},
		{"Value of 9, Lock of 7", impl.ErrForm, func(spent []impl.Coin) { spent[0].Value, spent[1].Lock = -1, []int64{0} }},
	} {
		spent := cloneCoins(done.Spent)
		c.make(spent)
		got := impl.UndoTx(done.Coins, x, spent)
		expectCode(t, c.what, got.Code, c.code)
		expectCoins(t, c.what, got, modelUndo(done.Coins, x, spent))
	}
}

// The codes of UndoTx: the coins, the transaction, the created coins, the number of spent ones, the result.
func TestUndoTxOrderOfCodes(t *testing.T) {
	x := spendTx([]int64{500}, 0)
	sum := impl.TxSum(x).Value
	with := insertCoin(coinsOf(39), coinAt(sum, 0, 0))
	malformed := []impl.Coin{{Tx: -1}}
	expectRefused(t, "Note before missing", impl.UndoTx(coinsOf(39), impl.Tx{Note: -1, Outs: []impl.Out{{}}}, nil), impl.ErrRange)
	expectRefused(t, "Values before missing", impl.UndoTx(coinsOf(39), spendTx(nil, impl.MaxMoney, 1), nil), impl.ErrMoney)
	expectRefused(t, "missing before too few", impl.UndoTx(coinsOf(39), x, nil), impl.ErrNone)
	expectRefused(t, "missing before too many", impl.UndoTx(coinsOf(40), x, coinsOf(2)), impl.ErrNone)
	expectRefused(t, "missing before malformed", impl.UndoTx(coinsOf(39), x, malformed), impl.ErrNone)
	expectRefused(t, "too many before malformed", impl.UndoTx(with, x, slices.Repeat(malformed, 2)), impl.ErrMany)
	expectRefused(t, "malformed", impl.UndoTx(with, x, malformed), impl.ErrRange)
	y := spendTx([]int64{500, 501}, 0)
	full := insertCoin(coinsOf(39), coinAt(impl.TxSum(y).Value, 0, 0))
	expectRefused(t, "more than 40 before malformed", impl.UndoTx(full, y, slices.Repeat(malformed, 2)), impl.ErrMany)
	expectRefused(t, "no more than 40", impl.UndoTx(insertCoin(coinsOf(38), coinAt(impl.TxSum(y).Value, 0, 0)), y, slices.Repeat(malformed, 2)), impl.ErrRange)
}

// Promise 6: undoing a transaction restores the coins, one transaction after the other.
func TestPromise6UndoRestores(t *testing.T) {
	codes := map[int64]int{}
	for _, step := range randomSteps(60, 60) {
		got := impl.ApplyTx(step.coins, step.x, step.height)
		expectCoins(t, "ApplyTx", got, step.want)
		codes[got.Code]++
		if got.Code != impl.OK {
			continue
		}
		undone := impl.UndoTx(got.Coins, step.x, got.Spent)
		expectCoins(t, "UndoTx", undone, impl.CoinsResult{Coins: step.coins})
		if !impl.SameCoins(undone.Coins, step.coins) || impl.SameCoins(got.Coins, step.coins) {
			t.Errorf("SameCoins of %v and %v", undone.Coins, step.coins)
		}
		expectCode(t, "the coins after it", impl.CoinsFault(got.Coins), impl.OK)
	}
	for _, code := range []int64{impl.OK, impl.ErrNone, impl.ErrState, impl.ErrProof, impl.ErrMoney, impl.ErrTaken, impl.ErrMany} {
		if codes[code] < 10 {
			t.Errorf("code %d came up %d times only", code, codes[code])
		}
	}
}

// Promise 6: whole chains are taken back, from their ends to no coins at all.
func TestPromise6UndoChains(t *testing.T) {
	source := rand.New(rand.NewPCG(7, 5))
	for range 20 {
		var coins []impl.Coin
		var done []coinStep
		for _, step := range randomChain(source, 60) {
			got := impl.ApplyTx(coins, step.x, step.height)
			if got.Code == impl.OK {
				done = append(done, coinStep{coins, step.x, step.height, got})
				coins = got.Coins
			}
		}
		for _, step := range slices.Backward(done) {
			undone := impl.UndoTx(coins, step.x, step.want.Spent)
			expectCoins(t, "a step of a chain", undone, impl.CoinsResult{Coins: step.coins})
			coins = undone.Coins
		}
		if len(coins) != 0 || len(done) < 10 {
			t.Errorf("%v are left after %d transactions", coins, len(done))
		}
	}
}

// Promise 6: only a base creates money; another transaction leaves its fee.
func TestPromise6Money(t *testing.T) {
	bases, others := 0, 0
	for _, step := range randomSteps(40, 60) {
		got := impl.ApplyTx(step.coins, step.x, step.height)
		if got.Code != impl.OK {
			continue
		}
		before, after := impl.WorthOf(step.coins).Value, impl.WorthOf(got.Coins).Value
		if len(step.x.Ins) > 0 {
			others++
			if got.Fee < 0 || after != before-got.Fee {
				t.Errorf("a fee of %d makes %d of %d", got.Fee, after, before)
			}
			continue
		}
		bases++
		for _, out := range step.x.Outs {
			before += out.Value
		}
		if got.Fee != 0 || after != before || len(got.Spent) != 0 {
			t.Errorf("a base with a fee of %d makes %d, want %d", got.Fee, after, before)
		}
	}
	if bases < 100 || others < 100 {
		t.Errorf("%d bases and %d others are too few", bases, others)
	}
}

// Promise 6: a spent coin is gone and is not spent again, by the same transaction or by another one.
func TestPromise6SpentOnce(t *testing.T) {
	spent := 0
	for _, step := range randomSteps(40, 60) {
		got := impl.ApplyTx(step.coins, step.x, step.height)
		if got.Code != impl.OK || len(step.x.Ins) == 0 {
			continue
		}
		spent++
		expectCode(t, "again", impl.SpendFault(got.Coins, step.x, step.height), impl.ErrNone)
		expectRefused(t, "again", impl.ApplyTx(got.Coins, step.x, step.height), impl.ErrNone)
		for _, in := range step.x.Ins {
			expectCoin(t, "a spent coin", impl.FindCoin(got.Coins, in.Tx, in.Out), impl.ErrNone, impl.Coin{})
			y := signed(step.coins, impl.Tx{Ins: []impl.In{in}, Outs: []impl.Out{{}}})
			expectCode(t, "by another transaction", impl.SpendFault(got.Coins, y, 9999), impl.ErrNone)
		}
		for i := range step.x.Outs {
			sum := impl.TxSum(step.x).Value
			expectCode(t, "a created coin", impl.FindCoin(got.Coins, sum, int64(i)).Code, impl.OK)
		}
	}
	if spent < 100 {
		t.Errorf("%d transactions are too few", spent)
	}
}

// wildCoins lists coins at and beyond every bound, and transactions for them.
func wildCoins() ([][]impl.Coin, []impl.Tx) {
	lists := [][]impl.Coin{nil, {}, threeCoins(), coinsOf(40), coinsOf(41), make([]impl.Coin, 1), make([]impl.Coin, 3), make([]impl.Coin, 5000)}
	txs := []impl.Tx{{}, {Ins: make([]impl.In, 300), Outs: make([]impl.Out, 300)}, plainTx(), greatestTx(), sizedTx(4, 4), spendTx([]int64{9, 7}, 60), inTx(7, 1), outTx(5)}
	for _, n := range extremes() {
		lists = append(lists, []impl.Coin{{Tx: n, Out: n, Value: n, Lock: []int64{n}, Height: n}}, []impl.Coin{{}, {Tx: n}}, []impl.Coin{{Value: n}, {Tx: 1, Value: n}}, []impl.Coin{{Lock: repeatInt(n, 100)}})
		txs = append(txs, inTx(n, 0), inTx(0, n), inTx(7, 1, n), outTx(n), outTx(0, n), impl.Tx{Note: n, Ins: []impl.In{{Tx: n}}, Outs: []impl.Out{{Value: n}}})
	}
	return lists, txs
}

// Promise 1: all functions return for all arguments, the same each time, and change none.
func TestPromise1AllOfChapter5(t *testing.T) {
	lists, txs := wildCoins()
	for i, list := range lists {
		before := cloneCoins(list)
		expectCoinsFault(t, "again", list, impl.CoinsFault(list))
		expectCode(t, "the model", impl.CoinsFault(list), modelFault(list))
		for _, n := range extremes() {
			first, again := impl.FindCoin(list, n, n), impl.FindCoin(list, n, n)
			expectCoin(t, "FindCoin again", again, first.Code, first.Coin)
		}
		for j, x := range txs {
			earlier, height := cloneTx(x), extremes()[(i+j)%len(extremes())]
			expectCode(t, "SpendFault again", impl.SpendFault(list, x, height), impl.SpendFault(list, x, height))
			expectCoins(t, "ApplyTx", impl.ApplyTx(list, x, height), modelApply(list, x, height))
			expectCoins(t, "ApplyTx again", impl.ApplyTx(list, x, height), impl.ApplyTx(list, x, height))
			spent := lists[(i+j)%len(lists)]
			expectCoins(t, "UndoTx", impl.UndoTx(list, x, spent), modelUndo(list, x, spent))
			if !equalTxs(x, earlier) {
				t.Fatalf("%v was changed to %v", earlier, x)
			}
		}
		if !reflect.DeepEqual(list, before) {
			t.Fatalf("%v was changed to %v", before, list)
		}
	}
}

// Promise 1: which of several faults is found does not depend on an order that is not that of the arguments.
func TestPromise1SameFaultOfChapter5(t *testing.T) {
	x := spendTx([]int64{7, 9}, 0)
	list := insertCoin(coinsOf(30), coinAt(impl.TxSum(x).Value, 0, 0))
	long, malformed := coinAt(11, 0, 0), coinAt(11, 0, 0)
	long.Lock, malformed.Lock = repeatInt(1, 13), []int64{0}
	for range 50 {
		expectRefused(t, "a long lock first", impl.UndoTx(list, x, []impl.Coin{long, malformed}), impl.ErrMany)
		expectRefused(t, "a malformed lock first", impl.UndoTx(list, x, []impl.Coin{malformed, long}), impl.ErrForm)
	}
}

// Promise 1: nothing is written behind the end of an argument, and nothing is read there.
func TestPromise1EndsOfChapter5(t *testing.T) {
	lock := append(program(pushed(3), impl.OpSign), 0, 0, 0)
	coins := valued(coinsOf(12), 5, 6, 7)
	for i := range coins {
		coins[i].Lock = lock[:2]
	}
	x := impl.Tx{Ins: []impl.In{{Tx: 11}, {Tx: 1}, {Tx: -1}}, Outs: []impl.Out{{Value: 4, Lock: lock[:2]}, {Value: 1, Lock: lock[:2]}, {Value: -1}}}
	part := impl.Tx{Ins: x.Ins[:2], Outs: x.Outs[:2]}
	for i, in := range signed(coins, part).Ins {
		part.Ins[i].Proof = append(in.Proof, 5, 5)[:1]
	}
	before, whole := cloneCoins(coins), cloneTx(x)
	for size := 5; size < 12; size++ {
		want := modelApply(before[:size], cloneTx(part), 6)
		expectCode(t, "a part", impl.SpendFault(coins[:size], part, 6), impl.OK)
		expectCoins(t, "a part", impl.ApplyTx(coins[:size], part, 6), want)
		expectCoins(t, "a part undone", impl.UndoTx(want.Coins, part, append(want.Spent, coins...)[:2]), impl.CoinsResult{Coins: before[:size]})
		expectCoin(t, "behind the end", impl.FindCoin(coins[:size], coins[size].Tx, coins[size].Out), impl.ErrNone, impl.Coin{})
		expectInt(t, "a part", impl.WorthOf(coins[:size]), impl.OK, 18)
	}
	if !equalCoins(coins, before) || !equalTxs(x, whole) || !slices.Equal(lock, []int64{103, 8, 0, 0, 0}) {
		t.Errorf("%v was changed to %v, or %v to %v, or the lock to %v", before, coins, whole, x, lock)
	}
}

// expectOwnMemory fills each list to its full capacity; where two share memory, the first one loses its number.
func expectOwnMemory(t *testing.T, what string, lists ...[]int64) {
	t.Helper()
	for i, list := range lists {
		whole := list[:cap(list)]
		for j := range whole {
			whole[j] = int64(i)
		}
	}
	for i, list := range lists {
		for _, n := range list[:cap(list)] {
			if n != int64(i) {
				t.Fatalf("%s: list %d shares memory with list %d", what, i, n)
			}
		}
	}
}

func locksOf(lists ...[]impl.Coin) [][]int64 {
	var locks [][]int64
	for _, list := range lists {
		for _, c := range list {
			locks = append(locks, c.Lock)
		}
	}
	return locks
}

// Promise 1: results are new memory, the locks too, even where the arguments share theirs.
func TestPromise1NewMemoryOfChapter5(t *testing.T) {
	shared := program(pushed(3), impl.OpSign)
	build := func() ([]impl.Coin, impl.Tx) {
		coins := valued(coinsOf(12), 5, 6, 7)
		for i := range coins {
			coins[i].Lock = shared
		}
		x := impl.Tx{Ins: []impl.In{{Tx: 11}, {Tx: 1}, {Tx: 1, Out: 1}}, Outs: []impl.Out{{Value: 4, Lock: shared}, {Value: 3, Lock: shared}}}
		return coins, signed(coins, x)
	}
	coins, x := build()
	want := modelApply(coins, x, 6)
	base := impl.Tx{Outs: x.Outs}

	got := impl.ApplyTx(coins, x, 6)
	expectOwnMemory(t, "ApplyTx", append(locksOf(got.Spent, got.Coins), shared)...)
	shared[0], shared[1] = pushed(3), impl.OpSign
	again := impl.ApplyTx(coins, x, 6)
	expectCoins(t, "ApplyTx after a result was changed", again, want)
	expectOwnMemory(t, "two results", append(locksOf(got.Coins, again.Spent, again.Coins, got.Spent), shared)...)
	shared[0], shared[1] = pushed(3), impl.OpSign

	based := impl.ApplyTx(coins, base, 6)
	expectOwnMemory(t, "ApplyTx of a base", append(locksOf(based.Coins), shared)...)
	shared[0], shared[1] = pushed(3), impl.OpSign

	undone := impl.UndoTx(want.Coins, x, want.Spent)
	expectOwnMemory(t, "UndoTx", append(locksOf(undone.Coins), shared)...)
	shared[0], shared[1] = pushed(3), impl.OpSign

	found, other := impl.FindCoin(coins, 1, 2), impl.FindCoin(coins, 1, 2)
	expectOwnMemory(t, "FindCoin", found.Coin.Lock, other.Coin.Lock, shared)
}

// Promise 1: the lists of coins are new memory as well.
func TestPromise1NewListsOfChapter5(t *testing.T) {
	coins := valued(coinsOf(12), 5, 6, 7)
	x := signed(coins, spendTx([]int64{11, 1}, 4, 1))
	want := modelApply(cloneCoins(coins), cloneTx(x), 6)
	got, other := impl.ApplyTx(coins, x, 6), impl.ApplyTx(coins, x, 6)
	clear(got.Spent[:cap(got.Spent)])
	expectCoins(t, "another result", other, want)
	if !equalCoins(got.Coins, want.Coins) {
		t.Error("the coins change with the spent ones")
	}
	clear(got.Coins[:cap(got.Coins)])
	expectCoins(t, "another result", other, want)
	undone := impl.UndoTx(other.Coins, x, other.Spent)
	clear(undone.Coins[:cap(undone.Coins)])
	expectCoins(t, "after the undone coins were changed", other, want)
	if !equalCoins(coins, valued(coinsOf(12), 5, 6, 7)) {
		t.Errorf("the arguments were changed to %v", coins)
	}
	// coins that stay as they are come back in new memory too
	same := impl.UndoTx(impl.ApplyTx(nil, spendTx(nil, 5), 1).Coins, spendTx(nil, 5), nil)
	expectCoins(t, "no coins are left", same, impl.CoinsResult{})
	clear(coins)
	clear(x.Ins)
	clear(x.Outs)
	expectCoins(t, "after the arguments were changed", other, want)
}
