package tests

import (
	"math"
	"math/rand/v2"
	"reflect"
	"slices"
	"testing"

	"loop.example/g00539/impl"
)

// modelPool is what follows the tip of a tree without a fault: the coins after some pending transactions, and their fees.
type modelPool struct {
	code   int64
	prev   int64
	height int64
	coins  []impl.Coin
	fees   []int64
}

func (p modelPool) total() int64 {
	total := int64(0)
	for _, fee := range p.fees {
		total += fee
	}
	return total
}

func modelTip(tree impl.Tree) int64 {
	tip, greatest := int64(-1), int64(0)
	for node := range int64(len(tree.Nodes)) {
		if height := modelAt(tree, node).height; height > greatest {
			tip, greatest = node, height
		}
	}
	return tip
}

func sameSum(list []impl.Tx, x impl.Tx) bool {
	return slices.ContainsFunc(list, func(other impl.Tx) bool { return impl.TxSum(other).Value == impl.TxSum(x).Value })
}

// modelWait judges a list after a tree that has no fault.
func modelWait(tree impl.Tree, list []impl.Tx) modelPool {
	if len(list) > 5 {
		return modelPool{code: impl.ErrMany}
	}
	tip := modelAt(tree, modelTip(tree))
	p := modelPool{prev: tip.sum, height: tip.height + 1, coins: tip.coins}
	for i, x := range list {
		if len(x.Ins) == 0 && impl.TxFault(x) == impl.OK {
			return modelPool{code: impl.ErrForm}
		}
		after := modelApply(p.coins, x, p.height)
		if after.Code != impl.OK {
			return modelPool{code: after.Code}
		}
		if sameSum(list[:i], x) {
			return modelPool{code: impl.ErrTaken}
		}
		p.coins, p.fees = after.Coins, append(p.fees, after.Fee)
	}
	return p
}

func modelAdmit(tree impl.Tree, list []impl.Tx, x impl.Tx) impl.WaitResult {
	p := modelWait(tree, list)
	after := modelApply(p.coins, x, p.height)
	code := after.Code
	switch {
	case p.code != impl.OK:
		code = p.code
	case impl.TxFault(x) != impl.OK:
		code = impl.TxFault(x)
	case len(x.Ins) == 0:
		code = impl.ErrForm
	case sameSum(list, x):
		code = impl.ErrTaken
	case code == impl.OK && len(list) == 5:
		code = impl.ErrFull
	}
	if code != impl.OK {
		return impl.WaitResult{Code: code}
	}
	return impl.WaitResult{Fees: p.total() + after.Fee, Txs: append(slices.Clip(list), x)}
}

func modelRefresh(tree impl.Tree, list []impl.Tx) impl.WaitResult {
	if len(list) > 5 {
		return impl.WaitResult{Code: impl.ErrMany}
	}
	var result impl.WaitResult
	for _, x := range list {
		if after := modelAdmit(tree, result.Txs, x); after.Code == impl.OK {
			result = after
		}
	}
	return result
}

// modelTemplate is for a list and numbers that have no fault.
func modelTemplate(tree impl.Tree, list []impl.Tx, key int64, extra int64, time int64) impl.Block {
	list = list[:min(len(list), 3)]
	p := modelWait(tree, list)
	base := impl.Tx{Note: p.height, Outs: []impl.Out{
		{Value: 50 + p.total(), Lock: program(pushed(key), impl.OpSign)},
		{Value: 0, Lock: program(pushed(extra))},
	}}
	return impl.Block{Prev: p.prev, Time: time, Bits: tree.Bits, Txs: append([]impl.Tx{base}, list...)}
}

func modelMine(b impl.Block, tries int64) impl.BlockResult {
	if code := modelBlockFault(b); code != impl.OK {
		return impl.BlockResult{Code: code}
	}
	if tries < 1 || tries > 200 {
		return impl.BlockResult{Code: impl.ErrRange}
	}
	for range tries {
		if b.Nonce < 65536 && isProven(b) {
			return impl.BlockResult{Block: b}
		}
		b.Nonce++
	}
	return impl.BlockResult{Code: impl.ErrProof}
}

func equalLists(a []impl.Tx, b []impl.Tx) bool {
	return slices.EqualFunc(a, b, equalTxs)
}

func cloneTxs(list []impl.Tx) []impl.Tx {
	list = slices.Clone(list)
	for i, x := range list {
		list[i] = cloneTx(x)
	}
	return list
}

func expectWait(t *testing.T, call string, got impl.WaitResult, want impl.WaitResult) {
	t.Helper()
	if got.Code != want.Code || got.Fees != want.Fees || !equalLists(got.Txs, want.Txs) {
		t.Errorf("%s: got %v, want %v", call, got, want)
	}
}

// expectTemplate also requires the zero block beside a code.
func expectTemplate(t *testing.T, call string, got impl.BlockResult, want impl.BlockResult) {
	t.Helper()
	if got.Code != want.Code || !equalBlocks(got.Block, want.Block) {
		t.Errorf("%s: got %v, want %v", call, got, want)
	}
}

// expectNoPool requires a code alone of all functions that return WaitFault, whatever their other arguments are.
func expectNoPool(t *testing.T, what string, tree impl.Tree, list []impl.Tx, code int64) {
	t.Helper()
	expectCode(t, what+": WaitFault", impl.WaitFault(tree, list), code)
	expectInt(t, what+": FeesOf", impl.FeesOf(tree, list), code, 0)
	for _, x := range append([]impl.Tx{{}, {Note: -1}, outTx(1), outTx(-1), inTx(7, 0)}, list[:min(len(list), 2)]...) {
		expectWait(t, what+": AdmitTx", impl.AdmitTx(tree, list, x), impl.WaitResult{Code: code})
	}
	for _, n := range []int64{-1, 0, 1, 899, 1000, 100000} {
		expectTemplate(t, what+": TemplateOf", impl.TemplateOf(tree, list, n, n, n), impl.BlockResult{Code: code})
		expectTemplate(t, what+": TemplateOf", impl.TemplateOf(tree, list, 7, 5, n), impl.BlockResult{Code: code})
	}
}

// expectPool requires the code of a list after a tree that has no fault, of all functions that return it, and their results if it is OK.
func expectPool(t *testing.T, what string, tree impl.Tree, list []impl.Tx, code int64) {
	t.Helper()
	p := modelWait(tree, list)
	expectCode(t, what+": the model", p.code, code)
	expectWait(t, what+": RefreshWait", impl.RefreshWait(tree, list), modelRefresh(tree, list))
	if code != impl.OK {
		expectNoPool(t, what, tree, list, code)
		return
	}
	expectCode(t, what+": WaitFault", impl.WaitFault(tree, list), impl.OK)
	expectInt(t, what+": FeesOf", impl.FeesOf(tree, list), impl.OK, p.total())
	expectWait(t, what+": RefreshWait", impl.RefreshWait(tree, list), impl.WaitResult{Fees: p.total(), Txs: list})
	expectTemplate(t, what+": TemplateOf", impl.TemplateOf(tree, list, 7, 5, 600), impl.BlockResult{Block: modelTemplate(tree, list, 7, 5, 600)})
	for _, x := range list {
		expectWait(t, what+": AdmitTx again", impl.AdmitTx(tree, list, x), impl.WaitResult{Code: impl.ErrTaken})
	}
}

// expectAdmit requires the code of a transaction after a list that has no fault, and that it is the last one if it is OK.
func expectAdmit(t *testing.T, what string, tree impl.Tree, list []impl.Tx, x impl.Tx, code int64) {
	t.Helper()
	want := modelAdmit(tree, list, x)
	expectCode(t, what+": the model", want.Code, code)
	expectWait(t, what+": AdmitTx", impl.AdmitTx(tree, list, x), want)
	if code == impl.OK {
		expectPool(t, what+": the list after it", tree, want.Txs, impl.OK)
	}
}

// expectKept requires that RefreshWait keeps those of the list that have the given places.
func expectKept(t *testing.T, what string, tree impl.Tree, list []impl.Tx, places ...int) {
	t.Helper()
	var kept []impl.Tx
	for _, at := range places {
		kept = append(kept, list[at])
	}
	expectWait(t, what+": RefreshWait", impl.RefreshWait(tree, list), impl.WaitResult{Fees: modelWait(tree, kept).total(), Txs: kept})
	expectPool(t, what+": what is kept", tree, kept, impl.OK)
}

// poolTree is a line of 4 nodes, each with four coins; those of the first three are ripe after the tip.
func poolTree() impl.Tree {
	tree := impl.Tree{Bits: easyBits}
	for i := range int64(4) {
		tree = grow(tree, i-1, baseTx(i+1, 13, 13, 12, 12))
	}
	return tree
}

// waitingTxs are at most 6 transactions that can be pending after poolTree.
// No three of their fees are together what the first three are.
func waitingTxs(tree impl.Tree, count int) []impl.Tx {
	var list []impl.Tx
	for i, value := range []int64{13 - 1, 13 - 2, 12 - 4, 12 - 8, 13 - 11, 13 - 12}[:count] {
		list = append(list, payTx(tree, 3, coinOf(tree, int64(i/4), int64(i%4)), value))
	}
	return list
}

// withTxSum is a copy that has the sum, by seven pushes as the last lock; it opens without a proof.
func withTxSum(t *testing.T, x impl.Tx, sum int64) impl.Tx {
	t.Helper()
	x = cloneTx(x)
	lock := repeatInt(pushed(50), 7)
	x.Outs[len(x.Outs)-1].Lock = lock
	missing := sum - impl.TxSum(x).Value
	for at := range slices.Backward(lock) {
		// one more in a byte counts 33 times as much as in the next one
		digit := (missing%33+33+16)%33 - 16
		lock[at] += digit
		missing = (missing - digit) / 33
	}
	if impl.TxSum(x).Value != sum {
		t.Fatalf("%v does not have the sum %d", x, sum)
	}
	return x
}

// afterList are the coins of the tip of poolTree after a list.
func afterList(tree impl.Tree, list ...impl.Tx) []impl.Coin {
	return modelWait(tree, list).coins
}

// childOf spends the first output of a transaction that is pending after poolTree.
func childOf(tree impl.Tree, x impl.Tx, value int64) impl.Tx {
	child := impl.Tx{Ins: []impl.In{{Tx: impl.TxSum(x).Value}}, Outs: []impl.Out{{Value: value, Lock: program(pushed(3), impl.OpSign)}}}
	return signed(afterList(tree, x), child)
}

func TestConstantsOfChapter7(t *testing.T) {
	if impl.MaxWaiting != 5 {
		t.Errorf("got %v", impl.MaxWaiting)
	}
}

// Just 5 pending transactions, and 6.
func TestWaitFaultOfSizes(t *testing.T) {
	tree := poolTree()
	for size := range 6 {
		expectPool(t, "some transactions", tree, waitingTxs(tree, size), impl.OK)
	}
	for _, none := range [][]impl.Tx{nil, {}} {
		expectPool(t, "no transactions", tree, none, impl.OK)
	}
	expectPool(t, "6 transactions", tree, waitingTxs(tree, 6), impl.ErrMany)
	for _, size := range []int{6, 7, 200, 5000} {
		expectPool(t, "malformed transactions", tree, make([]impl.Tx, size), impl.ErrMany)
		expectPool(t, "bases", tree, slices.Repeat([]impl.Tx{outTx(1)}, size), impl.ErrMany)
	}
	expectPool(t, "5 malformed transactions", tree, slices.Repeat([]impl.Tx{{Note: -1}}, 5), impl.ErrRange)
	expectPool(t, "a malformed one after 4", tree, append(waitingTxs(tree, 4), impl.Tx{Note: -1}), impl.ErrRange)
}

// A tree without nodes has no coins, so nothing can be pending after it.
func TestPoolOfEmptyTrees(t *testing.T) {
	for _, bits := range []int64{easyBits, 589, 255, 1} {
		for _, nodes := range [][]impl.Node{nil, {}} {
			tree := impl.Tree{Bits: bits, Nodes: nodes}
			expectPool(t, "nothing pending", tree, nil, impl.OK)
			expectAdmit(t, "a missing coin", tree, nil, inTx(7, 0), impl.ErrNone)
			expectAdmit(t, "a base", tree, nil, baseTx(1, 50), impl.ErrForm)
			expectPool(t, "a missing coin", tree, []impl.Tx{inTx(7, 0)}, impl.ErrNone)
			expectPool(t, "a base", tree, []impl.Tx{baseTx(1, 50)}, impl.ErrForm)
			expectKept(t, "a missing coin and a base", tree, []impl.Tx{inTx(7, 0), baseTx(1, 50)})
			got := impl.TemplateOf(tree, nil, 7, 5, 600)
			base := impl.Tx{Note: 1, Outs: []impl.Out{{Value: 50, Lock: []int64{107, 8}}, {Value: 0, Lock: []int64{105}}}}
			expectTemplate(t, "TemplateOf", got, impl.BlockResult{Block: impl.Block{Time: 600, Bits: bits, Txs: []impl.Tx{base}}})
		}
	}
}

// The fault of the tree comes first, whatever the list is.
func TestPoolOfInvalidTrees(t *testing.T) {
	tree := poolTree()
	for _, c := range []struct {
		what string
		code int64
		tree impl.Tree
	}{
		{"Bits", impl.ErrRange, impl.Tree{Bits: 256, Nodes: tree.Nodes}},
		{"9 nodes", impl.ErrMany, impl.Tree{Bits: easyBits, Nodes: make([]impl.Node, 9)}},
		{"a Nonce", impl.ErrRange, changedNode(tree, 1, func(n *impl.Node) { n.Block.Nonce = 65536 })},
		{"Up", impl.ErrNone, changedNode(tree, 2, func(n *impl.Node) { n.Up = 0 })},
		{"Up of the tip", impl.ErrNone, changedNode(tree, 3, func(n *impl.Node) { n.Up = 3 })},
		{"a Time", impl.ErrState, changedNode(tree, 3, func(n *impl.Node) { n.Block.Time = tree.Nodes[2].Block.Time })},
		{"a proof", impl.ErrProof, changedNode(tree, 3, func(n *impl.Node) { n.Block = tried(n.Block, false) })},
		{"a taken sum", impl.ErrTaken, withNode(tree, 2, tree.Nodes[3].Block)},
	} {
		expectCode(t, c.what+": the model", modelTreeFault(c.tree), c.code)
		for _, list := range [][]impl.Tx{nil, waitingTxs(tree, 1), waitingTxs(tree, 6), {outTx(1)}, {{}}, {{Note: -1}}, make([]impl.Tx, 9)} {
			expectNoPool(t, c.what, c.tree, list, c.code)
			expectWait(t, c.what+": RefreshWait", impl.RefreshWait(c.tree, list), impl.WaitResult{Code: c.code})
		}
	}
}

// A poolFault is a transaction that cannot be pending after poolTree, alone or after others.
type poolFault struct {
	what string
	code int64
	tx   impl.Tx
}

func poolFaults(tree impl.Tree) []poolFault {
	pay := func(node int64, out int64, values ...int64) impl.Tx {
		return payTx(tree, 3, coinOf(tree, node, out), values...)
	}
	locked, cut, wide := pay(2, 0, 13), pay(2, 0, 13), pay(2, 0, 1, 1, 1, 1)
	locked.Ins[0].Proof = nil
	cut.Outs = nil
	wide.Outs = append(wide.Outs, impl.Out{})
	twice := pay(2, 0, 13)
	twice.Ins = append(twice.Ins, twice.Ins[0])
	return []poolFault{
		{"a base", impl.ErrForm, baseTx(5, 50)},
		{"a base of nothing", impl.ErrForm, outTx(0)},
		{"a base of the tree", impl.ErrForm, tree.Nodes[0].Block.Txs[0]},
		{"a malformed base", impl.ErrRange, impl.Tx{Note: 65536, Outs: []impl.Out{{}}}},
		{"a base without outputs", impl.ErrMany, impl.Tx{}},
		{"a base of too much", impl.ErrMoney, baseTx(5, impl.MaxMoney, 1)},
		{"a base with a malformed lock", impl.ErrForm, outTx(1, 0)},
		{"a Note", impl.ErrRange, impl.Tx{Note: -1, Ins: twice.Ins[:1], Outs: twice.Outs}},
		{"no outputs", impl.ErrMany, cut},
		{"5 outputs", impl.ErrMany, wide},
		{"the same input twice", impl.ErrTaken, twice},
		{"a missing coin", impl.ErrNone, inTx(7, 0)},
		{"an unripe coin", impl.ErrState, pay(3, 0, 13)},
		{"a locked coin", impl.ErrProof, locked},
		{"one more than the coin", impl.ErrMoney, pay(2, 0, 14)},
		{"Values of too much", impl.ErrMoney, pay(2, 0, impl.MaxMoney, 1)},
	}
}

// Each transaction that cannot be pending is refused with its code, wherever it is; an earlier one is refused first.
func TestWaitFaultOneByOne(t *testing.T) {
	tree := poolTree()
	good, faults := waitingTxs(tree, 5), poolFaults(tree)
	for at := range 5 {
		for i, first := range faults {
			list := slices.Clone(good)
			list[at] = first.tx
			expectPool(t, first.what, tree, list, first.code)
			expectPool(t, first.what+" at the end", tree, list[:at+1], first.code)
			if at == 4 {
				continue
			}
			for j, later := range faults {
				list[4-(i+j)%(4-at)] = later.tx
				expectCode(t, first.what+", later "+later.what, impl.WaitFault(tree, list), first.code)
			}
		}
	}
}

// The code of a transaction that is not admitted does not depend on those that are pending, also if they are just 5.
func TestAdmitTxOfFaults(t *testing.T) {
	tree := poolTree()
	for size := range 6 {
		list := waitingTxs(tree, size)
		for _, c := range poolFaults(tree) {
			expectAdmit(t, c.what, tree, list, c.tx, c.code)
		}
		if size < 5 {
			expectAdmit(t, "no fault", tree, list, waitingTxs(tree, 6)[5], impl.OK)
		}
	}
	expectAdmit(t, "a full list", tree, waitingTxs(tree, 5), waitingTxs(tree, 6)[5], impl.ErrFull)
}

// Each pending transaction is refused again as one that is taken, in a full list too and with other proofs.
func TestAdmitTxOfPending(t *testing.T) {
	tree := poolTree()
	for size := range 6 {
		list := waitingTxs(tree, size)
		for _, x := range list {
			expectAdmit(t, "again", tree, list, x, impl.ErrTaken)
			other := cloneTx(x)
			other.Ins[0].Proof = append([]int64{9}, other.Ins[0].Proof...)
			expectAdmit(t, "again with a longer proof", tree, list, other, impl.ErrTaken)
			other.Ins[0].Proof = nil
			expectAdmit(t, "again without a proof", tree, list, other, impl.ErrTaken)
			other.Ins[0].Proof = repeatInt(1, 9)
			expectAdmit(t, "again with a malformed proof", tree, list, other, impl.ErrMany)
			other = cloneTx(x)
			other.Note++
			expectAdmit(t, "another one for the same coin", tree, list, other, impl.ErrNone)
			if size < 5 {
				expectPool(t, "twice", tree, append(slices.Clip(list), x), impl.ErrNone)
			}
		}
	}
}

// Two transactions for the same coin: the later one finds it spent.
func TestConflicts(t *testing.T) {
	tree := poolTree()
	x, y, z := payTx(tree, 3, coinOf(tree, 0, 0), 13), payTx(tree, 3, coinOf(tree, 0, 0), 12), payTx(tree, 3, coinOf(tree, 0, 1), 10)
	expectAdmit(t, "the first one", tree, nil, x, impl.OK)
	expectAdmit(t, "the second one alone", tree, nil, y, impl.OK)
	expectAdmit(t, "the second one", tree, []impl.Tx{x}, y, impl.ErrNone)
	expectAdmit(t, "the first one after the second", tree, []impl.Tx{z, y}, x, impl.ErrNone)
	expectPool(t, "both", tree, []impl.Tx{x, y}, impl.ErrNone)
	expectPool(t, "both and another", tree, []impl.Tx{y, z, x}, impl.ErrNone)
	expectKept(t, "both", tree, []impl.Tx{x, y, z}, 0, 2)
	expectKept(t, "both in another order", tree, []impl.Tx{z, y, x}, 0, 1)
}

// A transaction spends what an earlier pending one creates, but not what a later one does.
func TestChains(t *testing.T) {
	tree := poolTree()
	x := payTx(tree, 3, coinOf(tree, 0, 0), 10)
	y := childOf(tree, x, 8)
	z := signed(afterList(tree, x, y), impl.Tx{Ins: []impl.In{{Tx: impl.TxSum(y).Value}, coinIn(tree, 1, 1)}, Outs: []impl.Out{{Value: 1}, {Value: 16}}})
	expectPool(t, "a chain", tree, []impl.Tx{x, y, z}, impl.OK)
	expectInt(t, "its fees", impl.FeesOf(tree, []impl.Tx{x, y, z}), impl.OK, 3+2+4)
	expectAdmit(t, "its second one", tree, []impl.Tx{x}, y, impl.OK)
	expectAdmit(t, "its third one", tree, []impl.Tx{x, y}, z, impl.OK)
	expectAdmit(t, "its first one again", tree, []impl.Tx{x, y}, x, impl.ErrTaken)
	expectAdmit(t, "its second one without the first", tree, nil, y, impl.ErrNone)
	expectAdmit(t, "its third one without the second", tree, []impl.Tx{x}, z, impl.ErrNone)
	expectPool(t, "without the first one", tree, []impl.Tx{y, z}, impl.ErrNone)
	expectPool(t, "in another order", tree, []impl.Tx{x, z, y}, impl.ErrNone)
	expectPool(t, "its first one again", tree, []impl.Tx{x, y, x}, impl.ErrNone)
	expectKept(t, "a chain", tree, []impl.Tx{x, y, z}, 0, 1, 2)
	expectKept(t, "in another order", tree, []impl.Tx{z, y, x}, 2)
	expectKept(t, "partly in another order", tree, []impl.Tx{y, x, z, y, z}, 1, 3, 4)
	// what a pending one creates is no coin of a base, so it need not ripen; its lock holds
	locked := cloneTx(y)
	locked.Ins[0].Proof = nil
	expectAdmit(t, "without a proof", tree, []impl.Tx{x}, locked, impl.ErrProof)
	expectAdmit(t, "for too much", tree, []impl.Tx{x}, childOf(tree, x, 11), impl.ErrMoney)
}

func coinIn(tree impl.Tree, node int64, out int64) impl.In {
	c := coinOf(tree, node, out)
	return impl.In{Tx: c.Tx, Out: c.Out}
}

// A coin of a base is spent from just the height of the tip plus 1 on.
func TestRipeAfterTip(t *testing.T) {
	for size := int64(1); size <= 8; size++ {
		tree := lineTree(int(size))
		for node := range size {
			code := int64(impl.OK)
			if node == size-1 {
				code = impl.ErrState
			}
			x := payTx(tree, size-1, coinOf(tree, node, 0), 45)
			expectAdmit(t, "a coin of a base", tree, nil, x, code)
			expectPool(t, "a coin of a base", tree, []impl.Tx{x}, code)
		}
	}
}

// A later lock is opened at just the height of the tip plus 1.
func TestLaterLockAfterTip(t *testing.T) {
	base := baseTx(1, 10, 10, 10, 10)
	for i := range base.Outs {
		base.Outs[i].Lock = program(pushed(int64(3+i)), impl.OpAfter, pushed(3), impl.OpSign)
	}
	tree := grow(impl.Tree{Bits: easyBits}, -1, base)
	for height := int64(2); height <= 6; height++ {
		tree = grow(tree, height-2, baseTx(height, 50))
		for out := range int64(4) {
			code := int64(impl.OK)
			if out+3 > height+1 {
				code = impl.ErrProof
			}
			expectAdmit(t, "a later lock", tree, nil, payTx(tree, height-1, coinOf(tree, 0, out), 7), code)
		}
	}
}

// twoLines has two lines from the beginning on; the bases of the second one are less, and so have other sums.
func twoLines(first int, second int) impl.Tree {
	tree, up := lineTree(first), int64(-1)
	for i := range int64(second) {
		tree = grow(tree, up, baseTx(i+1, 49))
		up = int64(first) + i
	}
	return tree
}

// The coins are those of the tip, the first node with the greatest height, not those of the last node.
func TestPoolOfForks(t *testing.T) {
	tree := twoLines(3, 3)
	own, other := payTx(tree, 2, coinOf(tree, 1, 0), 45), payTx(tree, 5, coinOf(tree, 4, 0), 45)
	expectAdmit(t, "a coin of the tip", tree, nil, own, impl.OK)
	expectAdmit(t, "a coin of another line", tree, nil, other, impl.ErrNone)
	expectKept(t, "coins of two lines", tree, []impl.Tx{other, own}, 1)
	higher := grow(tree, 5, baseTx(4, 49))
	expectAdmit(t, "a coin of the line that was left", higher, nil, own, impl.ErrNone)
	expectAdmit(t, "a coin of the new tip", higher, nil, other, impl.OK)
	expectPool(t, "a coin of the line that was left", higher, []impl.Tx{own}, impl.ErrNone)
	expectKept(t, "coins of two lines", higher, []impl.Tx{own, other}, 1)
	for _, tree := range []impl.Tree{tree, higher, treeOf(-1, -1), treeOf(-1, 0, 0), treeOf(-1, -1, 1, 0)} {
		tip := modelTip(tree)
		got := impl.TemplateOf(tree, nil, 7, 5, 600).Block
		if got.Prev != modelHeader(tree.Nodes[tip].Block) || got.Txs[0].Note != modelAt(tree, tip).height+1 {
			t.Errorf("%v is not after node %d of %v", got, tip, tree)
		}
	}
}

// Different transactions with equal sums: one of them is refused even where the coins allow both.
func TestEqualSumsPending(t *testing.T) {
	tree := poolTree()
	x := withTxSum(t, payTx(tree, 3, coinOf(tree, 0, 0), 12), 123456789)
	x = signed(afterList(tree), x)
	same := signed(afterList(tree), withTxSum(t, payTx(tree, 3, coinOf(tree, 0, 1), 11), 123456789))
	child := signed(afterList(tree, x), impl.Tx{Ins: []impl.In{{Tx: 123456789}}, Outs: []impl.Out{{Value: 5}}})
	locked := cloneTx(same)
	locked.Ins[0].Proof = nil
	expectPool(t, "one of them", tree, []impl.Tx{x}, impl.OK)
	expectPool(t, "the other one", tree, []impl.Tx{same}, impl.OK)
	expectPool(t, "both", tree, []impl.Tx{x, same}, impl.ErrTaken)
	expectPool(t, "both and what is between them", tree, []impl.Tx{x, child, same}, impl.ErrTaken)
	expectPool(t, "both and others", tree, []impl.Tx{waitingTxs(tree, 3)[2], x, child, waitingTxs(tree, 4)[3], same}, impl.ErrTaken)
	expectPool(t, "a locked one with an equal sum", tree, []impl.Tx{x, child, locked}, impl.ErrProof)
	expectPool(t, "one of them again", tree, []impl.Tx{x, child, x}, impl.ErrNone)
	for _, list := range [][]impl.Tx{{x}, {x, child}} {
		expectAdmit(t, "an equal sum", tree, list, same, impl.ErrTaken)
		expectAdmit(t, "an equal sum and a locked coin", tree, list, locked, impl.ErrTaken)
		expectAdmit(t, "the same one", tree, list, x, impl.ErrTaken)
	}
	expectKept(t, "both", tree, []impl.Tx{x, same}, 0)
	expectKept(t, "both and what is between them", tree, []impl.Tx{x, child, same}, 0, 1)
	expectKept(t, "the same one twice", tree, []impl.Tx{x, x, child, x, same}, 0, 2)
	expectKept(t, "a locked one first", tree, []impl.Tx{locked, same, x}, 1)
	// what has been put into the tree is pending no more: there only the coins count
	with := grow(tree, 3, baseTx(5, 50), x)
	expectAdmit(t, "a coin that exists", with, nil, same, impl.ErrTaken)
	expectPool(t, "a coin that exists", with, []impl.Tx{same}, impl.ErrTaken)
	with = grow(tree, 3, baseTx(5, 50), x, child)
	expectAdmit(t, "a coin that is spent", with, nil, same, impl.OK)
}

// manyCoins is a line of 4 nodes with 34 coins.
func manyCoins() impl.Tree {
	tree := impl.Tree{Bits: easyBits}
	for height := int64(1); height <= 4; height++ {
		txs := []impl.Tx{baseTx(height, 12, 12, 13, 13)}
		for i := int64(0); height > 2 && i < 3; i++ {
			txs = append(txs, payTx(tree, height-2, coinOf(tree, height-3, i), 1, 2, 3, 4))
		}
		tree = grow(tree, height-2, txs...)
	}
	return tree
}

// Pending transactions leave at most 40 coins.
func TestCoinsOfPending(t *testing.T) {
	tree := manyCoins()
	wide := func(out int64, values ...int64) impl.Tx { return payTx(tree, 3, coinOf(tree, 2, out), values...) }
	list := []impl.Tx{wide(0, 1, 2, 3, 4), wide(1, 1, 2, 3, 4)}
	if coins := afterList(tree, list...); len(coins) != 40 {
		t.Fatalf("%d coins", len(coins))
	}
	expectAdmit(t, "40 coins", tree, list[:1], list[1], impl.OK)
	expectAdmit(t, "as many coins", tree, list, wide(2, 5), impl.OK)
	expectAdmit(t, "41 coins", tree, list, wide(2, 5, 5), impl.ErrMany)
	expectAdmit(t, "41 coins for too much", tree, list, wide(2, 5, 50), impl.ErrMoney)
	expectPool(t, "41 coins", tree, append(slices.Clip(list), wide(2, 5, 5)), impl.ErrMany)
	expectKept(t, "41 coins", tree, append(slices.Clip(list), wide(2, 5, 5), wide(3, 9)), 0, 1, 3)
	full := append(slices.Clip(list), wide(2, 5))
	for range 2 {
		full = append(full, signed(afterList(tree, full...), impl.Tx{Ins: []impl.In{{Tx: impl.TxSum(full[len(full)-1]).Value}}, Outs: []impl.Out{{Value: 5, Lock: program(pushed(3), impl.OpSign)}}}))
	}
	expectAdmit(t, "41 coins after a full list", tree, full, wide(3, 5, 5), impl.ErrMany)
	expectAdmit(t, "40 coins after a full list", tree, full, wide(3, 5), impl.ErrFull)
}

// admission has what AdmitTx is given, and how the transaction is completed.
type admission struct {
	tree     impl.Tree
	list     []impl.Tx
	x        impl.Tx
	unsigned bool
	pending  bool
}

type admissionChange struct {
	what string
	code int64
	make func(a *admission)
}

// newAdmission has a transaction with three inputs that is admitted if nothing is changed.
func newAdmission(t *testing.T, changes ...func(*admission)) admission {
	tree := poolTree()
	a := admission{tree: cloneTree(tree), list: cloneTxs(waitingTxs(tree, 3))}
	a.x = impl.Tx{Ins: []impl.In{coinIn(tree, 2, 0), coinIn(tree, 2, 1), coinIn(tree, 2, 2)}, Outs: []impl.Out{{Value: 20}, {Value: 10}}}
	for _, change := range changes {
		change(&a)
	}
	if impl.TxFault(a.x) != impl.OK {
		return a
	}
	if a.pending {
		// another transaction with its sum leaves it the fault that it has
		a.list[1] = signed(afterList(tree), withTxSum(t, a.list[1], impl.TxSum(a.x).Value))
	}
	if !a.unsigned {
		a.x = signed(afterList(tree), a.x)
	}
	return a
}

// admissionFaultsInOrder lists changes in the order in which the contract of AdmitTx checks for them.
func admissionFaultsInOrder() []admissionChange {
	return []admissionChange{
		{"Bits of the tree", impl.ErrRange, func(a *admission) { a.tree.Bits = 0 }},
		{"9 nodes", impl.ErrMany, func(a *admission) { a.tree.Nodes = append(a.tree.Nodes, make([]impl.Node, 5)...) }},
		{"first Up", impl.ErrNone, func(a *admission) { a.tree.Nodes[0].Up = 0 }},
		{"6 pending", impl.ErrMany, func(a *admission) { a.list = append(a.list, make([]impl.Tx, 3)...) }},
		{"first a base", impl.ErrForm, func(a *admission) { a.list[0].Ins = nil }},
		{"first without its coin", impl.ErrNone, func(a *admission) { a.list[0].Ins[0].Tx = 9 }},
		{"third Note", impl.ErrRange, func(a *admission) { a.list[2].Note = -1 }},
		{"third without a proof", impl.ErrProof, func(a *admission) { a.list[2].Ins[0].Proof = nil }},
		{"Note", impl.ErrRange, func(a *admission) { a.x.Note = 65536 }},
		{"Values", impl.ErrMoney, func(a *admission) { a.x.Outs[0].Value, a.x.Outs[1].Value = impl.MaxMoney, 1 }},
		{"a base", impl.ErrForm, func(a *admission) { a.x.Ins = nil }},
		{"pending", impl.ErrTaken, func(a *admission) { a.pending = true }},
		{"missing coin", impl.ErrNone, func(a *admission) { a.x.Ins[0].Tx = 9 }},
		{"unripe coin", impl.ErrState, func(a *admission) { a.x.Ins[1] = coinIn(a.tree, 3, 0) }},
		{"no proofs", impl.ErrProof, func(a *admission) { a.unsigned = true }},
		{"too much", impl.ErrMoney, func(a *admission) { a.x.Outs[0].Value = 29 }},
		{"a full list", impl.ErrFull, func(a *admission) { a.list = append(a.list, waitingTxs(poolTree(), 5)[3:]...) }},
	}
}

// together tells whether two changes can be made both: the first coin is locked before the second one is unripe.
func together(first string, later string) bool {
	return first != "unripe coin" || later != "no proofs"
}

func TestAdmitTxOrderOfCodes(t *testing.T) {
	expect := func(what string, code int64, changes ...func(*admission)) {
		t.Helper()
		a := newAdmission(t, changes...)
		got := impl.AdmitTx(a.tree, a.list, a.x)
		if code == impl.OK {
			expectAdmit(t, what, a.tree, a.list, a.x, impl.OK)
			return
		}
		expectWait(t, what, got, impl.WaitResult{Code: code})
	}
	expect("no change", impl.OK)
	faults := admissionFaultsInOrder()
	for i, first := range faults {
		expect(first.what, first.code, first.make)
		for _, later := range faults[i+1:] {
			if together(first.what, later.what) {
				expect(first.what+" and "+later.what, first.code, later.make, first.make)
			}
		}
	}
}

// RefreshWait asks for the number of the transactions, and for nothing else that could be a code.
func TestRefreshWaitOfFaults(t *testing.T) {
	tree := poolTree()
	good := waitingTxs(tree, 6)
	expectWait(t, "6 good ones", impl.RefreshWait(tree, good), impl.WaitResult{Code: impl.ErrMany})
	for _, size := range []int{6, 7, 5000} {
		expectWait(t, "malformed ones", impl.RefreshWait(tree, make([]impl.Tx, size)), impl.WaitResult{Code: impl.ErrMany})
	}
	expectKept(t, "nothing", tree, nil)
	for _, c := range poolFaults(tree) {
		expectKept(t, c.what, tree, []impl.Tx{c.tx})
		expectKept(t, c.what+" five times", tree, slices.Repeat([]impl.Tx{c.tx}, 5))
		for at := range 5 {
			list := slices.Insert(slices.Clone(good[:4]), at, c.tx)
			places := slices.DeleteFunc([]int{0, 1, 2, 3, 4}, func(i int) bool { return i == at })
			expectKept(t, c.what+" among others", tree, list, places...)
		}
	}
	expectKept(t, "5 good ones", tree, good[:5], 0, 1, 2, 3, 4)
	expectKept(t, "one of them three times", tree, []impl.Tx{good[1], good[0], good[1], good[1], good[3]}, 0, 1, 4)
}

// After a block, those that are in it and those that it takes the coins from are left out.
func TestRefreshWaitAfterBlocks(t *testing.T) {
	tree := poolTree()
	list := waitingTxs(tree, 5)
	with := grow(tree, 3, baseTx(5, 50), list[0], list[1], list[2])
	expectPool(t, "three of them in a block", with, list, impl.ErrNone)
	expectKept(t, "three of them in a block", with, list, 3, 4)
	with = grow(tree, 3, baseTx(5, 50), list[3])
	expectKept(t, "one of them in a block", with, list, 0, 1, 2, 4)
	with = grow(tree, 3, baseTx(5, 50))
	expectKept(t, "none of them in a block", with, list, 0, 1, 2, 3, 4)
	with = grow(tree, 3, baseTx(5, 50), payTx(tree, 3, coinOf(tree, 0, 1), 3))
	expectKept(t, "a coin of one of them in a block", with, list, 0, 2, 3, 4)
	x := payTx(tree, 3, coinOf(tree, 2, 0), 10)
	y := childOf(tree, x, 8)
	chain := []impl.Tx{list[0], x, list[1], y}
	with = grow(tree, 3, baseTx(5, 50), x)
	expectKept(t, "the first one of a chain in a block", with, chain, 0, 2, 3)
	with = grow(tree, 3, baseTx(5, 50), payTx(tree, 3, coinOf(tree, 2, 0), 9))
	expectKept(t, "the coin of a chain in a block", with, chain, 0, 2)
	// a line that becomes higher has other coins
	other := twoLines(2, 2)
	x, y = payTx(other, 1, coinOf(other, 0, 0), 45), payTx(other, 3, coinOf(other, 2, 0), 45)
	expectKept(t, "before the other line is higher", other, []impl.Tx{x, y}, 0)
	expectKept(t, "after it is", grow(other, 3, baseTx(3, 49)), []impl.Tx{x, y}, 1)
	expectKept(t, "after nothing", impl.Tree{Bits: easyBits}, []impl.Tx{x, y})
}

// A template has the first 3 pending transactions, and the fees of these alone.
func TestTemplateOfSizes(t *testing.T) {
	tree := poolTree()
	for size, fees := range []int64{0, 1, 3, 7, 7, 7} {
		list := waitingTxs(tree, size)
		got := impl.TemplateOf(tree, list, 7, 5, 600)
		expectCode(t, "TemplateOf", got.Code, impl.OK)
		base := impl.Tx{Note: 5, Outs: []impl.Out{{Value: 50 + fees, Lock: []int64{107, 8}}, {Value: 0, Lock: []int64{105}}}}
		want := impl.Block{Prev: modelHeader(tree.Nodes[3].Block), Time: 600, Bits: easyBits, Txs: append([]impl.Tx{base}, list[:min(size, 3)]...)}
		expectTemplate(t, "TemplateOf", got, impl.BlockResult{Block: want})
		if len(got.Block.Txs) != min(size, 3)+1 {
			t.Errorf("%d pending transactions make %d in a block", size, len(got.Block.Txs)-1)
		}
	}
	list := waitingTxs(tree, 5)
	slices.Reverse(list)
	expectPool(t, "in another order", tree, list, impl.OK)
	if value := impl.TemplateOf(tree, list, 7, 5, 600).Block.Txs[0].Outs[0].Value; value != 50+11+8+4 {
		t.Errorf("the first output of another order is %d", value)
	}
}

func TestTemplateOfNumbers(t *testing.T) {
	tree := poolTree()
	list := waitingTxs(tree, 2)
	wild := []int64{math.MinInt64, -1 << 32, 1 << 32, 1<<32 + 5, math.MaxInt64}
	for _, c := range []struct {
		what      string
		good, bad []int64
		call      func(n int64) (impl.BlockResult, impl.Block)
	}{
		{"key", []int64{0, 1, 5, 898, 899}, malformedKeys(), func(n int64) (impl.BlockResult, impl.Block) {
			return impl.TemplateOf(tree, list, n, 5, 600), modelTemplate(tree, list, n, 5, 600)
		}},
		{"extra", []int64{0, 1, 998, 999}, []int64{-2, -1, 1000, 1001}, func(n int64) (impl.BlockResult, impl.Block) {
			return impl.TemplateOf(tree, list, 7, n, 600), modelTemplate(tree, list, 7, n, 600)
		}},
		// the time need not be greater than that of the tip
		{"time", []int64{1, 2, 99998, 99999}, []int64{-1, 0, 100000, 100001}, func(n int64) (impl.BlockResult, impl.Block) {
			return impl.TemplateOf(tree, list, 7, 5, n), modelTemplate(tree, list, 7, 5, n)
		}},
	} {
		for _, n := range c.good {
			got, want := c.call(n)
			expectTemplate(t, c.what, got, impl.BlockResult{Block: want})
			expectCode(t, c.what+": BlockFault", impl.BlockFault(got.Block), impl.OK)
		}
		for _, n := range append(c.bad, wild...) {
			got, _ := c.call(n)
			expectTemplate(t, c.what, got, impl.BlockResult{Code: impl.ErrRange})
		}
	}
}

// A template has the Bits of its tree, and the height after its tip even where no node can be added.
func TestTemplateOfTrees(t *testing.T) {
	for size := range 9 {
		tree := lineTree(size)
		b := impl.TemplateOf(tree, nil, 7, 5, 99999).Block
		if b.Bits != easyBits || b.Nonce != 0 || b.Txs[0].Note != int64(size)+1 || b.Prev != modelAt(tree, int64(size)-1).sum {
			t.Errorf("%v is not after %d nodes", b, size)
		}
	}
	hard := impl.Tree{Bits: 767}
	hard = withNode(hard, -1, withSum(t, nextBlock(hard, -1, baseTx(1, 50)), 5))
	expectPool(t, "other Bits", hard, nil, impl.OK)
	if b := impl.TemplateOf(hard, nil, 7, 5, 600).Block; b.Bits != 767 || b.Prev != 5 {
		t.Errorf("%v is not after a node of other Bits", b)
	}
}

// A pending transaction may have the sum of the base of a template, which then is no block that can be mined.
func TestTemplateOfTwins(t *testing.T) {
	tree := poolTree()
	x := payTx(tree, 3, coinOf(tree, 0, 0), 13)
	base := impl.TemplateOf(tree, []impl.Tx{x}, 7, 5, 600).Block.Txs[0]
	x = signed(afterList(tree), withTxSum(t, x, impl.TxSum(base).Value))
	expectPool(t, "a sum as that of the base", tree, []impl.Tx{x}, impl.OK)
	b := impl.TemplateOf(tree, []impl.Tx{x}, 7, 5, 600).Block
	expectTemplate(t, "MineBlock", impl.MineBlock(b, 200), impl.BlockResult{Code: impl.ErrTaken})
}

// expectMined compares with a model that tries each Nonce anew.
func expectMined(t *testing.T, what string, b impl.Block, tries int64) int64 {
	t.Helper()
	got := impl.MineBlock(b, tries)
	expectTemplate(t, what+": MineBlock", got, modelMine(b, tries))
	return got.Code
}

// The number of tries is from 1 to 200.
func TestMineBlockOfTries(t *testing.T) {
	easy := mined(plainBlock())
	hard := tried(plainBlock(), false)
	for _, tries := range []int64{1, 2, 3, 100, 199, 200} {
		expectTemplate(t, "a proof", impl.MineBlock(easy, tries), impl.BlockResult{Block: easy})
		expectMined(t, "no proof", hard, tries)
	}
	for _, tries := range []int64{math.MinInt64, -200, -1, 0, 201, 202, 1000, 1 << 32, 1<<32 + 1, math.MaxInt64} {
		expectTemplate(t, "a proof", impl.MineBlock(easy, tries), impl.BlockResult{Code: impl.ErrRange})
		expectTemplate(t, "no proof", impl.MineBlock(hard, tries), impl.BlockResult{Code: impl.ErrRange})
	}
}

// The BlockFault of a block comes before the number of tries.
func TestMineBlockOfFaults(t *testing.T) {
	for _, c := range blockFaultsInOrder() {
		for _, tries := range []int64{math.MinInt64, -1, 0, 1, 200, 201, math.MaxInt64} {
			b := plainBlock(c.make)
			expectTemplate(t, c.what, impl.MineBlock(b, tries), impl.BlockResult{Code: c.code})
		}
	}
	for _, tries := range []int64{0, 1} {
		expectTemplate(t, "no block", impl.MineBlock(impl.Block{}, tries), impl.BlockResult{Code: impl.ErrRange})
	}
}

// powerOf33 is modulo the prime number that sums are less than.
func powerOf33(exponent int64) int64 {
	power, base := int64(1), int64(33)
	for ; exponent > 0; exponent /= 2 {
		if exponent%2 == 1 {
			power = power * base % 2147483647
		}
		base = base * base % 2147483647
	}
	return power
}

// withSumAt is a copy that has the HeaderSum, by another Prev and another Time; its Nonce stays.
func withSumAt(t *testing.T, b impl.Block, sum int64) impl.Block {
	t.Helper()
	root := modelRoot(b)
	// 16 bytes follow Prev, each of which multiplies it by 33
	inverse := powerOf33(2147483646 - 16)
	for b.Time = 1; b.Time <= impl.MaxTime; b.Time++ {
		missing := (sum - quickSum(0, root, b.Time, b.Bits, b.Nonce) + 2147483647) % 2147483647 * inverse % 2147483647
		b.Prev = 0
		for _, weight := range []int64{33 * 33 * 33, 33 * 33, 33, 1} {
			digit := min(missing/weight, 127)
			b.Prev = 256*b.Prev + digit
			missing -= digit * weight
		}
		if missing == 0 {
			return b
		}
	}
	t.Fatalf("no block has the sum %d", sum)
	return b
}

// A HeaderSum that is just the target is a proof, and one more is none.
func TestMineBlockOfTargets(t *testing.T) {
	for _, bits := range []int64{1023, 1022, 769, 589, 513, 255, 1} {
		target := modelTarget(bits)
		b := plainBlock(func(b *impl.Block) { b.Bits = bits })
		equal, more := withSumAt(t, b, target), withSumAt(t, b, target+1)
		for _, tries := range []int64{1, 2, 200} {
			expectTemplate(t, "just the target", impl.MineBlock(equal, tries), impl.BlockResult{Block: equal})
			expectMined(t, "one more", more, tries)
		}
		expectTemplate(t, "one more", impl.MineBlock(more, 1), impl.BlockResult{Code: impl.ErrProof})
		expectCode(t, "the sum of 0", impl.MineBlock(withSumAt(t, b, 0), 1).Code, impl.OK)
		expectCode(t, "the greatest sum", impl.MineBlock(withSumAt(t, b, impl.MaxSum), 1).Code, impl.ErrProof)
	}
}

// The first Nonce with a proof is found if it is among the tries, at just the last one too.
func TestMineBlockOfFirstNonce(t *testing.T) {
	for _, bits := range []int64{1023, 589, 1} {
		b := plainBlock(func(b *impl.Block) { b.Bits = bits })
		for _, before := range []int64{1, 2, 3, 10, 100, 198, 199, 200} {
			// one more in the Nonce is one more in the sum, up to the greatest one, and then 0
			far := withSumAt(t, b, impl.MaxSum+1-before)
			near := far
			near.Nonce += before
			for _, tries := range []int64{1, before - 1, before, before + 1, before + 2, 199, 200} {
				if tries < 1 || tries > 200 {
					continue
				}
				want := impl.BlockResult{Code: impl.ErrProof}
				if tries > before {
					want = impl.BlockResult{Block: near}
				}
				expectTemplate(t, "MineBlock", impl.MineBlock(far, tries), want)
				expectMined(t, "MineBlock", far, tries)
			}
			// a Nonce before its own one is not tried
			near.Nonce++
			expectTemplate(t, "MineBlock from a proof on", impl.MineBlock(near, 1), impl.BlockResult{Block: near})
		}
	}
}

// The last Nonce is 65535, however many tries are left.
func TestMineBlockOfLastNonce(t *testing.T) {
	target := modelTarget(easyBits)
	b := plainBlock()
	b.Nonce = 65535
	// the Nonce 65536 would have a sum that is less by some thousands
	over := withSumAt(t, b, target+1)
	if next := quickSum(over.Prev, modelRoot(over), over.Time, over.Bits, 65536); next > target {
		t.Fatalf("the sum %d is no proof", next)
	}
	for _, tries := range []int64{1, 2, 200} {
		expectTemplate(t, "no proof at the last Nonce", impl.MineBlock(over, tries), impl.BlockResult{Code: impl.ErrProof})
		expectMined(t, "no proof at the last Nonce", over, tries)
	}
	last := withSumAt(t, b, 0)
	for _, before := range []int64{0, 1, 2, 100, 198, 199, 200} {
		first := last
		first.Nonce -= before
		for _, tries := range []int64{1, 2, before, min(before+1, 200), 200} {
			if tries < 1 {
				continue
			}
			want := impl.BlockResult{Code: impl.ErrProof}
			if tries > before {
				want = impl.BlockResult{Block: last}
			}
			expectTemplate(t, "a proof at the last Nonce", impl.MineBlock(first, tries), want)
		}
	}
	// the next Nonce may have a lower sum: its last byte is 255 less, the other one counts 33 more
	fall := withSumAt(t, plainBlock(func(b *impl.Block) { b.Nonce = 511 }), target+222)
	next := fall
	next.Nonce = 512
	expectTemplate(t, "a proof by a carry", impl.MineBlock(fall, 2), impl.BlockResult{Block: next})
	expectTemplate(t, "no proof before it", impl.MineBlock(fall, 1), impl.BlockResult{Code: impl.ErrProof})
	for _, beyond := range []int64{-1, 65536, 65537, 1 << 32, math.MinInt64, math.MaxInt64} {
		last.Nonce = beyond
		expectTemplate(t, "a Nonce out of range", impl.MineBlock(last, 200), impl.BlockResult{Code: impl.ErrRange})
	}
}

// The example: a coin of 50 is spent with an output of 45.
func TestExampleOfChapter7(t *testing.T) {
	tree := lineTree(2)
	x := payTx(tree, 1, coinOf(tree, 0, 0), 45)
	got := impl.AdmitTx(tree, nil, x)
	expectWait(t, "AdmitTx", got, impl.WaitResult{Fees: 5, Txs: []impl.Tx{x}})
	b := impl.TemplateOf(tree, got.Txs, 7, 5, 600).Block
	if len(b.Txs) != 2 || b.Txs[0].Outs[0].Value != 55 {
		t.Errorf("the template is %v", b)
	}
	expectWait(t, "again", impl.AdmitTx(tree, got.Txs, x), impl.WaitResult{Code: impl.ErrTaken})
}

// A poolStep is a tree, a list that is pending after it, and a transaction for it with what the model makes of it.
type poolStep struct {
	tree impl.Tree
	list []impl.Tx
	x    impl.Tx
	want impl.WaitResult
}

// randomPools admits transactions after trees of all kinds; refused ones leave the list as it is.
func randomPools(trees int, blocks int) []poolStep {
	source := rand.New(rand.NewPCG(8, 7))
	var steps []poolStep
	for _, g := range randomGrowth(trees, blocks) {
		if g.want.Code != impl.OK {
			continue
		}
		tree := g.want.Tree
		var list []impl.Tx
		for range 12 {
			p := modelWait(tree, list)
			coins := p.coins
			if source.IntN(6) > 0 {
				coins = pastCoins(coins, p.height)
			}
			x := randomSpend(source, coins)
			if len(list) > 0 && source.IntN(10) == 0 {
				x = list[source.IntN(len(list))]
			}
			step := poolStep{tree, list, x, modelAdmit(tree, list, x)}
			steps = append(steps, step)
			if step.want.Code == impl.OK {
				list = step.want.Txs
			}
		}
	}
	return steps
}

// Promise 8: an admitted transaction is pending after all others, and is not admitted twice.
func TestPromise8Admitted(t *testing.T) {
	codes, sizes := map[int64]int{}, map[int]int{}
	for _, s := range randomPools(25, 14) {
		got := impl.AdmitTx(s.tree, s.list, s.x)
		expectWait(t, "AdmitTx", got, s.want)
		codes[got.Code]++
		if got.Code != impl.OK {
			continue
		}
		sizes[len(got.Txs)]++
		expectCode(t, "the list after it", impl.WaitFault(s.tree, got.Txs), impl.OK)
		expectInt(t, "the fees after it", impl.FeesOf(s.tree, got.Txs), impl.OK, got.Fees)
		size := len(s.list)
		if len(got.Txs) != size+1 || !equalLists(got.Txs[:size], s.list) || !equalTxs(got.Txs[size], s.x) {
			t.Errorf("%v is not pending after %v in %v", s.x, s.list, got.Txs)
		}
		for _, x := range got.Txs {
			expectWait(t, "again", impl.AdmitTx(s.tree, got.Txs, x), impl.WaitResult{Code: impl.ErrTaken})
		}
	}
	for _, code := range []int64{impl.OK, impl.ErrForm, impl.ErrNone, impl.ErrTaken, impl.ErrMoney, impl.ErrProof, impl.ErrState, impl.ErrFull} {
		if codes[code] < 10 {
			t.Errorf("code %d came up %d times only", code, codes[code])
		}
	}
	for size := range 5 {
		if sizes[size+1] < 20 {
			t.Errorf("%d transactions are pending %d times only", size+1, sizes[size+1])
		}
	}
}

// What RefreshWait returns is valid after the tip, in the order that it was in, and nothing that it leaves out is admitted at its turn.
func TestPromise8Refreshed(t *testing.T) {
	source := rand.New(rand.NewPCG(9, 7))
	left, kept := 0, 0
	steps := randomPools(20, 12)
	for i, s := range steps {
		list := slices.Clone(steps[max(0, i-source.IntN(12))].list)
		if i%2 == 0 {
			list = append(slices.Clone(s.list), s.x)
		}
		if source.IntN(2) == 0 {
			source.Shuffle(len(list), func(i, j int) { list[i], list[j] = list[j], list[i] })
		}
		expectCode(t, "WaitFault", impl.WaitFault(s.tree, list), modelWait(s.tree, list).code)
		got := impl.RefreshWait(s.tree, list)
		expectWait(t, "RefreshWait", got, modelRefresh(s.tree, list))
		if got.Code != impl.OK {
			continue
		}
		kept, left = kept+len(got.Txs), left+len(list)-len(got.Txs)
		expectCode(t, "what is kept", impl.WaitFault(s.tree, got.Txs), impl.OK)
		expectInt(t, "its fees", impl.FeesOf(s.tree, got.Txs), impl.OK, got.Fees)
		expectWait(t, "refreshed again", impl.RefreshWait(s.tree, got.Txs), got)
	}
	if kept < 500 || left < 500 {
		t.Errorf("%d kept and %d left out are too few", kept, left)
	}
}

// minedTemplate is the template of the first time, from the given one on, at which a Nonce has a proof.
func minedTemplate(t *testing.T, tree impl.Tree, list []impl.Tx, time int64) impl.Block {
	t.Helper()
	for range 400 {
		template := impl.TemplateOf(tree, list, 7, 5, time)
		expectTemplate(t, "TemplateOf", template, impl.BlockResult{Block: modelTemplate(tree, list, 7, 5, time)})
		won := impl.MineBlock(template.Block, 200)
		if won.Code == impl.OK {
			return won.Block
		}
		expectTemplate(t, "MineBlock", won, impl.BlockResult{Code: impl.ErrProof})
		time++
	}
	t.Fatal("nothing was mined")
	return impl.Block{}
}

// hasRoom tells whether a block of the first three of a list can be added: its base makes two coins before them.
func hasRoom(tree impl.Tree, list []impl.Tx) bool {
	room := len(tree.Nodes) < 8
	for size := range min(len(list), 3) + 1 {
		room = room && len(modelWait(tree, list[:size]).coins)+2 <= 40
	}
	return room
}

// Promise 8: a mined template is valid after the tip if there is room; what it leaves is still pending.
func TestPromise8Mined(t *testing.T) {
	added, full := 0, 0
	for i, s := range randomPools(25, 14) {
		if s.want.Code != impl.OK || i%2 == 0 {
			continue
		}
		tree, list := s.tree, s.want.Txs
		tip := modelTip(tree)
		won := minedTemplate(t, tree, list, modelAt(tree, tip).time+1)
		got := impl.AddBlock(tree, won)
		if !hasRoom(tree, list) {
			expectAdded(t, "AddBlock without room", got, modelAdd(tree, won))
			full++
			continue
		}
		expectCode(t, "AddBlock", got.Code, impl.OK)
		added++
		if got.Tree.Nodes[got.Value].Up != tip || impl.TipOf(got.Tree).Value != got.Value {
			t.Errorf("%v is not after the tip of %v", won, tree)
		}
		rest := list[min(len(list), 3):]
		after := impl.RefreshWait(got.Tree, list)
		expectWait(t, "RefreshWait", after, modelRefresh(got.Tree, list))
		expectWait(t, "RefreshWait", after, impl.WaitResult{Fees: modelWait(got.Tree, rest).total(), Txs: rest})
		expectInt(t, "WorthOf", impl.WorthOf(impl.CoinsAt(got.Tree, got.Value).Coins), impl.OK, impl.WorthOf(impl.CoinsAt(tree, tip).Coins).Value+50)
	}
	if added < 50 || full < 5 {
		t.Errorf("%d blocks added and %d without room are too few", added, full)
	}
}

// A template of ordinary lists is mined and added, one after the other, until there is no room.
func TestPromise8Line(t *testing.T) {
	tree, list := impl.Tree{Bits: easyBits}, []impl.Tx(nil)
	for height := int64(1); height <= 8; height++ {
		if height > 2 {
			for _, fee := range []int64{1, 2} {
				c := coinOf(tree, height-3, 0)
				x := payTx(tree, height-2, impl.Coin{Tx: c.Tx}, 50-fee)
				x = signed(modelAt(tree, height-2).coins, x)
				if got := impl.AdmitTx(tree, list, x); got.Code == impl.OK {
					list = got.Txs
				}
			}
		}
		got := impl.AddBlock(tree, minedTemplate(t, tree, list, 1000*height))
		expectCode(t, "AddBlock", got.Code, impl.OK)
		tree = got.Tree
		after := impl.RefreshWait(tree, list)
		expectWait(t, "RefreshWait", after, impl.WaitResult{})
		list = after.Txs
		expectTree(t, "the tree after it", tree, impl.OK)
	}
	expectAdded(t, "8 nodes", impl.AddBlock(tree, minedTemplate(t, tree, nil, 9000)), impl.TreeResult{Code: impl.ErrMany})
	// 39 coins leave no room for the two of a base
	coins := manyCoins()
	list = []impl.Tx{payTx(coins, 3, coinOf(coins, 2, 0), 1, 2, 3, 4), payTx(coins, 3, coinOf(coins, 2, 1), 1, 2, 3)}
	expectPool(t, "39 coins", coins, list, impl.OK)
	expectAdded(t, "39 coins", impl.AddBlock(coins, minedTemplate(t, coins, list, 1000)), impl.TreeResult{Code: impl.ErrMany})
	expectCode(t, "36 coins", impl.AddBlock(coins, minedTemplate(t, coins, nil, 1000)).Code, impl.OK)
}

// wildLists are lists at and beyond every bound, for any tree.
func wildLists() [][]impl.Tx {
	tree := poolTree()
	lists := [][]impl.Tx{nil, {}, {{}}, waitingTxs(tree, 1), waitingTxs(tree, 5), waitingTxs(tree, 6), make([]impl.Tx, 5), make([]impl.Tx, 5000)}
	for _, n := range extremes() {
		lists = append(lists, []impl.Tx{baseTx(n, n)}, []impl.Tx{inTx(n, n, n), outTx(n, n)}, append(waitingTxs(tree, 2), inTx(n, 0), outTx(n)))
	}
	return lists
}

// Promise 1: all functions return for all arguments, the same each time, and change none.
func TestPromise1AllOfChapter7(t *testing.T) {
	lists, wild := wildLists(), extremes()
	trees := append(wildTrees(), poolTree(), manyCoins())
	for i, tree := range trees {
		code := modelTreeFault(tree)
		for j, list := range lists {
			if i < len(trees)-2 && (i+j)%9 > 0 {
				continue
			}
			earlier, before := cloneTree(tree), cloneTxs(list)
			x, n := lists[(i+j)%len(lists)], wild[(i+j)%len(wild)]
			if code != impl.OK {
				expectNoPool(t, "a tree", tree, list, code)
			} else {
				expectPool(t, "a list", tree, list, modelWait(tree, list).code)
			}
			expectWait(t, "RefreshWait again", impl.RefreshWait(tree, list), impl.RefreshWait(tree, list))
			if len(x) > 0 {
				expectWait(t, "AdmitTx again", impl.AdmitTx(tree, list, x[0]), impl.AdmitTx(tree, list, x[0]))
			}
			expectPure(t, "FeesOf", func() impl.IntResult { return impl.FeesOf(tree, list) })
			expectTemplate(t, "TemplateOf again", impl.TemplateOf(tree, list, n, n, n), impl.TemplateOf(tree, list, n, n, n))
			if !reflect.DeepEqual(tree, earlier) || !reflect.DeepEqual(list, before) {
				t.Fatalf("%v was changed to %v, or %v to %v", earlier, tree, before, list)
			}
		}
	}
	for _, b := range wildBlocks() {
		for _, tries := range wild {
			before := cloneBlock(b)
			expectTemplate(t, "MineBlock", impl.MineBlock(b, tries), modelMine(b, tries))
			if !reflect.DeepEqual(b, before) {
				t.Fatalf("%v was changed to %v", before, b)
			}
		}
	}
}

// Promise 1: nothing is written behind the end of an argument, and nothing is read there.
func TestPromise1EndsOfChapter7(t *testing.T) {
	tree := poolTree()
	whole := waitingTxs(tree, 6)
	for size := range 6 {
		before := cloneTxs(whole)
		x := cloneTx(whole[5])
		x.Note = 9
		x = signed(afterList(tree), x)
		expectPool(t, "a part", tree, whole[:size], impl.OK)
		expectWait(t, "a part", impl.AdmitTx(tree, whole[:size], x), modelAdmit(tree, whole[:size], x))
		if !equalLists(whole, before) {
			t.Fatalf("%v was changed to %v", before, whole)
		}
	}
	b := mined(plainBlock())
	b.Txs = append(b.Txs, impl.Tx{Note: -1})[:4]
	expectTemplate(t, "a part", impl.MineBlock(b, 1), impl.BlockResult{Block: b})
}

// sharingTxs are 4 transactions, pending after poolTree, that share all their locks and proofs.
func sharingTxs(tree impl.Tree) []impl.Tx {
	lock, open := program(pushed(1)), program(pushed(3), impl.OpSign)
	list := waitingTxs(tree, 4)
	for i := range list {
		list[i].Outs[0].Lock = lock
		list[i].Outs = append(list[i].Outs, impl.Out{Lock: open})
		list[i] = signed(afterList(tree), list[i])
		list[i].Outs[0].Lock, list[i].Outs[1].Lock = lock, open
	}
	return list
}

// Promise 1: results are new memory, the inputs, outputs, locks and proofs of their transactions too.
func TestPromise1NewMemoryOfChapter7(t *testing.T) {
	tree := poolTree()
	list := sharingTxs(tree)
	x := list[3]
	expectPool(t, "lists that share memory", tree, list, impl.OK)
	want := modelAdmit(tree, list[:3], x)
	got, again := impl.AdmitTx(tree, list[:3], x), impl.AdmitTx(tree, list[:3], x)
	expectCode(t, "AdmitTx", got.Code, impl.OK)
	expectApart(t, "AdmitTx", got, again, tree, list, x)
	fresh := impl.RefreshWait(tree, list)
	expectApart(t, "RefreshWait", fresh, impl.RefreshWait(tree, list), tree, list)
	template := impl.TemplateOf(tree, list, 7, 5, 600)
	expectApart(t, "TemplateOf", template, impl.TemplateOf(tree, list, 7, 5, 600), tree, list)
	b := impl.Block{Time: 600, Bits: easyBits, Txs: append([]impl.Tx{baseTx(5, 50)}, list[:3]...)}
	b.Txs[0].Outs[0].Lock = x.Outs[0].Lock
	b = mined(b)
	won := impl.MineBlock(b, 200)
	expectTemplate(t, "MineBlock", won, impl.BlockResult{Block: b})
	expectApart(t, "MineBlock", won, impl.MineBlock(b, 200), b, list)
	// a result that is changed changes nothing else
	earlier, before := cloneTxs(list), cloneBlock(b)
	for _, txs := range [][]impl.Tx{got.Txs, fresh.Txs, template.Block.Txs, won.Block.Txs} {
		for _, x := range txs {
			for _, in := range x.Ins {
				clear(in.Proof)
			}
			for _, out := range x.Outs {
				clear(out.Lock)
			}
			clear(x.Ins)
		}
		clear(txs)
	}
	expectWait(t, "another result", again, want)
	if !equalLists(list, earlier) || !equalBlocks(b, before) {
		t.Errorf("%v was changed to %v, or %v to %v", earlier, list, before, b)
	}
}
