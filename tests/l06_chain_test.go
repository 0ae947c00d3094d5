package tests

import (
	"math"
	"math/rand/v2"
	"reflect"
	"slices"
	"testing"

	"loop.example/g00539/impl"
)

// easyBits have the greatest target: one sum of four is a proof.
const easyBits = 1023

// baseTx is a base; the signature of key 3 opens what it pays.
func baseTx(height int64, values ...int64) impl.Tx {
	x := impl.Tx{Note: height}
	for _, value := range values {
		x.Outs = append(x.Outs, impl.Out{Value: value, Lock: program(pushed(3), impl.OpSign)})
	}
	return x
}

func cloneBlock(b impl.Block) impl.Block {
	b.Txs = slices.Clone(b.Txs)
	for i, x := range b.Txs {
		b.Txs[i] = cloneTx(x)
	}
	return b
}

func cloneTree(tree impl.Tree) impl.Tree {
	tree.Nodes = slices.Clone(tree.Nodes)
	for i, n := range tree.Nodes {
		tree.Nodes[i].Block = cloneBlock(n.Block)
	}
	return tree
}

// equalBlocks compares without the package; nil is an empty list.
func equalBlocks(a impl.Block, b impl.Block) bool {
	same := a.Prev == b.Prev && a.Time == b.Time && a.Bits == b.Bits && a.Nonce == b.Nonce && len(a.Txs) == len(b.Txs)
	for i := 0; same && i < len(a.Txs); i++ {
		same = equalTxs(a.Txs[i], b.Txs[i])
	}
	return same
}

func equalTrees(a impl.Tree, b impl.Tree) bool {
	same := a.Bits == b.Bits && len(a.Nodes) == len(b.Nodes)
	for i := 0; same && i < len(a.Nodes); i++ {
		same = a.Nodes[i].Up == b.Nodes[i].Up && equalBlocks(a.Nodes[i].Block, b.Nodes[i].Block)
	}
	return same
}

func sumsOf(b impl.Block) []int64 {
	var sums []int64
	for _, x := range b.Txs {
		sums = append(sums, impl.TxSum(x).Value)
	}
	return sums
}

func modelRoot(b impl.Block) int64 {
	return newModel().root(sumsOf(b), depthOf(len(b.Txs)))
}

// quickSum computes the sum of the four-byte numbers byte by byte.
func quickSum(list ...int64) int64 {
	sum := int64(5381)
	for _, n := range list {
		for shift := 24; shift >= 0; shift -= 8 {
			sum = (33*sum + n>>shift&255 + 1) % 2147483647
		}
	}
	return sum
}

func modelHeader(b impl.Block) int64 {
	return quickSum(b.Prev, modelRoot(b), b.Time, b.Bits, b.Nonce)
}

func modelTarget(bits int64) int64 {
	return (bits%256+1)<<(7*(bits/256)) - 1
}

func modelBlockFault(b impl.Block) int64 {
	within := func(n int64, least int64, most int64) bool { return n >= least && n <= most }
	if !within(b.Prev, 0, 2147483646) || !within(b.Time, 1, 99999) || !within(b.Nonce, 0, 65535) || !slices.Contains(wellFormedBits(), b.Bits) {
		return impl.ErrRange
	}
	if !within(int64(len(b.Txs)), 1, 4) {
		return impl.ErrMany
	}
	for _, x := range b.Txs {
		if code := impl.TxFault(x); code != impl.OK {
			return code
		}
	}
	for i, x := range b.Txs {
		if first := i == 0; first != (len(x.Ins) == 0) {
			return impl.ErrForm
		}
	}
	if newModel().twin(sumsOf(b), depthOf(len(b.Txs))) {
		return impl.ErrTaken
	}
	return impl.OK
}

// modelNode is a node as its own line alone determines it.
type modelNode struct {
	height int64
	time   int64
	sum    int64
	coins  []impl.Coin
	line   []int64
}

// modelAt follows a tree that has no fault back to the beginning, from each node anew.
func modelAt(tree impl.Tree, node int64) modelNode {
	if node == -1 {
		return modelNode{}
	}
	n := tree.Nodes[node]
	up := modelAt(tree, n.Up)
	here := modelNode{up.height + 1, n.Block.Time, modelHeader(n.Block), up.coins, append(up.line, node)}
	for _, x := range n.Block.Txs {
		here.coins = modelApply(here.coins, x, here.height).Coins
	}
	return here
}

func modelCodeAfter(tree impl.Tree, up int64, b impl.Block) int64 {
	before := modelAt(tree, up)
	switch {
	case b.Bits != tree.Bits || b.Time <= before.time:
		return impl.ErrState
	case modelHeader(b) > modelTarget(b.Bits):
		return impl.ErrProof
	case b.Txs[0].Note != before.height+1:
		return impl.ErrForm
	}
	// no tree is high enough for another subsidy
	coins, money := before.coins, int64(50)
	for _, x := range b.Txs {
		after := modelApply(coins, x, before.height+1)
		if after.Code != impl.OK {
			return after.Code
		}
		coins, money = after.Coins, money+after.Fee
	}
	for _, out := range b.Txs[0].Outs {
		money -= out.Value
	}
	if money < 0 {
		return impl.ErrMoney
	}
	return impl.OK
}

func modelTreeFault(tree impl.Tree) int64 {
	if !slices.Contains(wellFormedBits(), tree.Bits) {
		return impl.ErrRange
	}
	if len(tree.Nodes) > 8 {
		return impl.ErrMany
	}
	sums := []int64{0}
	for i, n := range tree.Nodes {
		if code := modelBlockFault(n.Block); code != impl.OK {
			return code
		}
		if n.Up < -1 || n.Up > int64(i)-1 || n.Block.Prev != sums[n.Up+1] {
			return impl.ErrNone
		}
		if code := modelCodeAfter(tree, n.Up, n.Block); code != impl.OK {
			return code
		}
		sum := modelHeader(n.Block)
		if slices.Contains(sums, sum) {
			return impl.ErrTaken
		}
		sums = append(sums, sum)
	}
	return impl.OK
}

// modelAdd adds a block to a tree that has no fault.
func modelAdd(tree impl.Tree, b impl.Block) impl.TreeResult {
	if code := modelBlockFault(b); code != impl.OK {
		return impl.TreeResult{Code: code}
	}
	var sums []int64
	for node := int64(-1); node < int64(len(tree.Nodes)); node++ {
		sums = append(sums, modelAt(tree, node).sum)
	}
	up := int64(slices.Index(sums, b.Prev)) - 1
	switch {
	case up < -1:
		return impl.TreeResult{Code: impl.ErrNone}
	case len(tree.Nodes) == 8:
		return impl.TreeResult{Code: impl.ErrMany}
	}
	if code := modelCodeAfter(tree, up, b); code != impl.OK {
		return impl.TreeResult{Code: code}
	}
	if slices.Contains(sums, modelHeader(b)) {
		return impl.TreeResult{Code: impl.ErrTaken}
	}
	return impl.TreeResult{Value: int64(len(tree.Nodes)), Tree: withNode(tree, up, b)}
}

func withNode(tree impl.Tree, up int64, b impl.Block) impl.Tree {
	tree.Nodes = append(slices.Clip(tree.Nodes), impl.Node{Up: up, Block: b})
	return tree
}

func isProven(b impl.Block) bool {
	return modelHeader(b) <= modelTarget(b.Bits)
}

// tried is a copy with the first Time, from its own one on, at which its sum is a proof or is none.
// Another Nonce changes the sum by a few thousands only, which is seldom enough.
func tried(b impl.Block, proof bool) impl.Block {
	for range 400 {
		if isProven(b) == proof {
			break
		}
		b.Time++
	}
	return b
}

func mined(b impl.Block) impl.Block {
	return tried(b, true)
}

// triedAt keeps the Time; instead its base gets another lock, which key 3 opens as well.
func triedAt(b impl.Block, proof bool) impl.Block {
	b = cloneBlock(b)
	for unused := range int64(400) {
		if isProven(b) == proof {
			break
		}
		b.Txs[0].Outs[0].Lock = program(pushed(unused), impl.OpDrop, pushed(3), impl.OpSign)
	}
	return b
}

func minedAt(b impl.Block) impl.Block {
	return triedAt(b, true)
}

// nonceFor finds the Nonce for which a header has the sum: its bytes count 33 times and once.
func nonceFor(b impl.Block, root int64, sum int64) int64 {
	missing := (sum - quickSum(b.Prev, root, b.Time, b.Bits, 0) + 2147483647) % 2147483647
	upper := min(missing/33, 255)
	if missing-33*upper > 255 {
		return -1
	}
	return 256*upper + missing - 33*upper
}

// withSum is a copy that has the HeaderSum, by another Time, not before its own one, by its Nonce and by one more output of its base.
func withSum(t *testing.T, b impl.Block, sum int64) impl.Block {
	t.Helper()
	b = cloneBlock(b)
	outs, first := b.Txs[0].Outs, b.Time
	for extra := range int64(1000) {
		b.Txs[0].Outs = append(slices.Clone(outs), impl.Out{Lock: program(pushed(extra))})
		root := modelRoot(b)
		for b.Time = first; b.Time <= impl.MaxTime; b.Time++ {
			if b.Time&255 > 32 {
				// these have the sums of times before and after them
				continue
			}
			if b.Nonce = nonceFor(b, root, sum); b.Nonce >= 0 {
				return b
			}
		}
	}
	t.Fatalf("no block has the sum %d", sum)
	return b
}

// nextBlock is a block after a node with the given transactions; it has no proof yet.
func nextBlock(tree impl.Tree, up int64, txs ...impl.Tx) impl.Block {
	before := modelAt(tree, up)
	// times that are far apart make other sums of blocks after the same node
	return impl.Block{Prev: before.sum, Time: before.time + 1 + 100*int64(len(tree.Nodes)), Bits: tree.Bits, Txs: txs}
}

func grow(tree impl.Tree, up int64, txs ...impl.Tx) impl.Tree {
	return withNode(tree, up, mined(nextBlock(tree, up, txs...)))
}

// lineTree is a line of blocks, each with a base of 50.
func lineTree(size int) impl.Tree {
	tree := impl.Tree{Bits: easyBits}
	for i := range int64(size) {
		tree = grow(tree, i-1, baseTx(i+1, 50))
	}
	return tree
}

// treeOf has a block of a base after each of the nodes.
func treeOf(ups ...int64) impl.Tree {
	tree := impl.Tree{Bits: easyBits}
	for _, up := range ups {
		tree = grow(tree, up, baseTx(modelAt(tree, up).height+1, 50))
	}
	return tree
}

// payTx spends a coin of a tree at one of its nodes, with the proof for it.
func payTx(tree impl.Tree, node int64, coin impl.Coin, values ...int64) impl.Tx {
	x := impl.Tx{Ins: []impl.In{{Tx: coin.Tx, Out: coin.Out}}}
	for _, value := range values {
		x.Outs = append(x.Outs, impl.Out{Value: value, Lock: program(pushed(3), impl.OpSign)})
	}
	return signed(modelAt(tree, node).coins, x)
}

// coinOf is the coin that a base of a node made.
func coinOf(tree impl.Tree, node int64, out int64) impl.Coin {
	return impl.Coin{Tx: impl.TxSum(tree.Nodes[node].Block.Txs[0]).Value, Out: out}
}

func expectAdded(t *testing.T, what string, got impl.TreeResult, want impl.TreeResult) {
	t.Helper()
	if got.Code != want.Code || got.Value != want.Value || !equalTrees(got.Tree, want.Tree) {
		t.Errorf("%s: got %v, want %v", what, got, want)
	}
}

// expectBlock requires the same code of all functions that return BlockFault.
func expectBlock(t *testing.T, what string, b impl.Block, code int64) {
	t.Helper()
	expectCode(t, what+": BlockFault", impl.BlockFault(b), code)
	if code == impl.OK {
		expectInt(t, what+": BlockRoot", impl.BlockRoot(b), code, modelRoot(b))
		expectInt(t, what+": HeaderSum", impl.HeaderSum(b), code, modelHeader(b))
		return
	}
	expectInt(t, what+": BlockRoot", impl.BlockRoot(b), code, 0)
	expectInt(t, what+": HeaderSum", impl.HeaderSum(b), code, 0)
	for _, tree := range []impl.Tree{{Bits: easyBits}, {Bits: 1}, lineTree(1), lineTree(8)} {
		expectAdded(t, what+": AddBlock", impl.AddBlock(tree, b), impl.TreeResult{Code: code})
	}
	expectTree(t, what+": a tree", impl.Tree{Bits: easyBits, Nodes: []impl.Node{{Up: 7, Block: b}}}, code)
}

// expectTree requires the same code of all functions that return TreeFault, and the results of a tree that has none.
func expectTree(t *testing.T, what string, tree impl.Tree, code int64) {
	t.Helper()
	expectCode(t, what+": TreeFault", impl.TreeFault(tree), code)
	size := int64(len(tree.Nodes))
	if code == impl.OK {
		expectNodes(t, what, tree)
		code = impl.ErrRange
	} else {
		expectInt(t, what+": TipOf", impl.TipOf(tree), code, 0)
		for _, b := range []impl.Block{{}, {Prev: 1, Time: 1, Bits: easyBits, Txs: []impl.Tx{baseTx(1)}}, mined(impl.Block{Time: 1, Bits: easyBits, Txs: []impl.Tx{baseTx(1, 50)}})} {
			expectAdded(t, what+": AddBlock", impl.AddBlock(tree, b), impl.TreeResult{Code: code})
		}
		for node := int64(-1); node < size && node < 10; node++ {
			expectNoNode(t, what, tree, node, code)
		}
	}
	for _, node := range []int64{math.MinInt64, -1 << 32, -3, -2, size, size + 1, 1 << 32, math.MaxInt64 - 1, math.MaxInt64} {
		expectNoNode(t, what, tree, node, code)
	}
}

func expectNoNode(t *testing.T, what string, tree impl.Tree, node int64, code int64) {
	t.Helper()
	expectInt(t, what+": HeightOf", impl.HeightOf(tree, node), code, 0)
	expectRefused(t, what+": CoinsAt", impl.CoinsAt(tree, node), code)
	expectList(t, what+": LineOf", impl.LineOf(tree, node), code)
}

func expectNode(t *testing.T, what string, tree impl.Tree, node int64, want modelNode) {
	t.Helper()
	expectInt(t, what+": HeightOf", impl.HeightOf(tree, node), impl.OK, want.height)
	expectCoins(t, what+": CoinsAt", impl.CoinsAt(tree, node), impl.CoinsResult{Coins: want.coins})
	expectList(t, what+": LineOf", impl.LineOf(tree, node), impl.OK, want.line...)
}

func expectNodes(t *testing.T, what string, tree impl.Tree) {
	t.Helper()
	tip, greatest := int64(-1), int64(0)
	for node := int64(-1); node < int64(len(tree.Nodes)); node++ {
		want := modelAt(tree, node)
		expectNode(t, what, tree, node, want)
		if want.height > greatest {
			tip, greatest = node, want.height
		}
	}
	expectInt(t, what+": TipOf", impl.TipOf(tree), impl.OK, tip)
}

// expectAfter requires the code of a block after a node, from the function that adds it and from the tree that has it.
func expectAfter(t *testing.T, what string, tree impl.Tree, up int64, b impl.Block, code int64) {
	t.Helper()
	with := withNode(tree, up, b)
	expectCode(t, what+": the model", modelTreeFault(with), code)
	expectTree(t, what, with, code)
	if code != impl.OK {
		expectAdded(t, what+": AddBlock", impl.AddBlock(tree, b), impl.TreeResult{Code: code})
		return
	}
	expectAdded(t, what+": AddBlock", impl.AddBlock(tree, b), impl.TreeResult{Value: int64(len(tree.Nodes)), Tree: with})
}

func TestConstantsOfChapter6(t *testing.T) {
	if got := [3]int64{impl.MaxTxs, impl.MaxNodes, impl.MaxTime}; got != [3]int64{4, 8, 99999} {
		t.Errorf("got %v", got)
	}
}

// plainBlock has a base and three other transactions, valid in form.
func plainBlock(changes ...func(*impl.Block)) impl.Block {
	b := impl.Block{Prev: 7, Time: 5, Bits: easyBits, Nonce: 3, Txs: []impl.Tx{baseTx(1, 50), inTx(7, 0, 5), inTx(7, 1, 5), inTx(7, 2, 5)}}
	for _, change := range changes {
		change(&b)
	}
	return b
}

func TestBlockFaultOfNumbers(t *testing.T) {
	for _, c := range []struct {
		what      string
		good, bad []int64
		set       func(b *impl.Block, n int64)
	}{
		{"Prev", []int64{0, 1, 2147483645, 2147483646}, []int64{-1, 2147483647, 2147483648}, func(b *impl.Block, n int64) { b.Prev = n }},
		{"Time", []int64{1, 2, 99998, 99999}, []int64{-1, 0, 100000, 100001}, func(b *impl.Block, n int64) { b.Time = n }},
		{"Bits", []int64{1, 255, 257, 511, 513, 767, 769, 1023}, []int64{-1, 0, 256, 512, 768, 1024, 1025, -255}, func(b *impl.Block, n int64) { b.Bits = n }},
		{"Nonce", []int64{0, 1, 65534, 65535}, []int64{-1, 65536, 65537}, func(b *impl.Block, n int64) { b.Nonce = n }},
	} {
		for _, n := range c.good {
			expectBlock(t, c.what, plainBlock(func(b *impl.Block) { c.set(b, n) }), impl.OK)
		}
		for _, n := range append(c.bad, math.MinInt64, 1<<32, 1<<32+5, math.MaxInt64) {
			expectBlock(t, c.what, plainBlock(func(b *impl.Block) { c.set(b, n) }), impl.ErrRange)
		}
	}
}

func TestBlockFaultOfSizes(t *testing.T) {
	for _, size := range []int{1, 2, 3, 4} {
		expectBlock(t, "some transactions", plainBlock(func(b *impl.Block) { b.Txs = b.Txs[:size] }), impl.OK)
	}
	for _, none := range [][]impl.Tx{nil, {}} {
		expectBlock(t, "no transactions", plainBlock(func(b *impl.Block) { b.Txs = none }), impl.ErrMany)
	}
	expectBlock(t, "5 transactions", plainBlock(func(b *impl.Block) { b.Txs = append(b.Txs, inTx(7, 3)) }), impl.ErrMany)
	for _, size := range []int{5, 6, 8, 9, 5000} {
		expectBlock(t, "malformed transactions", plainBlock(func(b *impl.Block) { b.Txs = make([]impl.Tx, size) }), impl.ErrMany)
	}
	expectBlock(t, "the greatest transactions", plainBlock(func(b *impl.Block) {
		b.Txs = []impl.Tx{baseTx(65535, 1000000), greatestTx(), greatestTx(), greatestTx()}
		b.Txs[2].Note, b.Txs[3].Note = 1, 2
	}), impl.OK)
}

// Exactly the first transaction is a base.
func TestBlockFaultOfBases(t *testing.T) {
	base, other := baseTx(1, 50), baseTx(2, 50)
	x, y, z := inTx(7, 0), inTx(7, 1), inTx(7, 2)
	for _, c := range []struct {
		what string
		code int64
		txs  []impl.Tx
	}{
		{"a base alone", impl.OK, []impl.Tx{base}},
		{"a base first of two", impl.OK, []impl.Tx{base, x}},
		{"a base first of four", impl.OK, []impl.Tx{base, x, y, z}},
		{"no base", impl.ErrForm, []impl.Tx{x}},
		{"no base of four", impl.ErrForm, []impl.Tx{x, y, z, inTx(7, 3)}},
		{"a base second", impl.ErrForm, []impl.Tx{x, base}},
		{"a base third", impl.ErrForm, []impl.Tx{x, y, base}},
		{"a base fourth", impl.ErrForm, []impl.Tx{x, y, z, base}},
		{"two bases", impl.ErrForm, []impl.Tx{base, other}},
		{"the same base twice", impl.ErrForm, []impl.Tx{base, base}},
		{"two bases of three", impl.ErrForm, []impl.Tx{base, x, other}},
		{"two bases of four", impl.ErrForm, []impl.Tx{base, x, y, other}},
		{"four bases", impl.ErrForm, []impl.Tx{base, other, base, other}},
	} {
		expectBlock(t, c.what, plainBlock(func(b *impl.Block) { b.Txs = c.txs }), c.code)
	}
}

// equalSums returns a base and another transaction that have the same sum.
// The numbers are a solution of that equation, found by trying.
func equalSums(t *testing.T) (impl.Tx, impl.Tx) {
	t.Helper()
	base := baseTx(1, 50)
	x := inTx(857155, 0)
	x.Outs[0].Lock = program(pushed(79), pushed(4))
	if impl.TxSum(base) != impl.TxSum(x) {
		t.Fatalf("the sums of %v and %v are not equal", base, x)
	}
	return base, x
}

// Transactions with equal sums are a fault where their sums are joined, and no fault of the block elsewhere.
func TestBlockFaultOfTwins(t *testing.T) {
	base, same := equalSums(t)
	x, y := inTx(7, 0), inTx(7, 1)
	for _, c := range []struct {
		what string
		code int64
		txs  []impl.Tx
	}{
		{"equal at the end of four", impl.ErrTaken, []impl.Tx{base, x, y, y}},
		{"equal but for their proofs", impl.ErrTaken, []impl.Tx{base, x, y, inTx(7, 1, 5, 6)}},
		{"equal ones that are not joined", impl.OK, []impl.Tx{base, x, x, y}},
		{"equal ones that are far apart", impl.OK, []impl.Tx{base, x, y, x}},
		{"an equal last one of three", impl.OK, []impl.Tx{base, x, x}},
		{"three equal ones", impl.ErrTaken, []impl.Tx{base, x, x, x}},
		{"a sum as that of the base", impl.ErrTaken, []impl.Tx{base, same}},
		{"a sum as that of the base of three", impl.ErrTaken, []impl.Tx{base, same, x}},
		{"a sum as that of the base of four", impl.ErrTaken, []impl.Tx{base, same, x, y}},
		{"a sum as that of the base, not joined", impl.OK, []impl.Tx{base, x, same}},
		{"two equal joins", impl.ErrTaken, []impl.Tx{base, x, same, x}},
		{"the same base again", impl.ErrForm, []impl.Tx{base, x, base, x}},
	} {
		expectBlock(t, c.what, plainBlock(func(b *impl.Block) { b.Txs = c.txs }), c.code)
	}
}

// A blockChange makes plainBlock malformed.
type blockChange struct {
	what string
	code int64
	make func(*impl.Block)
}

// blockFaultsInOrder lists changes in the order in which the contract of BlockFault checks for them.
func blockFaultsInOrder() []blockChange {
	return []blockChange{
		{"Prev", impl.ErrRange, func(b *impl.Block) { b.Prev = -1 }},
		{"Time", impl.ErrRange, func(b *impl.Block) { b.Time = 100000 }},
		{"Bits", impl.ErrRange, func(b *impl.Block) { b.Bits = 256 }},
		{"Nonce", impl.ErrRange, func(b *impl.Block) { b.Nonce = 65536 }},
		{"5 transactions", impl.ErrMany, func(b *impl.Block) { b.Txs = append(b.Txs, b.Txs[3]) }},
		{"first Note", impl.ErrRange, func(b *impl.Block) { b.Txs[0].Note = 65536 }},
		{"first without outputs", impl.ErrMany, func(b *impl.Block) { b.Txs[0].Outs = nil }},
		{"first Values", impl.ErrMoney, func(b *impl.Block) { b.Txs[0].Outs = baseTx(1, impl.MaxMoney, 1).Outs }},
		{"second Tx", impl.ErrRange, func(b *impl.Block) { b.Txs[1].Ins[0].Tx = -1 }},
		{"second Lock", impl.ErrForm, func(b *impl.Block) { b.Txs[1].Outs[0].Lock = []int64{0} }},
		{"fourth Proof", impl.ErrMany, func(b *impl.Block) { b.Txs[3].Ins[0].Proof = repeatInt(1, 9) }},
		{"fourth Value", impl.ErrRange, func(b *impl.Block) { b.Txs[3].Outs[0].Value = -1 }},
		{"first no base", impl.ErrForm, func(b *impl.Block) { b.Txs[0].Ins = []impl.In{{}} }},
		{"third a base", impl.ErrForm, func(b *impl.Block) { b.Txs[2].Ins = nil }},
		{"twins", impl.ErrTaken, func(b *impl.Block) { b.Txs[2] = cloneTx(b.Txs[3]) }},
	}
}

func TestBlockFaultOrderOfCodes(t *testing.T) {
	expectBlock(t, "no change", plainBlock(), impl.OK)
	faults := blockFaultsInOrder()
	for i, first := range faults {
		expectBlock(t, first.what, plainBlock(first.make), first.code)
		for _, later := range faults[i+1:] {
			expectBlock(t, first.what+" and "+later.what, plainBlock(later.make, first.make), first.code)
		}
	}
}

// The roots and the sum of the header, written out.
func TestBlockRoot(t *testing.T) {
	b := plainBlock()
	s := sumsOf(b)
	for size, root := range map[int]int64{
		1: s[0],
		2: joinOf(s[0], s[1]),
		3: joinOf(joinOf(s[0], s[1]), joinOf(s[2], s[2])),
		4: joinOf(joinOf(s[0], s[1]), joinOf(s[2], s[3])),
	} {
		b.Txs = plainBlock().Txs[:size]
		expectInt(t, "BlockRoot", impl.BlockRoot(b), impl.OK, root)
		expectInt(t, "HeaderSum", impl.HeaderSum(b), impl.OK, sumOfInts(7, root, 5, 1023, 3))
	}
	greatest := impl.Block{Prev: 2147483646, Time: 99999, Bits: 1, Nonce: 65535, Txs: []impl.Tx{baseTx(65535, impl.MaxMoney)}}
	expectInt(t, "the greatest numbers", impl.HeaderSum(greatest), impl.OK, sumOfInts(2147483646, impl.TxSum(greatest.Txs[0]).Value, 99999, 1, 65535))
}

// The sum of a header depends on everything except the proofs, the root on the transactions alone.
func TestHeaderSumOfChanges(t *testing.T) {
	b := plainBlock()
	root, sum := impl.BlockRoot(b), impl.HeaderSum(b)
	for _, change := range []func(*impl.Block){
		func(b *impl.Block) { b.Prev++ }, func(b *impl.Block) { b.Time++ }, func(b *impl.Block) { b.Bits-- }, func(b *impl.Block) { b.Nonce++ },
	} {
		if other := plainBlock(change); impl.BlockRoot(other) != root || impl.HeaderSum(other) == sum {
			t.Errorf("the root of %v changes or its sum does not", other)
		}
	}
	for _, change := range []func(*impl.Block){
		func(b *impl.Block) { b.Txs[0].Note++ }, func(b *impl.Block) { b.Txs[3].Ins[0].Tx++ }, func(b *impl.Block) { b.Txs = b.Txs[:3] },
		func(b *impl.Block) { b.Txs[1], b.Txs[2] = b.Txs[2], b.Txs[1] }, func(b *impl.Block) { b.Txs[2].Outs[0].Value++ },
	} {
		if other := plainBlock(change); impl.BlockRoot(other) == root || impl.HeaderSum(other) == sum {
			t.Errorf("the root of %v does not change", other)
		}
	}
	if other := plainBlock(func(b *impl.Block) { b.Txs[1].Ins[0].Proof = []int64{6, 7} }); impl.BlockRoot(other) != root || impl.HeaderSum(other) != sum {
		t.Error("the root depends on a proof")
	}
}

func TestSubsidyAt(t *testing.T) {
	want := int64(50)
	for height := int64(1); height <= 9999; height++ {
		if height > 1 && height%10 == 1 {
			want /= 2
		}
		expectInt(t, "SubsidyAt", impl.SubsidyAt(height), impl.OK, want)
	}
	for height, value := range map[int64]int64{1: 50, 10: 50, 11: 25, 20: 25, 21: 12, 30: 12, 31: 6, 41: 3, 50: 3, 51: 1, 60: 1, 61: 0, 641: 0, 651: 0, 9999: 0} {
		expectInt(t, "SubsidyAt", impl.SubsidyAt(height), impl.OK, value)
	}
	for _, height := range []int64{math.MinInt64, -10, -1, 0, 10000, 10001, 1 << 32, 1<<32 + 1, math.MaxInt64} {
		expectInt(t, "SubsidyAt", impl.SubsidyAt(height), impl.ErrRange, 0)
	}
}

func TestTreeFaultOfBits(t *testing.T) {
	for _, bits := range wellFormedBits() {
		for _, nodes := range [][]impl.Node{nil, {}} {
			expectTree(t, "an empty tree", impl.Tree{Bits: bits, Nodes: nodes}, impl.OK)
		}
	}
	for _, bits := range []int64{math.MinInt64, -255, -1, 0, 256, 512, 768, 1024, 1025, 1279, 1<<32 + 1, math.MaxInt64} {
		expectTree(t, "malformed Bits", impl.Tree{Bits: bits}, impl.ErrRange)
		expectTree(t, "malformed Bits", impl.Tree{Bits: bits, Nodes: lineTree(1).Nodes}, impl.ErrRange)
		expectTree(t, "malformed Bits of 9 nodes", impl.Tree{Bits: bits, Nodes: make([]impl.Node, 9)}, impl.ErrRange)
	}
}

// The beginning is a node of height 0 without coins, and the tip of an empty tree.
func TestEmptyTree(t *testing.T) {
	for _, tree := range []impl.Tree{{Bits: easyBits}, {Bits: 1, Nodes: []impl.Node{}}} {
		expectInt(t, "TipOf", impl.TipOf(tree), impl.OK, -1)
		expectNode(t, "the beginning", tree, -1, modelNode{})
		for _, node := range []int64{-2, 0, 1} {
			expectNoNode(t, "no node", tree, node, impl.ErrRange)
		}
	}
	tree := lineTree(3)
	expectNode(t, "the beginning of a line", tree, -1, modelNode{})
	for _, node := range []int64{-2, 3, 4} {
		expectNoNode(t, "no node of a line", tree, node, impl.ErrRange)
	}
}

// Just 8 nodes, in a line and side by side, and 9.
func TestTreeFaultOfSizes(t *testing.T) {
	for size := range 9 {
		expectTree(t, "a line", lineTree(size), impl.OK)
		expectTree(t, "side by side", treeOf(repeatInt(-1, size)...), impl.OK)
	}
	for _, nine := range []impl.Tree{lineTree(9), treeOf(repeatInt(-1, 9)...)} {
		expectTree(t, "9 nodes", nine, impl.ErrMany)
		eight := impl.Tree{Bits: easyBits, Nodes: nine.Nodes[:8]}
		expectAdded(t, "a block after 8 nodes", impl.AddBlock(eight, nine.Nodes[8].Block), impl.TreeResult{Code: impl.ErrMany})
		expectTree(t, "8 of the nodes", eight, impl.OK)
	}
	for _, size := range []int{9, 10, 200, 5000} {
		expectTree(t, "malformed nodes", impl.Tree{Bits: easyBits, Nodes: make([]impl.Node, size)}, impl.ErrMany)
	}
	expectTree(t, "8 malformed nodes", impl.Tree{Bits: easyBits, Nodes: make([]impl.Node, 8)}, impl.ErrRange)
}

// AddBlock with 8 nodes: an unknown Prev comes before, the code of the block after its node comes behind.
func TestAddBlockOfFullTrees(t *testing.T) {
	tree := lineTree(8)
	for node := int64(-1); node < 8; node++ {
		b := mined(nextBlock(tree, node, baseTx(node+2, 50)))
		expectAdded(t, "8 nodes", impl.AddBlock(tree, b), impl.TreeResult{Code: impl.ErrMany})
		b.Bits--
		expectAdded(t, "8 nodes and other Bits", impl.AddBlock(tree, b), impl.TreeResult{Code: impl.ErrMany})
		b.Prev++
		expectAdded(t, "8 nodes and another Prev", impl.AddBlock(tree, b), impl.TreeResult{Code: impl.ErrNone})
	}
	for _, n := range tree.Nodes {
		expectAdded(t, "8 nodes and one of them", impl.AddBlock(tree, n.Block), impl.TreeResult{Code: impl.ErrMany})
	}
}

// Up is an earlier node or the beginning, and Prev is its sum.
func TestTreeFaultOfUp(t *testing.T) {
	tree := treeOf(-1, 0, 0, 2)
	for at, n := range tree.Nodes {
		part := impl.Tree{Bits: easyBits, Nodes: tree.Nodes[:at]}
		for _, up := range []int64{math.MinInt64, -1 << 32, -3, -2, -1, 0, 1, 2, 3, 4, 5, 1 << 32, math.MaxInt64} {
			want := int64(impl.ErrNone)
			if up == n.Up {
				want = impl.OK
			}
			expectTree(t, "an Up", withNode(part, up, n.Block), want)
			expectTree(t, "an Up before other nodes", changedNode(tree, at, func(n *impl.Node) { n.Up = up }), want)
		}
	}
	// a block after the beginning has the Prev of no node
	first := mined(nextBlock(tree, -1, baseTx(1, 50)))
	expectTree(t, "the own index", withNode(tree, 4, first), impl.ErrNone)
	expectTree(t, "the beginning", withNode(tree, -1, first), impl.OK)
	for node := range int64(4) {
		expectTree(t, "Prev of the beginning", withNode(tree, node, first), impl.ErrNone)
		after := mined(nextBlock(tree, node, baseTx(modelAt(tree, node).height+1, 50)))
		expectTree(t, "Prev of a node", withNode(tree, node, after), impl.OK)
		expectTree(t, "Prev of a node, Up of the beginning", withNode(tree, -1, after), impl.ErrNone)
	}
}

func changedNode(tree impl.Tree, at int, changes ...func(*impl.Node)) impl.Tree {
	tree = cloneTree(tree)
	for _, change := range changes {
		change(&tree.Nodes[at])
	}
	return tree
}

// Prev is 0 or the sum of an earlier node; its node is found wherever it is.
func TestAddBlockOfPrev(t *testing.T) {
	tree := treeOf(-1, -1, 1, 0, 2)
	for node := int64(-1); node < 5; node++ {
		b := mined(nextBlock(tree, node, baseTx(modelAt(tree, node).height+1, 50)))
		expectAfter(t, "a Prev", tree, node, b, impl.OK)
	}
	known := []int64{0}
	for _, n := range tree.Nodes {
		known = append(known, modelHeader(n.Block))
	}
	for _, prev := range append([]int64{1, 2, impl.MaxSum, modelRoot(tree.Nodes[0].Block)}, known...) {
		for _, next := range []int64{prev - 1, prev, prev + 1} {
			if next < 0 || next > impl.MaxSum || slices.Contains(known, next) {
				continue
			}
			b := nextBlock(tree, -1, baseTx(1, 50))
			b.Prev = next
			expectAdded(t, "an unknown Prev", impl.AddBlock(tree, mined(b)), impl.TreeResult{Code: impl.ErrNone})
			expectAdded(t, "an unknown Prev without proof", impl.AddBlock(tree, tried(b, false)), impl.TreeResult{Code: impl.ErrNone})
			expectAdded(t, "an unknown Prev in an empty tree", impl.AddBlock(impl.Tree{Bits: 1}, b), impl.TreeResult{Code: impl.ErrNone})
			expectTree(t, "an unknown Prev", withNode(tree, -1, mined(b)), impl.ErrNone)
		}
	}
	// a later node is no earlier one
	swapped := cloneTree(tree)
	swapped.Nodes[1], swapped.Nodes[2] = swapped.Nodes[2], swapped.Nodes[1]
	expectTree(t, "a node before its own", swapped, impl.ErrNone)
	swapped.Nodes[1].Up = 2
	expectTree(t, "a node after a later one", swapped, impl.ErrNone)
}

// Time is greater than that of the node before: equal, one more, and the bounds.
func TestTimeAfterNode(t *testing.T) {
	late := func(times ...int64) impl.Tree {
		tree := impl.Tree{Bits: easyBits}
		for i, time := range times {
			b := nextBlock(tree, int64(i)-1, baseTx(int64(i)+1, 50))
			b.Time = time
			tree = withNode(tree, int64(i)-1, minedAt(b))
		}
		return tree
	}
	for _, c := range []struct {
		tree impl.Tree
		code map[int64]int64
	}{
		{late(), map[int64]int64{0: impl.ErrRange, 1: impl.OK, 2: impl.OK, 99999: impl.OK, 100000: impl.ErrRange}},
		{late(1), map[int64]int64{0: impl.ErrRange, 1: impl.ErrState, 2: impl.OK, 3: impl.OK}},
		{late(500), map[int64]int64{1: impl.ErrState, 499: impl.ErrState, 500: impl.ErrState, 501: impl.OK, 502: impl.OK, 99999: impl.OK, 100000: impl.ErrRange}},
		{late(500, 501), map[int64]int64{500: impl.ErrState, 501: impl.ErrState, 502: impl.OK}},
		{late(500, 99998), map[int64]int64{501: impl.ErrState, 99997: impl.ErrState, 99998: impl.ErrState, 99999: impl.OK, 100000: impl.ErrRange}},
		{late(99999), map[int64]int64{1: impl.ErrState, 99998: impl.ErrState, 99999: impl.ErrState, 100000: impl.ErrRange}},
	} {
		up := int64(len(c.tree.Nodes)) - 1
		expectTree(t, "a line", c.tree, impl.OK)
		for time, code := range c.code {
			b := nextBlock(c.tree, up, baseTx(up+2, 50))
			b.Time = time
			expectAfter(t, "a Time", c.tree, up, minedAt(b), code)
		}
	}
	// only the own line counts
	tree := late(500)
	b := nextBlock(tree, -1, baseTx(1, 50))
	b.Time = 3
	expectAfter(t, "a Time less than that of a node beside it", tree, -1, minedAt(b), impl.OK)
}

// Bits are those of the tree, also where others are easier or harder to prove.
func TestBitsOfTree(t *testing.T) {
	for _, bits := range []int64{1023, 1022, 1000, 900} {
		tree := impl.Tree{Bits: bits}
		for _, other := range []int64{bits, bits - 1, bits - 256, 1, 255, 1023} {
			b := nextBlock(tree, -1, baseTx(1, 50))
			b.Bits = other
			if other != bits {
				expectAfter(t, "other Bits", tree, -1, mined(b), impl.ErrState)
				expectAfter(t, "other Bits without proof", tree, -1, tried(b, false), impl.ErrState)
				continue
			}
			expectAfter(t, "the Bits", tree, -1, mined(b), impl.OK)
		}
	}
	for _, bits := range []int64{1022, 1, 767, 513} {
		expectTree(t, "a tree with Bits of none of its nodes", impl.Tree{Bits: bits, Nodes: lineTree(2).Nodes}, impl.ErrState)
	}
}

// A sum that is just the target is a proof, and one more is none.
func TestTargetOfHeaderSum(t *testing.T) {
	for _, bits := range []int64{1023, 589, 255, 1} {
		tree, target := impl.Tree{Bits: bits}, modelTarget(bits)
		b := nextBlock(tree, -1, baseTx(1, 50))
		equal := withSum(t, b, target)
		expectAfter(t, "just the target", tree, -1, equal, impl.OK)
		expectAfter(t, "one more", tree, -1, withSum(t, b, target+1), impl.ErrProof)
		with := withNode(tree, -1, equal)
		b.Time++
		expectAfter(t, "just the target again", with, -1, withSum(t, b, target), impl.ErrTaken)
		if target > 1 {
			expectAfter(t, "one less", with, -1, withSum(t, b, target-1), impl.OK)
		}
	}
	tree := lineTree(2)
	b := nextBlock(tree, 1, baseTx(3, 50))
	expectAfter(t, "just the target after a node", tree, 1, withSum(t, b, 536870911), impl.OK)
	expectAfter(t, "one more after a node", tree, 1, withSum(t, b, 536870912), impl.ErrProof)
	expectAfter(t, "the greatest sum", tree, 1, withSum(t, b, impl.MaxSum), impl.ErrProof)
	expectAfter(t, "the least sum", tree, 1, withSum(t, b, 1), impl.OK)
	for time := range int64(40) {
		b.Time++
		code := int64(impl.OK)
		if modelHeader(b) > 536870911 {
			code = impl.ErrProof
		}
		expectAfter(t, "any sum", tree, 1, b, code)
		b.Nonce = 1000 * time
	}
}

// The first and the last Nonce, and those beyond them.
func TestNonceBounds(t *testing.T) {
	tree := impl.Tree{Bits: easyBits}
	for _, nonce := range []int64{0, 1, 65534, 65535} {
		b := nextBlock(tree, -1, baseTx(1, 50))
		b.Nonce = nonce
		b = mined(b)
		expectAfter(t, "a Nonce", tree, -1, b, impl.OK)
		for _, other := range []int64{-1, 65536} {
			b.Nonce = other
			expectAfter(t, "a Nonce out of range", tree, -1, b, impl.ErrRange)
		}
	}
}

// The Note of a base is the height of its own line.
func TestNoteOfBase(t *testing.T) {
	tree := treeOf(-1, 0, 1, -1)
	for node := int64(-1); node < 4; node++ {
		height := modelAt(tree, node).height + 1
		for _, note := range []int64{0, 1, 2, 3, 4, 5, 255, 65535} {
			code := int64(impl.ErrForm)
			if note == height {
				code = impl.OK
			}
			expectAfter(t, "a Note", tree, node, mined(nextBlock(tree, node, baseTx(note, 50))), code)
			if code != impl.OK {
				expectAfter(t, "a Note and too much money", tree, node, mined(nextBlock(tree, node, baseTx(note, 51))), code)
			}
		}
	}
	// the Notes of other transactions are free
	tree = lineTree(2)
	x := payTx(tree, 1, coinOf(tree, 0, 0), 50)
	for _, note := range []int64{0, 3, 65535} {
		x.Note = note
		expectAfter(t, "another Note", tree, 1, mined(nextBlock(tree, 1, baseTx(3, 50), signed(modelAt(tree, 1).coins, x))), impl.OK)
	}
}

// payingTree has coins of 50 at the nodes 0 and 1, which are mature for a block after node 2, and one that is not.
func payingTree() impl.Tree {
	return lineTree(3)
}

// The Outs of a base are at most the subsidy plus all fees.
func TestMoneyOfBase(t *testing.T) {
	tree := payingTree()
	first, second := coinOf(tree, 0, 0), coinOf(tree, 1, 0)
	pay := func(coin impl.Coin, values ...int64) impl.Tx { return payTx(tree, 2, coin, values...) }
	for _, c := range []struct {
		what string
		most int64
		txs  []impl.Tx
	}{
		{"no fees", 50, nil},
		{"a fee of 0", 50, []impl.Tx{pay(first, 50)}},
		{"a fee of 1", 51, []impl.Tx{pay(first, 49)}},
		{"a fee of 50", 100, []impl.Tx{pay(first, 0)}},
		{"two fees", 57, []impl.Tx{pay(first, 47), pay(second, 46)}},
		{"two fees in another order", 57, []impl.Tx{pay(second, 46), pay(first, 20, 27)}},
		{"two greatest fees", 150, []impl.Tx{pay(second, 0), pay(first, 0, 0)}},
	} {
		add := func(values ...int64) impl.Block {
			return mined(nextBlock(tree, 2, append([]impl.Tx{baseTx(4, values...)}, c.txs...)...))
		}
		for _, values := range [][]int64{{c.most}, {c.most - 1}, {0}, {c.most - 9, 9}, {0, c.most, 0}, {1, 2, 3, c.most - 6}} {
			expectAfter(t, c.what, tree, 2, add(values...), impl.OK)
		}
		for _, values := range [][]int64{{c.most + 1}, {c.most - 9, 10}, {0, c.most, 1}, {1, 2, 3, c.most - 5}, {1000}, {999000}} {
			expectAfter(t, c.what+" and too much", tree, 2, add(values...), impl.ErrMoney)
		}
		expectAfter(t, c.what+" and more money than there may be", tree, 2, add(impl.MaxMoney), impl.ErrMoney)
	}
	for _, value := range []int64{51, 100, 999999, impl.MaxMoney} {
		empty := impl.Tree{Bits: easyBits}
		expectAfter(t, "too much after the beginning", empty, -1, mined(nextBlock(empty, -1, baseTx(1, value))), impl.ErrMoney)
	}
	// what one block leaves, the next one may not take
	poor := grow(impl.Tree{Bits: easyBits}, -1, baseTx(1, 0))
	expectAfter(t, "the rest of another subsidy", poor, 0, mined(nextBlock(poor, 0, baseTx(2, 51))), impl.ErrMoney)
}

// A transaction spends what an earlier one of its block makes, but not what its base makes.
func TestTransactionsInOrder(t *testing.T) {
	tree := payingTree()
	coins := modelAt(tree, 2).coins
	x := payTx(tree, 2, coinOf(tree, 0, 0), 30, 15)
	after := modelApply(coins, x, 4).Coins
	y := signed(after, impl.Tx{Ins: []impl.In{{Tx: impl.TxSum(x).Value, Out: 1}, {Tx: impl.TxSum(x).Value}}, Outs: []impl.Out{{Value: 40}}})
	expectAfter(t, "in order", tree, 2, mined(nextBlock(tree, 2, baseTx(4, 60), x, y)), impl.OK)
	expectAfter(t, "in order, one more", tree, 2, mined(nextBlock(tree, 2, baseTx(4, 61), x, y)), impl.ErrMoney)
	expectAfter(t, "in another order", tree, 2, mined(nextBlock(tree, 2, baseTx(4, 60), y, x)), impl.ErrNone)
	expectAfter(t, "without the first one", tree, 2, mined(nextBlock(tree, 2, baseTx(4, 50), y)), impl.ErrNone)
	expectAfter(t, "twice", tree, 2, mined(nextBlock(tree, 2, baseTx(4, 50), x, x)), impl.ErrNone)
	base := baseTx(4, 50)
	made := modelApply(coins, base, 4).Coins
	z := signed(made, impl.Tx{Ins: []impl.In{{Tx: impl.TxSum(base).Value}}, Outs: []impl.Out{{Value: 50}}})
	expectAfter(t, "what the base makes", tree, 2, mined(nextBlock(tree, 2, base, z)), impl.ErrState)
}

// The codes of ApplyTx, transaction by transaction, come before the money of the base.
func TestCodesOfTransactions(t *testing.T) {
	tree := payingTree()
	missing, immature := inTx(7, 0), payTx(tree, 2, coinOf(tree, 2, 0), 50)
	locked, rich := payTx(tree, 2, coinOf(tree, 0, 0), 50), payTx(tree, 2, coinOf(tree, 0, 0), 51)
	locked.Ins[0].Proof = nil
	good := payTx(tree, 2, coinOf(tree, 1, 0), 45)
	for _, c := range []struct {
		what string
		code int64
		txs  []impl.Tx
	}{
		{"missing", impl.ErrNone, []impl.Tx{missing}},
		{"immature", impl.ErrState, []impl.Tx{immature}},
		{"locked", impl.ErrProof, []impl.Tx{locked}},
		{"outputs that exceed the coins", impl.ErrMoney, []impl.Tx{rich}},
		{"missing after a good one", impl.ErrNone, []impl.Tx{good, missing}},
		{"immature before a good one", impl.ErrState, []impl.Tx{immature, good}},
		{"missing before locked", impl.ErrNone, []impl.Tx{missing, locked}},
		{"locked before missing", impl.ErrProof, []impl.Tx{locked, good, missing}},
		{"immature before locked", impl.ErrState, []impl.Tx{good, immature, locked}},
		{"locked before immature", impl.ErrProof, []impl.Tx{good, locked, immature}},
		{"too rich before missing", impl.ErrMoney, []impl.Tx{rich, missing}},
	} {
		txs := func(value int64) []impl.Tx { return append([]impl.Tx{baseTx(4, value)}, c.txs...) }
		expectAfter(t, c.what, tree, 2, mined(nextBlock(tree, 2, txs(50)...)), c.code)
		expectAfter(t, c.what+" and a base of too much", tree, 2, mined(nextBlock(tree, 2, txs(500)...)), c.code)
		expectAfter(t, c.what+" and a base of far too much", tree, 2, mined(nextBlock(tree, 2, txs(impl.MaxMoney)...)), impl.ErrMoney)
		expectAfter(t, c.what+" and another height", tree, 2, mined(nextBlock(tree, 2, append([]impl.Tx{baseTx(5, 50)}, c.txs...)...)), impl.ErrForm)
		expectAfter(t, c.what+" and no proof", tree, 2, tried(nextBlock(tree, 2, txs(50)...), false), impl.ErrProof)
	}
}

// A coin of a base is spent two blocks later, once on each line that has it.
func TestSpentOnLines(t *testing.T) {
	tree := treeOf(-1, 0, 1, 1)
	x := payTx(tree, 1, coinOf(tree, 0, 0), 50)
	expectAfter(t, "immature", tree, 0, mined(nextBlock(tree, 0, baseTx(2, 50), x)), impl.ErrState)
	expectAfter(t, "mature", tree, 1, mined(nextBlock(tree, 1, baseTx(3, 50), x)), impl.OK)
	tree = grow(tree, 2, baseTx(4, 50), x)
	expectAfter(t, "spent again", tree, 4, mined(nextBlock(tree, 4, baseTx(5, 50), x)), impl.ErrNone)
	tree = grow(tree, 3, baseTx(4, 50), x)
	expectAfter(t, "spent again on another line", tree, 5, mined(nextBlock(tree, 5, baseTx(5, 50), x)), impl.ErrNone)
	expectAfter(t, "not spent there", tree, 2, mined(nextBlock(tree, 2, baseTx(4, 50), x)), impl.OK)
	expectAfter(t, "without that coin", tree, -1, mined(nextBlock(tree, -1, baseTx(1, 49), x)), impl.ErrNone)
	expectAfter(t, "after the same base", tree, -1, mined(nextBlock(tree, -1, baseTx(1, 50), x)), impl.ErrState)
}

// A line has just 40 coins, and 41.
func TestCoinsOfLine(t *testing.T) {
	tree := impl.Tree{Bits: easyBits}
	for height := int64(1); height <= 4; height++ {
		txs := []impl.Tx{baseTx(height, 12, 12, 13, 13)}
		for i := int64(0); height > 2 && i < 3; i++ {
			txs = append(txs, payTx(tree, height-2, coinOf(tree, height-3, i), 1, 2, 3, 4))
		}
		tree = grow(tree, height-2, txs...)
	}
	if size := len(modelAt(tree, 3).coins); size != 34 {
		t.Fatalf("%d coins", size)
	}
	x, y := payTx(tree, 3, coinOf(tree, 2, 0), 1, 2, 3, 4), payTx(tree, 3, coinOf(tree, 2, 1), 4, 8)
	expectAfter(t, "40 coins", tree, 3, mined(nextBlock(tree, 3, baseTx(5, 1, 2, 3), x)), impl.OK)
	expectAfter(t, "41 coins", tree, 3, mined(nextBlock(tree, 3, baseTx(5, 1, 2, 3, 4), x)), impl.ErrMany)
	expectAfter(t, "40 coins after three", tree, 3, mined(nextBlock(tree, 3, baseTx(5, 1, 2), x, y)), impl.OK)
	expectAfter(t, "41 coins after three", tree, 3, mined(nextBlock(tree, 3, baseTx(5, 1, 2, 3), x, y)), impl.ErrMany)
	expectAfter(t, "41 coins and too much money", tree, 3, mined(nextBlock(tree, 3, baseTx(5, 90, 2, 3), x, y)), impl.ErrMany)
}

// A block whose sum is 0, or that of an earlier node, is refused wherever it would be.
func TestTakenHeaderSums(t *testing.T) {
	tree := treeOf(-1, 0, 1, 0)
	taken := []int64{0}
	for _, n := range tree.Nodes {
		taken = append(taken, modelHeader(n.Block))
	}
	for node := int64(-1); node < 4; node++ {
		b := nextBlock(tree, node, baseTx(modelAt(tree, node).height+1, 50))
		for _, sum := range taken {
			same := withSum(t, b, sum)
			expectAfter(t, "a sum that is taken", tree, node, same, impl.ErrTaken)
			same.Nonce++
			expectAfter(t, "the next sum", tree, node, same, impl.OK)
		}
	}
	for _, n := range tree.Nodes {
		expectAfter(t, "a node again", tree, n.Up, n.Block, impl.ErrTaken)
		with := grow(tree, 2, baseTx(4, 50))
		expectAfter(t, "a node again after others", with, n.Up, n.Block, impl.ErrTaken)
	}
	empty := impl.Tree{Bits: easyBits}
	expectAfter(t, "0 after the beginning", empty, -1, withSum(t, nextBlock(empty, -1, baseTx(1, 50)), 0), impl.ErrTaken)
	// a sum that is taken later is not taken yet
	later := grow(tree, -1, baseTx(1, 50))
	expectAfter(t, "the sum of no node", tree, -1, later.Nodes[4].Block, impl.OK)
}

// The proofs of a transaction are not in the sum of its header, so a block with others is the same one.
func TestTakenByOtherProofs(t *testing.T) {
	tree := payingTree()
	x := payTx(tree, 2, coinOf(tree, 0, 0), 50)
	with := grow(tree, 2, baseTx(4, 50), x)
	other := cloneBlock(with.Nodes[3].Block)
	other.Txs[1].Ins[0].Proof = append([]int64{9}, other.Txs[1].Ins[0].Proof...)
	expectAfter(t, "another proof", tree, 2, other, impl.OK)
	expectAfter(t, "another proof again", with, 2, other, impl.ErrTaken)
	other.Txs[1].Ins[0].Proof[1]++
	expectAfter(t, "a proof that opens nothing", with, 2, other, impl.ErrProof)
}

// adding has what AddBlock is given, and how the header of the block is completed.
type adding struct {
	tree     impl.Tree
	block    impl.Block
	unproven bool
	taken    bool
}

type addingChange struct {
	what string
	code int64
	make func(a *adding)
}

// newAdding has a block after node 2 that is valid if nothing is changed.
func newAdding(t *testing.T, changes ...func(*adding)) adding {
	tree := payingTree()
	pay := func(node int64) impl.Tx { return payTx(tree, 2, coinOf(tree, node, 0), 45) }
	a := adding{tree: cloneTree(tree), block: nextBlock(tree, 2, baseTx(4, 60), pay(0), pay(1))}
	for _, change := range changes {
		change(&a)
	}
	switch {
	case modelBlockFault(a.block) != impl.OK:
	case a.taken:
		a.block = withSum(t, a.block, modelHeader(tree.Nodes[1].Block))
	default:
		a.block = triedAt(a.block, !a.unproven)
	}
	return a
}

// addingFaultsInOrder lists changes in the order in which the contract of AddBlock checks for them.
func addingFaultsInOrder() []addingChange {
	return []addingChange{
		{"Bits of the tree", impl.ErrRange, func(a *adding) { a.tree.Bits = 256 }},
		{"9 nodes", impl.ErrMany, func(a *adding) { a.tree.Nodes = append(a.tree.Nodes, make([]impl.Node, 6)...) }},
		{"first Nonce", impl.ErrRange, func(a *adding) { a.tree.Nodes[0].Block.Nonce = -1 }},
		{"first Up", impl.ErrNone, func(a *adding) { a.tree.Nodes[0].Up = 0 }},
		{"second without transactions", impl.ErrMany, func(a *adding) { a.tree.Nodes[1].Block.Txs = nil }},
		{"third as the second", impl.ErrTaken, func(a *adding) { a.tree.Nodes[2] = a.tree.Nodes[1] }},
		{"Time of 0", impl.ErrRange, func(a *adding) { a.block.Time = 0 }},
		{"5 transactions", impl.ErrMany, func(a *adding) { a.block.Txs = slices.Repeat(a.block.Txs, 3)[:5] }},
		{"Values of a transaction", impl.ErrMoney, func(a *adding) { a.block.Txs[2].Outs = baseTx(0, impl.MaxMoney, 1).Outs }},
		{"no base", impl.ErrForm, func(a *adding) { a.block.Txs[0].Ins = []impl.In{{Tx: 9}} }},
		{"twins", impl.ErrTaken, func(a *adding) { a.block.Txs = append(a.block.Txs, a.block.Txs[2]) }},
		{"unknown Prev", impl.ErrNone, func(a *adding) { a.block.Prev = 1 }},
		{"8 nodes", impl.ErrMany, func(a *adding) {
			for range 5 {
				a.tree = grow(a.tree, -1, baseTx(1, 50))
			}
		}},
		{"other Bits", impl.ErrState, func(a *adding) { a.block.Bits = 1022 }},
		{"equal Time", impl.ErrState, func(a *adding) { a.block.Time = a.tree.Nodes[2].Block.Time }},
		{"no proof", impl.ErrProof, func(a *adding) { a.unproven = true }},
		{"Note", impl.ErrForm, func(a *adding) { a.block.Txs[0].Note = 5 }},
		{"missing coin", impl.ErrNone, func(a *adding) { a.block.Txs[1].Ins[0].Tx = 7 }},
		{"later missing proof", impl.ErrProof, func(a *adding) { a.block.Txs[2].Ins[0].Proof = nil }},
		{"money", impl.ErrMoney, func(a *adding) { a.block.Txs[0].Outs[0].Value = 61 }},
		{"taken sum", impl.ErrTaken, func(a *adding) { a.taken = true }},
	}
}

// excluded are pairs of changes that cannot be made both.
func excluded(first string, later string) bool {
	pairs := [][2]string{{"equal Time", "taken sum"}, {"no proof", "taken sum"}}
	return slices.Contains(pairs, [2]string{first, later})
}

func TestAddBlockOrderOfCodes(t *testing.T) {
	expect := func(what string, code int64, changes ...func(*adding)) {
		t.Helper()
		a := newAdding(t, changes...)
		expectCode(t, what, impl.AddBlock(a.tree, a.block).Code, code)
		if len(a.tree.Nodes) < 8 {
			// the tree with the block looks for the same faults in the same order
			expectCode(t, what+": TreeFault", impl.TreeFault(withNode(a.tree, 2, a.block)), code)
			expectCode(t, what+": the model", modelTreeFault(withNode(a.tree, 2, a.block)), code)
		}
	}
	expect("no change", impl.OK)
	faults := addingFaultsInOrder()
	for i, first := range faults {
		expect(first.what, first.code, first.make)
		for _, later := range faults[i+1:] {
			if !excluded(first.what, later.what) {
				expect(first.what+" and "+later.what, first.code, later.make, first.make)
			}
		}
	}
}

// A nodeFault is a node that is malformed in one way.
type nodeFault struct {
	code int64
	node impl.Node
}

// faultsOfNode lists malformed nodes, in the order in which the contract of TreeFault checks for their faults.
func faultsOfNode(t *testing.T, tree impl.Tree, at int) []nodeFault {
	changed := func(code int64, change func(n *impl.Node)) nodeFault {
		return nodeFault{code, changedNode(tree, at, change).Nodes[at]}
	}
	return []nodeFault{
		changed(impl.ErrRange, func(n *impl.Node) { n.Block.Prev = -1 }),
		changed(impl.ErrMany, func(n *impl.Node) { n.Block.Txs = nil }),
		changed(impl.ErrNone, func(n *impl.Node) { n.Up = int64(at) }),
		changed(impl.ErrState, func(n *impl.Node) { n.Block.Bits = 1000 }),
		changed(impl.ErrProof, func(n *impl.Node) { n.Block = tried(n.Block, false) }),
		changed(impl.ErrForm, func(n *impl.Node) {
			n.Block.Txs[0].Note = 9
			n.Block = mined(n.Block)
		}),
		changed(impl.ErrMoney, func(n *impl.Node) {
			n.Block.Txs[0].Outs[0].Value = 51
			n.Block = mined(n.Block)
		}),
		changed(impl.ErrTaken, func(n *impl.Node) { n.Block = withSum(t, n.Block, 0) }),
	}
}

// Nodes are checked one by one: an earlier node comes first, whatever its fault is.
func TestTreeFaultOneByOne(t *testing.T) {
	tree := treeOf(-1, 0, 1, 0)
	var faults [][]nodeFault
	for at := range tree.Nodes {
		faults = append(faults, faultsOfNode(t, tree, at))
	}
	for first := range tree.Nodes {
		for _, a := range faults[first] {
			changed := cloneTree(tree)
			changed.Nodes[first] = a.node
			expectTree(t, "one fault", changed, a.code)
			for later := first + 1; later < len(tree.Nodes); later++ {
				for _, b := range faults[later] {
					changed.Nodes[later] = b.node
					expectCode(t, "two faults", impl.TreeFault(changed), a.code)
				}
			}
		}
	}
}

// The example: bases of 50 and of 49 leave 99.
func TestExampleOfChapter6(t *testing.T) {
	tree := impl.Tree{Bits: easyBits}
	first := impl.AddBlock(tree, minedAt(impl.Block{Time: 5, Bits: easyBits, Txs: []impl.Tx{baseTx(1, 50)}}))
	expectCode(t, "first", first.Code, impl.OK)
	head := impl.HeaderSum(first.Tree.Nodes[0].Block).Value
	second := impl.AddBlock(first.Tree, minedAt(impl.Block{Prev: head, Time: 6, Bits: easyBits, Txs: []impl.Tx{baseTx(2, 49)}}))
	expectCode(t, "second", second.Code, impl.OK)
	expectInt(t, "worth", impl.WorthOf(impl.CoinsAt(second.Tree, 1).Coins), impl.OK, 99)
	expectInt(t, "SubsidyAt", impl.SubsidyAt(11), impl.OK, 25)
	expectTree(t, "both", second.Tree, impl.OK)
}

// Promise 7: the tip is the first node with the greatest height, in whatever order the nodes are added.
func TestPromise7Tip(t *testing.T) {
	for _, c := range []struct {
		ups []int64
		tip int64
	}{
		{nil, -1}, {[]int64{-1}, 0}, {[]int64{-1, -1}, 0}, {[]int64{-1, -1, 1}, 2}, {[]int64{-1, -1, 0}, 2}, {[]int64{-1, 0, 0}, 1},
		{[]int64{-1, -1, 0, 1}, 2}, {[]int64{-1, -1, 1, 0}, 2}, {[]int64{-1, -1, 1, 0, 3}, 4}, {[]int64{-1, 0, 1, -1, 3, 4}, 2}, {[]int64{-1, 0, 1, -1, 3, 4, 5}, 6},
		{[]int64{-1, 0, 1, 2, 1, 1, 0, -1}, 3}, {[]int64{-1, 0, 1, 2, 3, 4, 5, 6}, 7}, {[]int64{-1, -1, -1, -1, -1, -1, -1, -1}, 0},
	} {
		tree := treeOf(c.ups...)
		expectInt(t, "TipOf", impl.TipOf(tree), impl.OK, c.tip)
		expectTree(t, "a tree", tree, impl.OK)
	}
}

// pastCoins are the coins that a transaction at a height may spend.
func pastCoins(coins []impl.Coin, height int64) []impl.Coin {
	return slices.DeleteFunc(slices.Clone(coins), func(c impl.Coin) bool { return c.Base && c.Height+2 > height })
}

// randomBlock is a block after some node of a tree; what it pays is all that it may, and most of them are valid.
func randomBlock(source *rand.Rand, tree impl.Tree) impl.Block {
	up := int64(source.IntN(len(tree.Nodes)+1)) - 1
	if source.IntN(2) == 0 {
		up = int64(len(tree.Nodes)) - 1
	}
	before := modelAt(tree, up)
	height, money, coins := before.height+1, int64(50), before.coins
	var txs []impl.Tx
	for range source.IntN(8) {
		x := randomSpend(source, pastCoins(coins, height))
		after := modelApply(coins, x, height)
		if wrong := source.IntN(60) == 0; len(x.Ins) == 0 || len(txs) == 3 || after.Code != impl.OK && !wrong {
			continue
		}
		txs, money = append(txs, x), money+after.Fee
		if after.Code == impl.OK {
			coins = after.Coins
		}
	}
	first := source.Int64N(money + 1)
	base := baseTx(height, first, money-first)
	base.Outs[1].Lock = program(pushed(source.Int64N(5)), impl.OpSign)
	b := nextBlock(tree, up, append([]impl.Tx{base}, txs...)...)
	b.Time = min(before.time+1+source.Int64N(20), 99999)
	return b
}

// A randomDefect is a change that comes up from time to time.
func randomDefect(source *rand.Rand, tree impl.Tree, b *impl.Block) {
	switch source.IntN(30) {
	case 0:
		b.Bits = 1000
	case 1:
		b.Time = max(1, b.Time-15)
	case 2:
		b.Txs[0].Note++
	case 3:
		b.Txs[0].Outs[0].Value++
	case 4:
		b.Txs = append(b.Txs, baseTx(1, 5))
	case 5:
		b.Prev = source.Int64N(1000)
	case 6:
		b.Nonce = -1
	case 7:
		b.Txs = append(b.Txs, b.Txs...)
	case 8:
		if len(tree.Nodes) > 0 {
			*b = cloneBlock(tree.Nodes[source.IntN(len(tree.Nodes))].Block)
		}
	}
}

// growth is a tree, a block for it, and what the model makes of them.
type growth struct {
	tree  impl.Tree
	block impl.Block
	want  impl.TreeResult
}

// randomGrowth adds blocks to trees, from empty ones on; refused ones leave the tree as it is.
func randomGrowth(trees int, blocks int) []growth {
	source := rand.New(rand.NewPCG(7, 6))
	var list []growth
	for range trees {
		tree := impl.Tree{Bits: easyBits}
		for range blocks {
			b := randomBlock(source, tree)
			randomDefect(source, tree, &b)
			if modelBlockFault(b) == impl.OK {
				b = tried(b, source.IntN(15) > 0)
			}
			g := growth{tree, b, modelAdd(tree, b)}
			list = append(list, g)
			if g.want.Code == impl.OK {
				tree = g.want.Tree
			}
		}
	}
	return list
}

// Promise 7: an added block is present, after the node that it names, and is not added again; the tree remains valid.
func TestPromise7Added(t *testing.T) {
	codes, spent := map[int64]int{}, 0
	for _, g := range randomGrowth(60, 14) {
		got := impl.AddBlock(g.tree, g.block)
		expectAdded(t, "AddBlock", got, g.want)
		codes[got.Code]++
		if got.Code != impl.OK {
			continue
		}
		spent += len(g.block.Txs) - 1
		expectCode(t, "the tree after it", impl.TreeFault(got.Tree), impl.OK)
		last := got.Tree.Nodes[got.Value]
		if got.Value != int64(len(g.tree.Nodes)) || !equalBlocks(last.Block, g.block) || modelAt(got.Tree, last.Up).sum != g.block.Prev {
			t.Errorf("%v is not the last node of %v", g.block, got.Tree)
		}
		if again := impl.AddBlock(got.Tree, g.block).Code; again != impl.ErrTaken && len(got.Tree.Nodes) < 8 {
			t.Errorf("added again: code %d", again)
		}
	}
	for _, code := range []int64{impl.OK, impl.ErrForm, impl.ErrMany, impl.ErrRange, impl.ErrNone, impl.ErrTaken, impl.ErrMoney, impl.ErrProof, impl.ErrState} {
		if codes[code] < 5 {
			t.Errorf("code %d came up %d times only", code, codes[code])
		}
	}
	if spent < 100 {
		t.Errorf("%d transactions are too few", spent)
	}
}

// Promise 7: what was before a node does not change when other blocks are added.
func TestPromise7Before(t *testing.T) {
	for _, g := range randomGrowth(40, 12) {
		got := impl.AddBlock(g.tree, g.block)
		if got.Code != impl.OK {
			continue
		}
		for node := int64(-1); node < int64(len(g.tree.Nodes)); node++ {
			height, coins, line := impl.HeightOf(g.tree, node), impl.CoinsAt(g.tree, node), impl.LineOf(g.tree, node)
			expectInt(t, "HeightOf", impl.HeightOf(got.Tree, node), impl.OK, height.Value)
			expectCoins(t, "CoinsAt", impl.CoinsAt(got.Tree, node), impl.CoinsResult{Coins: coins.Coins})
			expectList(t, "LineOf", impl.LineOf(got.Tree, node), impl.OK, line.List...)
		}
		if !equalTrees(impl.Tree{Bits: got.Tree.Bits, Nodes: got.Tree.Nodes[:len(g.tree.Nodes)]}, g.tree) {
			t.Errorf("the nodes of %v change in %v", g.tree, got.Tree)
		}
	}
}

// Promise 7: the line of a node leads from the beginning to it, and its height is the number of nodes on it.
func TestPromise7Lines(t *testing.T) {
	for _, g := range randomGrowth(20, 12) {
		if len(g.tree.Nodes) < 4 {
			continue
		}
		for node := range int64(len(g.tree.Nodes)) {
			line, up := impl.LineOf(g.tree, node).List, int64(-1)
			expectInt(t, "HeightOf", impl.HeightOf(g.tree, node), impl.OK, int64(len(line)))
			for _, n := range line {
				if g.tree.Nodes[n].Up != up {
					t.Errorf("%v is no line of %v", line, g.tree)
				}
				up = n
			}
			if up != node {
				t.Errorf("the line %v does not lead to %d", line, node)
			}
		}
		expectNodes(t, "a tree", g.tree)
	}
}

// Promise 7: the money on every path is what the subsidies allow.
func TestPromise7Money(t *testing.T) {
	nodes, highest := 0, int64(0)
	for _, g := range randomGrowth(60, 14) {
		if g.want.Code != impl.OK {
			continue
		}
		nodes++
		// the bases of these trees take all that they may
		height := impl.HeightOf(g.want.Tree, g.want.Value).Value
		highest = max(highest, height)
		allowed := int64(0)
		for h := int64(1); h <= height; h++ {
			allowed += impl.SubsidyAt(h).Value
		}
		expectInt(t, "WorthOf", impl.WorthOf(impl.CoinsAt(g.want.Tree, g.want.Value).Coins), impl.OK, allowed)
		more := cloneBlock(g.block)
		more.Txs[0].Outs[1].Value++
		more.Nonce = 0
		expectAdded(t, "one more", impl.AddBlock(g.tree, mined(more)), impl.TreeResult{Code: impl.ErrMoney})
	}
	if nodes < 200 || highest < 7 {
		t.Errorf("%d nodes of at most height %d are too few", nodes, highest)
	}
	// bases that take less leave less
	tree := impl.Tree{Bits: easyBits}
	worth := int64(0)
	for i, value := range []int64{0, 50, 49, 1, 50} {
		tree = grow(tree, int64(i)-1, baseTx(int64(i)+1, value))
		worth += value
		expectInt(t, "WorthOf", impl.WorthOf(impl.CoinsAt(tree, int64(i)).Coins), impl.OK, worth)
	}
}

// wildBlocks lists blocks at and beyond every bound.
func wildBlocks() []impl.Block {
	list := []impl.Block{{}, plainBlock(), {Prev: 0, Time: 1, Bits: easyBits, Txs: make([]impl.Tx, 5000)}, mined(nextBlock(impl.Tree{Bits: easyBits}, -1, baseTx(1, 50)))}
	for _, n := range extremes() {
		list = append(list,
			impl.Block{Prev: n, Time: n, Bits: n, Nonce: n, Txs: []impl.Tx{baseTx(n, n)}},
			plainBlock(func(b *impl.Block) { b.Prev, b.Nonce = n, n }),
			plainBlock(func(b *impl.Block) { b.Txs[0] = baseTx(n, n) }),
			plainBlock(func(b *impl.Block) { b.Txs[1] = inTx(n, n, n) }),
			impl.Block{Time: n, Bits: easyBits, Txs: []impl.Tx{baseTx(1, 50)}},
			impl.Block{Time: 1, Bits: n, Txs: []impl.Tx{baseTx(1, 50)}},
		)
	}
	return list
}

func wildTrees() []impl.Tree {
	line := lineTree(3)
	list := []impl.Tree{{}, {Bits: easyBits}, line, treeOf(-1, 0, 0, 1), lineTree(8), {Nodes: line.Nodes}, {Bits: easyBits, Nodes: make([]impl.Node, 8)}, {Bits: 1, Nodes: make([]impl.Node, 5000)}}
	for _, n := range extremes() {
		list = append(list, impl.Tree{Bits: n, Nodes: line.Nodes}, changedNode(line, 0, func(node *impl.Node) { node.Up = n }), changedNode(line, 2, func(node *impl.Node) { node.Up = n }))
	}
	for _, b := range wildBlocks() {
		list = append(list, impl.Tree{Bits: easyBits, Nodes: []impl.Node{{Up: -1, Block: b}}}, changedNode(line, 1, func(node *impl.Node) { node.Block = b }))
	}
	return list
}

// Promise 1: all functions return for all arguments, the same each time, and change none.
func TestPromise1AllOfChapter6(t *testing.T) {
	blocks := wildBlocks()
	for _, b := range blocks {
		before := cloneBlock(b)
		code := modelBlockFault(b)
		expectCode(t, "BlockFault", impl.BlockFault(b), code)
		expectPure(t, "BlockRoot", func() impl.IntResult { return impl.BlockRoot(b) })
		expectPure(t, "HeaderSum", func() impl.IntResult { return impl.HeaderSum(b) })
		expectPure(t, "SubsidyAt", func() impl.IntResult { return impl.SubsidyAt(b.Nonce) })
		if !reflect.DeepEqual(b, before) {
			t.Fatalf("%v was changed to %v", before, b)
		}
	}
	for i, tree := range wildTrees() {
		before, b := cloneTree(tree), blocks[i%len(blocks)]
		earlier := cloneBlock(b)
		expectTree(t, "a tree", tree, modelTreeFault(tree))
		expectInt(t, "TipOf again", impl.TipOf(tree), impl.TipOf(tree).Code, impl.TipOf(tree).Value)
		for _, node := range extremes() {
			expectPure(t, "HeightOf", func() impl.IntResult { return impl.HeightOf(tree, node) })
			expectSameList(t, "LineOf", func() impl.IntsResult { return impl.LineOf(tree, node) })
			expectCoins(t, "CoinsAt again", impl.CoinsAt(tree, node), impl.CoinsAt(tree, node))
		}
		expectAdded(t, "AddBlock again", impl.AddBlock(tree, b), impl.AddBlock(tree, b))
		if !reflect.DeepEqual(tree, before) || !reflect.DeepEqual(b, earlier) {
			t.Fatalf("%v was changed to %v, or %v to %v", before, tree, earlier, b)
		}
	}
}

// Promise 1: nothing is written behind the end of an argument, and nothing is read there.
func TestPromise1EndsOfChapter6(t *testing.T) {
	whole := lineTree(6)
	for size := range 6 {
		before := cloneTree(whole)
		part := impl.Tree{Bits: easyBits, Nodes: whole.Nodes[:size]}
		expectTree(t, "a part", part, impl.OK)
		b := mined(nextBlock(part, -1, baseTx(1, 50)))
		b.Txs = append(b.Txs, impl.Tx{Note: -1})[:1]
		expectAdded(t, "a part", impl.AddBlock(part, b), modelAdd(part, b))
		if !equalTrees(whole, before) || b.Txs[:2][1].Note != -1 {
			t.Fatalf("%v was changed to %v", before, whole)
		}
	}
}

// span is the memory of a list, to its full capacity.
type span struct {
	from, to uintptr
}

// spansOf lists the memory of all lists in a value.
func spansOf(v reflect.Value) []span {
	var list []span
	switch v.Kind() {
	case reflect.Struct:
		for i := range v.NumField() {
			list = append(list, spansOf(v.Field(i))...)
		}
	case reflect.Slice:
		if v.Cap() > 0 {
			list = append(list, span{v.Pointer(), v.Pointer() + uintptr(v.Cap())*v.Type().Elem().Size()})
		}
		for i := range v.Len() {
			list = append(list, spansOf(v.Index(i))...)
		}
	}
	return list
}

// expectApart requires that no list of a result shares memory with another one of it, nor with one of the others.
func expectApart(t *testing.T, what string, result any, others ...any) {
	t.Helper()
	own := spansOf(reflect.ValueOf(result))
	all := slices.Clone(own)
	for _, other := range others {
		all = append(all, spansOf(reflect.ValueOf(other))...)
	}
	for i, a := range own {
		for _, b := range all[i+1:] {
			if a.from < b.to && b.from < a.to {
				t.Errorf("%s: two lists share memory", what)
			}
		}
	}
}

// sharingTree is a tree whose lists share their memory wherever they can.
func sharingTree() (impl.Tree, impl.Block) {
	tree := lineTree(2)
	for range 2 {
		node := int64(len(tree.Nodes)) - 1
		x := payTx(tree, node, coinOf(tree, node-1, 0), 20, 20, 0)
		tree = grow(tree, node, baseTx(node+2, 60, 0), x)
	}
	b := mined(nextBlock(tree, 3, baseTx(5, 50, 0), payTx(tree, 3, coinOf(tree, 2, 0), 60)))
	lock := program(pushed(3), impl.OpSign)
	share := func(b impl.Block) {
		for _, x := range b.Txs {
			for i := range x.Outs {
				x.Outs[i].Lock = lock
			}
		}
	}
	for _, n := range tree.Nodes {
		share(n.Block)
	}
	share(b)
	return tree, b
}

// Promise 1: results are new memory, the transactions of the blocks and the locks of the coins too.
func TestPromise1NewMemoryOfChapter6(t *testing.T) {
	tree, b := sharingTree()
	earlier, before := cloneTree(tree), cloneBlock(b)
	want := modelAdd(tree, b)
	got, again := impl.AddBlock(tree, b), impl.AddBlock(tree, b)
	expectAdded(t, "AddBlock", got, want)
	expectCode(t, "AddBlock", got.Code, impl.OK)
	expectApart(t, "AddBlock", got, again, tree, b)
	for node := int64(-1); node < 4; node++ {
		coins, line := impl.CoinsAt(tree, node), impl.LineOf(tree, node)
		expectNode(t, "a node", tree, node, modelAt(tree, node))
		expectApart(t, "CoinsAt", coins, impl.CoinsAt(tree, node), tree)
		expectApart(t, "LineOf", line, impl.LineOf(tree, node), tree)
	}
	// a result that is changed changes nothing else
	for i := range got.Tree.Nodes {
		n := &got.Tree.Nodes[i]
		for _, x := range n.Block.Txs {
			clear(x.Ins)
			for _, out := range x.Outs {
				clear(out.Lock)
			}
		}
		clear(n.Block.Txs)
		n.Up = 9
	}
	expectAdded(t, "another result", again, want)
	if !equalTrees(tree, earlier) || !equalBlocks(b, before) {
		t.Errorf("%v was changed to %v, or %v to %v", earlier, tree, before, b)
	}
}

// Promise 1: the same block in a result twice has its own memory each time, and so have nodes that share all of theirs.
func TestPromise1EqualBlocksOfChapter6(t *testing.T) {
	tree := treeOf(-1, -1)
	b := cloneBlock(tree.Nodes[1].Block)
	tree.Nodes[1].Block.Txs = tree.Nodes[0].Block.Txs
	tree.Nodes[1].Block = mined(tree.Nodes[1].Block)
	b.Time += 7
	b.Txs = tree.Nodes[0].Block.Txs
	got := impl.AddBlock(tree, mined(b))
	expectCode(t, "AddBlock", got.Code, impl.OK)
	expectApart(t, "AddBlock", got, tree, b)
	expectTree(t, "the tree after it", got.Tree, impl.OK)
}
