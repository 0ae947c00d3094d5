package tests

import (
	"math"
	"math/rand/v2"
	"reflect"
	"slices"
	"strconv"
	"testing"

	"loop.example/g00539/impl"
)

func cloneJobs(jobs []impl.Job) []impl.Job {
	jobs = slices.Clone(jobs)
	for i, j := range jobs {
		jobs[i].Block = cloneBlock(j.Block)
	}
	return jobs
}

// equalJobs compares without the package; nil is an empty list.
func equalJobs(a []impl.Job, b []impl.Job) bool {
	return slices.EqualFunc(a, b, func(a impl.Job, b impl.Job) bool {
		return a.Id == b.Id && equalBlocks(a.Block, b.Block)
	})
}

func equalShares(a impl.ShareResult, b impl.ShareResult) bool {
	return a.Code == b.Code && a.Win == b.Win && equalBlocks(a.Block, b.Block) && slices.Equal(a.Seen, b.Seen)
}

// jobAt is a job whose base has two outputs, with three other transactions.
func jobAt(id int64, changes ...func(*impl.Block)) impl.Job {
	b := plainBlock(func(b *impl.Block) { b.Time, b.Txs[0] = 300, baseTx(1, 50, 0) })
	for _, change := range changes {
		change(&b)
	}
	return impl.Job{Id: id, Block: b}
}

func jobsAt(ids ...int64) []impl.Job {
	var jobs []impl.Job
	for _, id := range ids {
		jobs = append(jobs, jobAt(id))
	}
	return jobs
}

// keys are different from each other, and none is of the job 0.
func keys(count int) []impl.Key {
	var list []impl.Key
	for i := range int64(count) {
		list = append(list, impl.Key{Job: 1 + i%3, Extra: i / 3, Time: 300 + i%7, Nonce: 100 * i})
	}
	return list
}

func modelJobsFault(jobs []impl.Job) int64 {
	if len(jobs) > 4 {
		return impl.ErrMany
	}
	least := int64(0)
	for _, j := range jobs {
		if j.Id < 0 || j.Id >= 10000 {
			return impl.ErrRange
		}
		if code := modelBlockFault(j.Block); code != impl.OK {
			return code
		}
		if len(j.Block.Txs[0].Outs) != 2 || j.Id < least {
			return impl.ErrForm
		}
		least = j.Id + 1
	}
	return impl.OK
}

func modelKeyFits(k impl.Key) bool {
	clamped := impl.Key{
		Job:   min(max(k.Job, 0), 9999),
		Extra: min(max(k.Extra, 0), 999),
		Time:  min(max(k.Time, 0), 99999),
		Nonce: min(max(k.Nonce, 0), 65535),
	}
	return k == clamped
}

func modelSeenFault(seen []impl.Key) int64 {
	if len(seen) > 40 {
		return impl.ErrMany
	}
	known := map[impl.Key]bool{}
	for _, k := range seen {
		if !modelKeyFits(k) {
			return impl.ErrRange
		}
		if known[k] {
			return impl.ErrTaken
		}
		known[k] = true
	}
	return impl.OK
}

// modelShareBlock puts the block of a share together from its parts.
func modelShareBlock(j impl.Job, extra int64, time int64, nonce int64) impl.BlockResult {
	if code := modelJobsFault([]impl.Job{j}); code != impl.OK {
		return impl.BlockResult{Code: code}
	}
	if time == 0 || !modelKeyFits(impl.Key{Extra: extra, Time: time, Nonce: nonce}) {
		return impl.BlockResult{Code: impl.ErrRange}
	}
	old := j.Block.Txs[0]
	second := impl.Out{Value: old.Outs[1].Value, Lock: program(100 + extra)}
	base := impl.Tx{Note: old.Note, Outs: []impl.Out{old.Outs[0], second}}
	b := impl.Block{Prev: j.Block.Prev, Time: time, Bits: j.Block.Bits, Nonce: nonce, Txs: append([]impl.Tx{base}, j.Block.Txs[1:]...)}
	if code := modelBlockFault(b); code != impl.OK {
		return impl.BlockResult{Code: code}
	}
	return impl.BlockResult{Block: b}
}

// A shareCheck has the arguments of CheckShare.
type shareCheck struct {
	jobs  []impl.Job
	seen  []impl.Key
	k     impl.Key
	level int64
}

func (c shareCheck) result() impl.ShareResult {
	return impl.CheckShare(c.jobs, c.seen, c.k, c.level)
}

func (c shareCheck) clone() shareCheck {
	c.jobs, c.seen = cloneJobs(c.jobs), slices.Clone(c.seen)
	return c
}

// modelCheckJob is the part of modelCheck that needs the job of the key.
func modelCheckJob(j impl.Job, c shareCheck) impl.ShareResult {
	late := c.k.Time - j.Block.Time
	share := modelShareBlock(j, c.k.Extra, c.k.Time, c.k.Nonce)
	switch {
	case late < 0 || late > 60:
		return impl.ShareResult{Code: impl.ErrState}
	case slices.Index(c.seen, c.k) >= 0:
		return impl.ShareResult{Code: impl.ErrTaken}
	case share.Code != impl.OK:
		return impl.ShareResult{Code: share.Code}
	}
	sum := modelHeader(share.Block)
	switch {
	case sum > modelShareTarget(c.level):
		return impl.ShareResult{Code: impl.ErrProof}
	case len(c.seen) == 40:
		return impl.ShareResult{Code: impl.ErrFull}
	}
	return impl.ShareResult{Win: sum <= modelTarget(j.Block.Bits), Block: share.Block, Seen: append(slices.Clip(c.seen), c.k)}
}

func modelCheck(c shareCheck) impl.ShareResult {
	if code := modelJobsFault(c.jobs); code != impl.OK {
		return impl.ShareResult{Code: code}
	}
	if code := modelSeenFault(c.seen); code != impl.OK {
		return impl.ShareResult{Code: code}
	}
	if !modelKeyFits(c.k) || c.level < 1 || c.level > 9999 {
		return impl.ShareResult{Code: impl.ErrRange}
	}
	for _, j := range c.jobs {
		if j.Id == c.k.Job {
			return modelCheckJob(j, c)
		}
	}
	return impl.ShareResult{Code: impl.ErrNone}
}

// modelShareTarget takes off what is left over before it divides.
func modelShareTarget(level int64) int64 {
	return (2147483646 - 2147483646%level) / level
}

func modelPut(jobs []impl.Job, j impl.Job) impl.JobsResult {
	code := modelJobsFault(jobs)
	if code == impl.OK {
		code = modelJobsFault([]impl.Job{j})
	}
	if code == impl.OK && modelJobsFault([]impl.Job{jobAt(lastOf(jobs)), jobAt(j.Id)}) != impl.OK && len(jobs) > 0 {
		code = impl.ErrTaken
	}
	if code != impl.OK {
		return impl.JobsResult{Code: code}
	}
	all := append(slices.Clone(jobs), j)
	return impl.JobsResult{Jobs: all[max(0, len(all)-4):]}
}

func lastOf(jobs []impl.Job) int64 {
	if len(jobs) == 0 {
		return 0
	}
	return jobs[len(jobs)-1].Id
}

// expectChecked requires the code of a share, and nothing beside a code.
func expectChecked(t *testing.T, what string, c shareCheck, code int64) impl.ShareResult {
	t.Helper()
	before, want := c.clone(), modelCheck(c)
	expectCode(t, what+": the model", want.Code, code)
	got := c.result()
	if !equalShares(got, want) || !equalShares(c.result(), want) {
		t.Errorf("%s: CheckShare of %v is %v instead of %v", what, c, got, want)
	}
	if !reflect.DeepEqual(c, before) {
		t.Fatalf("%s: CheckShare changed %v to %v", what, before, c)
	}
	return got
}

// expectPut requires the code of a job that is put behind others.
func expectPut(t *testing.T, what string, jobs []impl.Job, j impl.Job, code int64) impl.JobsResult {
	t.Helper()
	before, earlier := cloneJobs(jobs), cloneJobs([]impl.Job{j})
	got, want := impl.PutJob(jobs, j), modelPut(jobs, j)
	expectCode(t, what+": the model", want.Code, code)
	if got.Code != code || !equalJobs(got.Jobs, want.Jobs) || !equalJobs(impl.PutJob(jobs, j).Jobs, want.Jobs) {
		t.Errorf("%s: PutJob of %v and %v is %v instead of %v", what, jobs, j, got, want)
	}
	if !reflect.DeepEqual(jobs, before) || !reflect.DeepEqual(j, earlier[0]) {
		t.Fatalf("%s: PutJob changed %v to %v, or %v to %v", what, before, jobs, earlier[0], j)
	}
	return got
}

func expectShareBlock(t *testing.T, what string, j impl.Job, extra int64, time int64, nonce int64, code int64) impl.Block {
	t.Helper()
	before := cloneJobs([]impl.Job{j})
	got, want := impl.ShareBlock(j, extra, time, nonce), modelShareBlock(j, extra, time, nonce)
	expectCode(t, what+": the model", want.Code, code)
	expectTemplate(t, what+": ShareBlock", got, want)
	expectTemplate(t, what+": ShareBlock again", impl.ShareBlock(j, extra, time, nonce), want)
	if !reflect.DeepEqual(j, before[0]) {
		t.Fatalf("%s: ShareBlock changed %v to %v", what, before[0], j)
	}
	return got.Block
}

// expectJobs requires a code of JobsFault, and that the functions that have jobs return it before their other codes.
func expectJobs(t *testing.T, what string, jobs []impl.Job, code int64) {
	t.Helper()
	before := cloneJobs(jobs)
	expectCode(t, what+": the model", modelJobsFault(jobs), code)
	expectCode(t, what+": JobsFault", impl.JobsFault(jobs), code)
	expectCode(t, what+": JobsFault again", impl.JobsFault(jobs), code)
	if len(jobs) == 1 {
		expectShareBlock(t, what, jobs[0], 7, 301, 5, code)
	}
	if code == impl.OK {
		expectChecked(t, what, shareCheck{jobs: jobs, k: impl.Key{Job: 9998}, level: 1}, modelCheck(shareCheck{jobs: jobs, k: impl.Key{Job: 9998}, level: 1}).Code)
		expectPut(t, what, jobs, jobAt(9999), modelPut(jobs, jobAt(9999)).Code)
		return
	}
	if len(jobs) == 1 {
		expectPut(t, what, nil, jobs[0], code)
		expectPut(t, what, jobsAt(9999), jobs[0], code)
		expectPut(t, what, jobsAt(1, 2, 3, 4), jobs[0], code)
		expectShareBlock(t, what, jobs[0], -1, 0, 65536, code)
	}
	for _, seen := range [][]impl.Key{nil, keys(3), keys(41), {{Job: -1}}} {
		for _, k := range []impl.Key{{}, {Job: lastOf(jobs), Extra: 1, Time: 301}, {Extra: 1000}} {
			expectChecked(t, what, shareCheck{jobs, seen, k, k.Extra}, code)
		}
	}
	for _, j := range []impl.Job{{}, jobAt(0), jobAt(9999), jobAt(10000)} {
		expectPut(t, what, jobs, j, code)
	}
	if !equalJobs(jobs, before) {
		t.Fatalf("%s: %v was changed to %v", what, before, jobs)
	}
}

// expectSeen requires a code of SeenFault, and that CheckShare returns it after the fault of the jobs and before its other codes.
func expectSeen(t *testing.T, what string, seen []impl.Key, code int64) {
	t.Helper()
	before := slices.Clone(seen)
	expectCode(t, what+": the model", modelSeenFault(seen), code)
	expectCode(t, what+": SeenFault", impl.SeenFault(seen), code)
	expectCode(t, what+": SeenFault again", impl.SeenFault(seen), code)
	expectChecked(t, what, shareCheck{jobsAt(5, 5), seen, impl.Key{}, 1}, impl.ErrForm)
	if code != impl.OK {
		for _, k := range []impl.Key{{}, {Job: 1, Time: 300}, {Extra: 1000}} {
			expectChecked(t, what, shareCheck{jobsAt(1, 2, 3), seen, k, 1}, code)
			expectChecked(t, what, shareCheck{nil, seen, k, 0}, code)
		}
	} else {
		expectChecked(t, what, shareCheck{jobsAt(1, 2, 3), seen, impl.Key{Extra: 1000}, 1}, impl.ErrRange)
		expectChecked(t, what, shareCheck{nil, seen, impl.Key{}, 1}, impl.ErrNone)
	}
	if !slices.Equal(seen, before) {
		t.Fatalf("%s: %v was changed to %v", what, before, seen)
	}
}

func TestConstantsOfChapter11(t *testing.T) {
	if got := [3]int64{impl.MaxJobs, impl.MaxSeen, impl.MaxLate}; got != [3]int64{4, 40, 60} {
		t.Errorf("got %v", got)
	}
}

func TestExamplesOfChapter11(t *testing.T) {
	template := impl.TemplateOf(impl.Tree{Bits: easyBits}, nil, 1, 0, 300).Block
	jobs := impl.PutJob(nil, impl.Job{Id: 4, Block: template}).Jobs
	c := shareCheck{jobs, nil, impl.Key{Job: 4, Extra: 7, Time: 301, Nonce: 5}, 1}
	got := expectChecked(t, "a share", c, impl.OK)
	if !slices.Equal(got.Block.Txs[0].Outs[1].Lock, []int64{107}) || !slices.Equal(got.Seen, []impl.Key{c.k}) {
		t.Errorf("a share: %v", got)
	}
	c.seen = got.Seen
	expectChecked(t, "the same again", c, impl.ErrTaken)
	expectInt(t, "ShareTarget", impl.ShareTarget(2), impl.OK, 1073741823)
}

func TestJobsFaultOfSizes(t *testing.T) {
	expectJobs(t, "nil", nil, impl.OK)
	expectJobs(t, "no jobs", []impl.Job{}, impl.OK)
	for size := range 5 {
		expectJobs(t, "some jobs", jobsAt(3, 4, 70, 800)[:size], impl.OK)
	}
	expectJobs(t, "5 jobs", jobsAt(3, 4, 70, 800, 801), impl.ErrMany)
	expectJobs(t, "6 jobs", jobsAt(3, 4, 70, 800, 801, 802), impl.ErrMany)
	for _, size := range []int{5, 6, 1000} {
		expectJobs(t, "malformed jobs", make([]impl.Job, size), impl.ErrMany)
	}
	expectJobs(t, "4 malformed jobs", make([]impl.Job, 4), impl.ErrRange)
}

func TestJobsFaultOfIds(t *testing.T) {
	for _, c := range []struct {
		code int64
		ids  [][]int64
	}{
		{impl.OK, [][]int64{{0}, {1}, {9998}, {9999}, {0, 1}, {0, 9999}, {9998, 9999}, {0, 1, 2, 3}, {9996, 9997, 9998, 9999}, {0, 5, 4000, 9999}}},
		{impl.ErrForm, [][]int64{{0, 0}, {5, 5}, {9999, 9999}, {5, 4}, {9999, 0}, {1, 1, 2}, {1, 2, 2}, {2, 1, 3}, {1, 3, 2}, {1, 2, 1}, {1, 2, 3, 3}, {1, 2, 3, 2}, {1, 2, 4, 3}, {1, 2, 3, 0}, {4, 3, 2, 1}, {2, 1, -1}, {2, 2, 10000}}},
		{impl.ErrRange, [][]int64{{-1}, {10000}, {10001}, {-1, 0}, {0, -1}, {9999, 10000}, {1, 2, 10000}, {1, 2, -1}, {1, 2, 3, 10000}, {1, 2, 3, -1}, {10000, 1}, {-1, -1}}},
	} {
		for _, ids := range c.ids {
			expectJobs(t, "the Ids", jobsAt(ids...), c.code)
		}
	}
	for _, n := range extremes() {
		code := int64(impl.ErrRange)
		if n >= 0 && n <= 9999 {
			code = impl.OK
		}
		expectJobs(t, "an Id", jobsAt(n), code)
		if n < 0 || n > 9999 {
			expectJobs(t, "the last Id", jobsAt(0, 1, 2, n), code)
		}
	}
}

// A base has exactly two outputs; that it has none or 5 is the fault of the block.
func TestJobsFaultOfOuts(t *testing.T) {
	for size, code := range []int64{impl.ErrMany, impl.ErrForm, impl.OK, impl.ErrForm, impl.ErrForm, impl.ErrMany} {
		for at := range 4 {
			jobs := jobsAt(1, 2, 3, 4)
			jobs[at].Block.Txs[0].Outs = baseTx(1, 10, 10, 10, 10, 10).Outs[:size]
			expectJobs(t, strconv.Itoa(size)+" outputs", jobs, code)
			expectJobs(t, strconv.Itoa(size)+" outputs of one job", jobs[at:at+1], code)
		}
	}
	// what the outputs are worth, and how many the others have, is no fault
	for _, change := range []func(*impl.Block){
		func(b *impl.Block) { b.Txs[0] = baseTx(1, 0, 50) },
		func(b *impl.Block) { b.Txs[0] = baseTx(65535, impl.MaxMoney, 0) },
		func(b *impl.Block) { b.Txs[0].Outs[0].Lock, b.Txs[0].Outs[1].Lock = nil, nil },
		func(b *impl.Block) { b.Txs[1].Outs = baseTx(1, 1, 2, 3, 4).Outs },
		func(b *impl.Block) { b.Txs = b.Txs[:1] },
		func(b *impl.Block) { b.Txs = b.Txs[:2] },
		func(b *impl.Block) { b.Bits, b.Time, b.Nonce, b.Prev = 1, 99999, 65535, impl.MaxSum },
	} {
		expectJobs(t, "a good block", []impl.Job{jobAt(1), jobAt(2, change), jobAt(3)}, impl.OK)
		expectJobs(t, "a good block alone", []impl.Job{jobAt(2, change)}, impl.OK)
	}
}

// A jobFault makes one of several jobs malformed.
type jobFault struct {
	what string
	code int64
	make func(*impl.Job)
}

// jobFaultsInOrder lists changes in the order in which the contract of JobsFault checks for them.
func jobFaultsInOrder() []jobFault {
	faults := []jobFault{{"Id", impl.ErrRange, func(j *impl.Job) { j.Id = 10000 }}}
	for _, c := range blockFaultsInOrder() {
		faults = append(faults, jobFault{c.what, c.code, func(j *impl.Job) { c.make(&j.Block) }})
	}
	return append(faults,
		jobFault{"one output", impl.ErrForm, func(j *impl.Job) { j.Block.Txs[0].Outs = j.Block.Txs[0].Outs[:1] }},
		jobFault{"three outputs", impl.ErrForm, func(j *impl.Job) { j.Block.Txs[0].Outs = baseTx(1, 50, 0, 0).Outs }},
	)
}

func TestJobsFaultOrderOfCodes(t *testing.T) {
	expectJobs(t, "no change", jobsAt(1, 2, 3, 4), impl.OK)
	faults := jobFaultsInOrder()
	for i, first := range faults {
		for at := range 4 {
			jobs := jobsAt(1, 2, 3, 4)
			first.make(&jobs[at])
			expectJobs(t, first.what, jobs, first.code)
			expectJobs(t, first.what+" of one job", jobs[at:at+1], first.code)
			// an Id that is not greater is checked for after all of these
			jobs[max(at, 1)-1].Id = 9999
			if at > 0 {
				expectCode(t, first.what+" and the Id before", impl.JobsFault(jobs), first.code)
			}
		}
		for k, later := range faults {
			jobs := jobsAt(1, 2, 3, 4)
			if k > i {
				later.make(&jobs[1])
				first.make(&jobs[1])
				expectCode(t, first.what+" and "+later.what, impl.JobsFault(jobs), first.code)
			}
			jobs = jobsAt(1, 2, 3, 4)
			first.make(&jobs[1])
			later.make(&jobs[2+(i+k)%2])
			expectCode(t, first.what+", in a later job "+later.what, impl.JobsFault(jobs), first.code)
		}
		jobs := jobsAt(3, 3, 2, 1)
		first.make(&jobs[2])
		expectCode(t, "the order of the Ids before "+first.what, impl.JobsFault(jobs), impl.ErrForm)
	}
}

func TestSeenFaultOfSizes(t *testing.T) {
	expectSeen(t, "nil", nil, impl.OK)
	expectSeen(t, "no keys", []impl.Key{}, impl.OK)
	for _, size := range []int{1, 2, 39, 40} {
		expectSeen(t, "some keys", keys(size), impl.OK)
	}
	for _, size := range []int{41, 42, 1000} {
		expectSeen(t, "too many keys", keys(size), impl.ErrMany)
		expectSeen(t, "too many malformed keys", slices.Repeat([]impl.Key{{Job: -1}}, size), impl.ErrMany)
		expectSeen(t, "too many equal keys", make([]impl.Key, size), impl.ErrMany)
	}
}

// A keyField is a field of a key, and its limit.
type keyField struct {
	what  string
	limit int64
	at    func(*impl.Key) *int64
}

func keyFields() []keyField {
	return []keyField{
		{"Job", 9999, func(k *impl.Key) *int64 { return &k.Job }},
		{"Extra", 999, func(k *impl.Key) *int64 { return &k.Extra }},
		{"Time", 99999, func(k *impl.Key) *int64 { return &k.Time }},
		{"Nonce", 65535, func(k *impl.Key) *int64 { return &k.Nonce }},
	}
}

func TestSeenFaultOfNumbers(t *testing.T) {
	for _, field := range keyFields() {
		for _, n := range append(extremes(), -2, field.limit-1, field.limit, field.limit+1, field.limit+2) {
			code := int64(impl.ErrRange)
			if n >= 0 && n <= field.limit {
				code = impl.OK
			}
			for _, size := range []int{1, 3, 40} {
				for _, at := range []int{0, size / 2, size - 1} {
					seen := keys(size)
					*field.at(&seen[at]) = n
					expectSeen(t, field.what, seen, code)
				}
			}
		}
	}
	expectSeen(t, "the least key", []impl.Key{{}}, impl.OK)
	expectSeen(t, "the greatest key", []impl.Key{{Job: 9999, Extra: 999, Time: 99999, Nonce: 65535}}, impl.OK)
}

func TestSeenFaultOfEqualKeys(t *testing.T) {
	for i := range 40 {
		for k := range i {
			seen := keys(40)
			seen[i] = seen[k]
			expectCode(t, "equal keys", impl.SeenFault(seen), impl.ErrTaken)
			expectCode(t, "equal keys at the end", impl.SeenFault(seen[:i+1]), impl.ErrTaken)
			expectCode(t, "no equal keys yet", impl.SeenFault(seen[:i]), impl.OK)
			// keys that differ in one field only
			for _, field := range keyFields() {
				*field.at(&seen[i])++
				if !slices.Contains(seen[:i], seen[i]) && !slices.Contains(seen[i+1:], seen[i]) {
					expectCode(t, "another "+field.what, impl.SeenFault(seen), impl.OK)
				}
				*field.at(&seen[i])--
			}
		}
	}
	for _, field := range keyFields() {
		a := impl.Key{Job: 5, Extra: 5, Time: 5, Nonce: 5}
		b := a
		expectSeen(t, "two equal keys", []impl.Key{a, b}, impl.ErrTaken)
		*field.at(&b) = 6
		expectSeen(t, "another "+field.what, []impl.Key{a, b}, impl.OK)
		expectSeen(t, "another "+field.what+" and the first again", []impl.Key{a, b, a}, impl.ErrTaken)
	}
	expectSeen(t, "one key 40 times", make([]impl.Key, 40), impl.ErrTaken)
}

// One key after the other is judged, and a key that is out of range before it is compared.
func TestSeenFaultOrderOfCodes(t *testing.T) {
	for _, size := range []int{3, 4, 40} {
		for at := range size {
			seen := keys(size)
			seen[at].Nonce = 65536
			for _, second := range []int{1, size - 1} {
				both := slices.Clone(seen)
				both[second] = both[0]
				code := modelSeenFault(both)
				if at > second {
					expectCode(t, "the model", code, impl.ErrTaken)
				}
				expectSeen(t, "a Nonce and equal keys", both, code)
			}
		}
	}
	bad := impl.Key{Extra: -1}
	expectSeen(t, "equal keys out of range", []impl.Key{bad, bad}, impl.ErrRange)
	expectSeen(t, "equal keys, then equal ones out of range", []impl.Key{{}, {}, bad, bad}, impl.ErrTaken)
	expectSeen(t, "a key out of range, then equal ones", []impl.Key{{}, bad, {}}, impl.ErrRange)
}

func TestShareBlockOfNumbers(t *testing.T) {
	j := jobAt(4)
	for _, c := range []struct {
		what        string
		least, most int64
		share       func(n int64, code int64) impl.Block
	}{
		{"Extra", 0, 999, func(n int64, code int64) impl.Block { return expectShareBlock(t, "Extra", j, n, 301, 5, code) }},
		{"Time", 1, 99999, func(n int64, code int64) impl.Block { return expectShareBlock(t, "Time", j, 7, n, 5, code) }},
		{"Nonce", 0, 65535, func(n int64, code int64) impl.Block { return expectShareBlock(t, "Nonce", j, 7, 301, n, code) }},
	} {
		for _, n := range append(extremes(), c.least-2, c.least-1, c.least, c.least+1, c.most-1, c.most, c.most+1, c.most+2) {
			if n < c.least || n > c.most {
				c.share(n, impl.ErrRange)
				continue
			}
			b := c.share(n, impl.OK)
			set := map[string]int64{"Extra": 7, "Time": 301, "Nonce": 5}
			set[c.what] = n
			if !slices.Equal(b.Txs[0].Outs[1].Lock, []int64{100 + set["Extra"]}) || b.Time != set["Time"] || b.Nonce != set["Nonce"] {
				t.Errorf("%s %d: %v", c.what, n, b)
			}
		}
	}
	// the time of a share alone may be any
	for _, time := range []int64{1, 299, 300, 301, 360, 361, 99999} {
		expectShareBlock(t, "an early or late time", j, 7, time, 5, impl.OK)
	}
	for _, extra := range []int64{-1, 1000} {
		expectShareBlock(t, "all out of range", j, extra, 0, 65536, impl.ErrRange)
	}
}

// Whatever the second lock was, it becomes one push; all the rest stays.
func TestShareBlockKeepsTheRest(t *testing.T) {
	locks := [][]int64{nil, {}, {pushed(0)}, {pushed(7)}, {pushed(999)}, {impl.OpDup}, {pushed(1), impl.OpDrop, pushed(3), impl.OpSign}, repeatInt(pushed(7), 12)}
	for _, lock := range locks {
		for size := range 4 {
			for _, values := range [][]int64{{50, 0}, {0, 50}, {impl.MaxMoney, 0}, {1, 2}} {
				j := jobAt(9, func(b *impl.Block) {
					b.Prev, b.Bits, b.Nonce = 123456789, 600, 77
					b.Txs[0] = baseTx(17, values...)
					b.Txs[0].Outs[1].Lock = lock
					b.Txs = b.Txs[:1+size]
				})
				before := cloneBlock(j.Block)
				b := expectShareBlock(t, "a job", j, 42, 5000, 6000, impl.OK)
				if got := b.Txs[0].Outs[1]; got.Value != values[1] || !slices.Equal(got.Lock, []int64{142}) || b.Time != 5000 || b.Nonce != 6000 {
					t.Errorf("the share of %v is %v", j, b)
				}
				b.Time, b.Nonce, b.Txs[0].Outs[1].Lock = before.Time, before.Nonce, lock
				if !equalBlocks(b, before) {
					t.Errorf("a share has changed %v to %v", before, b)
				}
			}
		}
	}
	// a share of a share has its own Extra alone, and the Id has no effect
	first := expectShareBlock(t, "a job", jobAt(0), 1, 301, 2, impl.OK)
	second := expectShareBlock(t, "a share as a job", impl.Job{Id: 9999, Block: first}, 7, 302, 3, impl.OK)
	if !equalBlocks(second, expectShareBlock(t, "the job", jobAt(3), 7, 302, 3, impl.OK)) {
		t.Errorf("a share of a share is %v", second)
	}
}

func TestShareBlockOrderOfCodes(t *testing.T) {
	for _, c := range jobFaultsInOrder() {
		j := jobAt(4)
		c.make(&j)
		for _, n := range [][]int64{{7, 301, 5}, {-1, 301, 5}, {7, 0, 5}, {7, 301, 65536}, {1000, 100000, -1}} {
			expectShareBlock(t, c.what, j, n[0], n[1], n[2], c.code)
		}
	}
	expectShareBlock(t, "no job", impl.Job{}, 7, 301, 5, impl.ErrRange)
	expectShareBlock(t, "no job, no numbers", impl.Job{}, -1, 0, -1, impl.ErrRange)
	twin := twinJob(t, 4, 7)
	for _, n := range [][]int64{{7, 0, 5}, {7, 301, 65536}, {7, 100000, -1}} {
		expectShareBlock(t, "a twin and a number", twin, n[0], n[1], n[2], impl.ErrRange)
	}
}

// twinJob is a job whose base gets the sum of the second transaction with just this Extra.
func twinJob(t *testing.T, id int64, extra int64) impl.Job {
	t.Helper()
	j := jobAt(id)
	base := cloneTx(j.Block.Txs[0])
	base.Outs[1].Lock = program(pushed(extra))
	j.Block.Txs[1] = withTxSum(t, j.Block.Txs[1], impl.TxSum(base).Value)
	return j
}

// A block that is malformed only with the lock of a share has its BlockFault.
func TestShareBlockOfTwins(t *testing.T) {
	j := twinJob(t, 4, 7)
	same, x, y := j.Block.Txs[1], j.Block.Txs[2], j.Block.Txs[3]
	for _, c := range []struct {
		what string
		code int64
		txs  []impl.Tx
	}{
		{"two", impl.ErrTaken, []impl.Tx{same}},
		{"three", impl.ErrTaken, []impl.Tx{same, x}},
		{"four", impl.ErrTaken, []impl.Tx{same, x, y}},
		{"not joined", impl.OK, []impl.Tx{x, same}},
		{"not joined of four", impl.OK, []impl.Tx{x, y, same}},
		{"equal joins", impl.ErrTaken, []impl.Tx{x, same, x}},
		{"none", impl.OK, []impl.Tx{x, y}},
	} {
		j.Block.Txs = append(j.Block.Txs[:1:1], c.txs...)
		expectCode(t, c.what+": the job", impl.JobsFault([]impl.Job{j}), impl.OK)
		expectShareBlock(t, c.what, j, 7, 301, 5, c.code)
		checked := shareCheck{[]impl.Job{j}, nil, impl.Key{Job: 4, Extra: 7, Time: 301, Nonce: 5}, 1}
		expectChecked(t, c.what, checked, c.code)
		for _, extra := range []int64{0, 6, 8, 999} {
			expectShareBlock(t, c.what+", another Extra", j, extra, 301, 5, impl.OK)
			checked.k.Extra = extra
			expectChecked(t, c.what+", another Extra", checked, impl.OK)
		}
	}
	// the job itself is malformed when its own lock is that push, whatever the Extra is
	j = twinJob(t, 4, 7)
	j.Block.Txs[0].Outs[1].Lock = program(pushed(7))
	expectShareBlock(t, "a malformed job", j, 8, 301, 5, impl.ErrTaken)
}

func TestShareTarget(t *testing.T) {
	for level := int64(1); level <= 9999; level++ {
		got := impl.ShareTarget(level)
		if got.Code != impl.OK || got.Value*level > 2147483646 || (got.Value+1)*level <= 2147483646 {
			t.Errorf("ShareTarget of %d: %v", level, got)
		}
	}
	for level, target := range map[int64]int64{1: 2147483646, 2: 1073741823, 3: 715827882, 9998: 214791, 9999: 214769} {
		expectInt(t, "ShareTarget", impl.ShareTarget(level), impl.OK, target)
	}
	for _, level := range append(extremes(), -9999, 10000, 10001) {
		if level < 1 || level > 9999 {
			expectInt(t, "ShareTarget", impl.ShareTarget(level), impl.ErrRange, 0)
		}
	}
}

// A share is one of the job that it names, wherever that is.
func TestCheckShareOfJobs(t *testing.T) {
	ids := []int64{0, 8, 9, 9999}
	var jobs []impl.Job
	for i, id := range ids {
		jobs = append(jobs, jobAt(id, func(b *impl.Block) { b.Prev, b.Bits = int64(1000+i), int64(1020+i) }))
	}
	for i, id := range ids {
		for first := range i + 1 {
			for end := i + 1; end <= 4; end++ {
				got := expectChecked(t, "a job", shareCheck{jobs[first:end], keys(3), impl.Key{Job: id, Extra: 7, Time: 301, Nonce: 5}, 1}, impl.OK)
				if got.Block.Prev != int64(1000+i) || got.Block.Bits != int64(1020+i) {
					t.Errorf("the share of job %d is %v", id, got.Block)
				}
			}
		}
		without := slices.Delete(cloneJobs(jobs), i, i+1)
		expectChecked(t, "a job that is not there", shareCheck{without, nil, impl.Key{Job: id, Extra: 7, Time: 301, Nonce: 5}, 1}, impl.ErrNone)
	}
	for _, id := range []int64{1, 2, 3, 7, 10, 9998} {
		expectChecked(t, "no such job", shareCheck{jobs, nil, impl.Key{Job: id, Extra: 7, Time: 301, Nonce: 5}, 1}, impl.ErrNone)
		expectChecked(t, "no jobs", shareCheck{nil, nil, impl.Key{Job: id, Extra: 7, Time: 301, Nonce: 5}, 1}, impl.ErrNone)
	}
	expectChecked(t, "no jobs, an index", shareCheck{nil, nil, impl.Key{}, 1}, impl.ErrNone)
}

// The time of a share is from that of its job to MaxLate more, and at most MaxTime.
func TestCheckShareOfTimes(t *testing.T) {
	for _, time := range []int64{1, 2, 60, 61, 300, 99938, 99939, 99940, 99998, 99999} {
		jobs := []impl.Job{jobAt(3), jobAt(4, func(b *impl.Block) { b.Time = time }), jobAt(5, func(b *impl.Block) { b.Time = 5000 })}
		for _, late := range []int64{-time, -61, -60, -2, -1, 0, 1, 2, 59, 60, 61, 62, 1000} {
			c := shareCheck{jobs, nil, impl.Key{Job: 4, Extra: 7, Time: time + late, Nonce: 5}, 1}
			code := int64(impl.OK)
			if late < 0 || late > 60 {
				code = impl.ErrState
			}
			if c.k.Time < 0 || c.k.Time > 99999 {
				code = impl.ErrRange
			}
			got := expectChecked(t, "a time", c, code)
			if code == impl.OK && got.Block.Time != time+late {
				t.Errorf("the time %d is %v", time+late, got.Block)
			}
		}
	}
}

func TestCheckShareOfNumbers(t *testing.T) {
	for _, field := range keyFields() {
		for _, n := range append(extremes(), -2, field.limit-1, field.limit, field.limit+1, field.limit+2) {
			k := impl.Key{Job: 1, Extra: 7, Time: 301, Nonce: 5}
			*field.at(&k) = n
			c := shareCheck{jobsAt(1, 9999), nil, k, 1}
			code := modelCheck(c).Code
			if outside := n < 0 || n > field.limit; outside != (code == impl.ErrRange) {
				t.Errorf("%s %d: the model's code is %d", field.what, n, code)
			}
			expectChecked(t, field.what, c, code)
			c.jobs = nil
			if code != impl.ErrRange {
				code = impl.ErrNone
			}
			expectChecked(t, field.what+" without jobs", c, code)
		}
	}
	for _, level := range append(extremes(), 9998, 9999, 10000, 10001) {
		c := shareCheck{jobsAt(1), nil, impl.Key{Job: 1, Extra: 7, Time: 301, Nonce: 5}, level}
		code := modelCheck(c).Code
		if outside := level < 1 || level > 9999; outside != (code == impl.ErrRange) {
			t.Errorf("level %d: the model's code is %d", level, code)
		}
		expectChecked(t, "a level", c, code)
	}
}

// checkWithSum is a check of a share whose block has the HeaderSum; its job has another lock, time and nonce.
func checkWithSum(t *testing.T, bits int64, level int64, sum int64) shareCheck {
	t.Helper()
	share := jobAt(4, func(b *impl.Block) {
		b.Bits, b.Nonce = bits, 5
		b.Txs[0].Outs[1].Lock = program(pushed(7))
	})
	share.Block = withSumAt(t, share.Block, sum)
	j := cloneJobs([]impl.Job{share})[0]
	j.Block.Time, j.Block.Nonce, j.Block.Txs[0].Outs[1].Lock = max(1, j.Block.Time-20), 900, nil
	return shareCheck{[]impl.Job{jobAt(1), j, jobAt(9000)}, keys(2), impl.Key{Job: 4, Extra: 7, Time: share.Block.Time, Nonce: 5}, level}
}

// The HeaderSum of a share is at most its target, and it wins if it is at most the target of its Bits, too.
func TestCheckShareOfTargets(t *testing.T) {
	for _, level := range []int64{1, 2, 3, 4, 5, 100, 9998, 9999} {
		for _, bits := range []int64{1, 255, 513, 589, 1022, 1023} {
			least, win := modelShareTarget(level), modelTarget(bits)
			for _, sum := range []int64{0, 1, least - 1, least, least + 1, win - 1, win, win + 1, impl.MaxSum - 1, impl.MaxSum} {
				if sum > impl.MaxSum {
					continue
				}
				c := checkWithSum(t, bits, level, sum)
				code := int64(impl.OK)
				if sum > least {
					code = impl.ErrProof
				}
				got := expectChecked(t, "a sum", c, code)
				if code != impl.OK {
					continue
				}
				expectInt(t, "HeaderSum", impl.HeaderSum(got.Block), impl.OK, sum)
				if got.Win != (sum <= win) {
					t.Errorf("the sum %d of level %d and bits %d: %v", sum, level, bits, got)
				}
			}
		}
	}
}

// A share of a template that wins can be added after the tip, another one cannot.
func TestWinningSharesAreBlocks(t *testing.T) {
	for _, bits := range []int64{easyBits, 900} {
		tree := impl.Tree{Bits: bits}
		jobs := impl.PutJob(nil, impl.Job{Id: 3, Block: impl.TemplateOf(tree, nil, 1, 0, 300).Block}).Jobs
		won, other := 0, 0
		for i := range int64(600) {
			got := expectChecked(t, "a share", shareCheck{jobs, nil, impl.Key{Job: 3, Extra: 7 + i/60, Time: 300 + i%60, Nonce: i}, 1}, impl.OK)
			added := impl.AddBlock(tree, got.Block)
			if got.Win {
				won++
				expectCode(t, "a winning share", added.Code, impl.OK)
			} else {
				other++
				expectCode(t, "another share", added.Code, impl.ErrProof)
			}
		}
		if won < 20 || other < 20 {
			t.Errorf("%d shares won, %d did not", won, other)
		}
	}
}

// A key that is seen is taken before its proof is looked at, but after its job and its time.
func TestCheckShareOfSeenKeys(t *testing.T) {
	for _, sum := range []int64{0, modelShareTarget(50), modelShareTarget(50) + 1, impl.MaxSum} {
		for _, size := range []int{0, 1, 39} {
			for _, at := range []int{0, size / 2, size} {
				c := checkWithSum(t, easyBits, 50, sum)
				c.seen = slices.Insert(keys(size), at, c.k)
				expectChecked(t, "a seen key", c, impl.ErrTaken)
				for _, time := range []int64{c.jobs[1].Block.Time + 61, c.jobs[1].Block.Time - 1} {
					late := c.clone()
					late.k.Time = time
					late.seen[at] = late.k
					expectChecked(t, "a seen key that is not in time", late, impl.ErrState)
				}
				gone := c.clone()
				gone.k.Job = 5
				gone.seen[at] = gone.k
				expectChecked(t, "a seen key without a job", gone, impl.ErrNone)
			}
		}
	}
	// a key that differs in one field is another one
	c := shareCheck{jobsAt(4, 5), nil, impl.Key{Job: 4, Extra: 7, Time: 301, Nonce: 5}, 1}
	for _, field := range keyFields() {
		other := c.k
		*field.at(&other)++
		c.seen = append(c.seen, other)
		expectChecked(t, "another "+field.what, c, impl.OK)
	}
	c.seen = append(c.seen, c.k)
	expectChecked(t, "the same", c, impl.ErrTaken)
}

// The room for one more key is asked for last.
func TestCheckShareOfFullKeys(t *testing.T) {
	target := modelShareTarget(50)
	for _, size := range []int{0, 1, 38, 39} {
		c := checkWithSum(t, easyBits, 50, target)
		c.seen = keys(size)
		got := expectChecked(t, "room", c, impl.OK)
		if len(got.Seen) != size+1 || !slices.Equal(got.Seen[:size], c.seen) || got.Seen[size] != c.k {
			t.Errorf("%v after %v is %v", c.k, c.seen, got.Seen)
		}
	}
	c := checkWithSum(t, easyBits, 50, target)
	c.seen = keys(40)
	expectChecked(t, "a proof", c, impl.ErrFull)
	for _, at := range []int{0, 1, 20, 39} {
		among := c.clone()
		among.seen[at] = c.k
		expectChecked(t, "a key among them", among, impl.ErrTaken)
	}
	late := c.clone()
	late.k.Time = late.jobs[1].Block.Time + 61
	expectChecked(t, "a late key", late, impl.ErrState)
	c.k.Job = 7
	expectChecked(t, "no job", c, impl.ErrNone)
	c = checkWithSum(t, easyBits, 50, target+1)
	c.seen = keys(40)
	expectChecked(t, "no proof", c, impl.ErrProof)
	c.seen = keys(41)
	expectChecked(t, "41 keys", c, impl.ErrMany)
}

type checkChange struct {
	what string
	code int64
	make func(*shareCheck)
}

// checkFaultsInOrder lists changes in the order in which the contract of CheckShare checks for them.
// Each is made after the ones before it, and changes nothing that they depend on.
func checkFaultsInOrder(t *testing.T) []checkChange {
	fill := func(size int) func(*shareCheck) {
		return func(c *shareCheck) { c.seen = append(c.seen, keys(size)[min(len(c.seen), size):]...) }
	}
	return []checkChange{
		{"5 jobs", impl.ErrMany, func(c *shareCheck) { c.jobs = append(c.jobs, jobAt(9001)) }},
		{"third Id", impl.ErrRange, func(c *shareCheck) { c.jobs[2].Id = 10000 }},
		{"third block", impl.ErrMany, func(c *shareCheck) { c.jobs[2].Block.Txs = nil }},
		{"fourth base", impl.ErrForm, func(c *shareCheck) { c.jobs[3].Block.Txs[0] = baseTx(1, 50) }},
		{"41 seen", impl.ErrMany, fill(41)},
		{"seen Nonce", impl.ErrRange, func(c *shareCheck) { c.seen[1].Nonce = -1 }},
		{"equal seen keys", impl.ErrTaken, func(c *shareCheck) { c.seen[2] = c.seen[0] }},
		{"Extra", impl.ErrRange, func(c *shareCheck) { c.k.Extra = 1000 }},
		{"level", impl.ErrRange, func(c *shareCheck) { c.level = 0 }},
		{"no job", impl.ErrNone, func(c *shareCheck) { c.k.Job = 5 }},
		{"early", impl.ErrState, func(c *shareCheck) { c.k.Time = c.jobs[1].Block.Time - 1 }},
		{"late", impl.ErrState, func(c *shareCheck) { c.k.Time = c.jobs[1].Block.Time + 61 }},
		{"seen", impl.ErrTaken, func(c *shareCheck) { c.seen[3] = c.k }},
		{"twin", impl.ErrTaken, func(c *shareCheck) { c.jobs[1].Block.Txs[1] = twinJob(t, 4, 7).Block.Txs[1] }},
		{"no proof", impl.ErrProof, func(c *shareCheck) { c.jobs[1].Block.Prev = unprovenPrev(t) }},
		{"40 seen", impl.ErrFull, fill(40)},
	}
}

// newCheck has a share that is accepted if nothing is changed.
func newCheck(changes ...func(*shareCheck)) shareCheck {
	c := shareCheck{jobsAt(1, 4, 8, 9000), keys(5), impl.Key{Job: 4, Extra: 7, Time: 301, Nonce: 5}, 2}
	for c.jobs[1].Block.Prev = 0; modelCheck(c).Code == impl.ErrProof; c.jobs[1].Block.Prev++ {
	}
	for _, change := range changes {
		change(&c)
	}
	return c
}

// unprovenPrev is a Prev of the job of newCheck with which its share has no proof.
func unprovenPrev(t *testing.T) int64 {
	t.Helper()
	c := newCheck()
	for c.jobs[1].Block.Prev = 0; modelCheck(c).Code == impl.OK; c.jobs[1].Block.Prev += 1 << 20 {
		if c.jobs[1].Block.Prev > impl.MaxSum {
			t.Fatal("all have a proof")
		}
	}
	return c.jobs[1].Block.Prev
}

func TestCheckShareOrderOfCodes(t *testing.T) {
	expectChecked(t, "no change", newCheck(), impl.OK)
	faults := checkFaultsInOrder(t)
	for i, first := range faults {
		expectChecked(t, first.what, newCheck(first.make), first.code)
		for _, later := range faults[i+1:] {
			expectChecked(t, first.what+" and "+later.what, newCheck(first.make, later.make), first.code)
		}
	}
}

func TestPutJobOfSizes(t *testing.T) {
	for size := range 4 {
		jobs := jobsAt(3, 4, 70, 800)[:size]
		got := expectPut(t, "room", jobs, jobAt(801), impl.OK)
		if len(got.Jobs) != size+1 || !equalJobs(got.Jobs[:size], jobs) || !equalJobs(got.Jobs[size:], jobsAt(801)) {
			t.Errorf("801 after %v is %v", jobs, got.Jobs)
		}
	}
	got := expectPut(t, "no room", jobsAt(3, 4, 70, 800), jobAt(801), impl.OK)
	if !equalJobs(got.Jobs, jobsAt(4, 70, 800, 801)) {
		t.Errorf("801 after 4 jobs is %v", got.Jobs)
	}
	for _, id := range []int64{0, 9999} {
		if first := expectPut(t, "a first job", nil, jobAt(id), impl.OK); !equalJobs(first.Jobs, jobsAt(id)) {
			t.Errorf("the first job %d: %v", id, first.Jobs)
		}
	}
	for _, size := range []int{5, 6} {
		expectPut(t, "too many jobs", jobsAt(1, 2, 3, 4, 5, 6)[:size], jobAt(801), impl.ErrMany)
	}
}

// A job comes after the last one; the Id of an earlier one is taken, and so is each that is less.
func TestPutJobOfIds(t *testing.T) {
	ids := []int64{10, 20, 30, 40}
	for size := 1; size <= 4; size++ {
		jobs := jobsAt(ids[:size]...)
		last := ids[size-1]
		for _, id := range []int64{0, 1, 9, 10, 11, 19, 20, 21, 29, 30, 31, 39, 40, 41, 9999} {
			code := int64(impl.ErrTaken)
			if id > last {
				code = impl.OK
			}
			expectPut(t, "an Id", jobs, jobAt(id), code)
			expectPut(t, "an Id of another block", jobs, jobAt(id, func(b *impl.Block) { b.Prev, b.Txs = 5, b.Txs[:1] }), code)
		}
		for _, id := range []int64{-1, 10000, math.MinInt64, math.MaxInt64} {
			expectPut(t, "an Id out of range", jobs, jobAt(id), impl.ErrRange)
		}
	}
	expectPut(t, "the last Id", jobsAt(9998), jobAt(9999), impl.OK)
	expectPut(t, "none is left", jobsAt(9999), jobAt(9999), impl.ErrTaken)
	expectPut(t, "0 after 0", jobsAt(0), jobAt(0), impl.ErrTaken)
	expectPut(t, "1 after 0", jobsAt(0), jobAt(1), impl.OK)
}

func TestPutJobOrderOfCodes(t *testing.T) {
	for _, c := range jobFaultsInOrder() {
		bad := jobAt(2)
		c.make(&bad)
		for size := range 5 {
			expectPut(t, c.what, jobsAt(1, 2, 3, 4)[:size], bad, c.code)
		}
		for _, other := range jobFaultsInOrder() {
			jobs := jobsAt(1, 2, 3)
			other.make(&jobs[2])
			expectPut(t, other.what+" in the jobs and "+c.what, jobs, bad, other.code)
		}
		expectPut(t, "the order of the jobs and "+c.what, jobsAt(5, 5), bad, impl.ErrForm)
	}
}

// randomJob has a block of any form that a job may have.
func randomJob(source *rand.Rand, id int64) impl.Job {
	return jobAt(id, func(b *impl.Block) {
		bits := wellFormedBits()
		b.Prev, b.Time, b.Nonce = source.Int64N(impl.MaxSum+1), 300+source.Int64N(4), source.Int64N(65536)
		b.Bits = bits[len(bits)-1-source.IntN(300)]
		b.Txs = b.Txs[:1+source.IntN(4)]
		b.Txs[0].Outs[1].Lock = randomLock(source)
		b.Txs[0].Note = source.Int64N(65536)
	})
}

// Promise 12: an accepted share is seen and is not accepted again, whatever its level is; its block is valid in form.
func TestPromise12Accepted(t *testing.T) {
	source := rand.New(rand.NewPCG(12, 1))
	codes, wins := map[int64]int{}, 0
	for range 40 {
		c := shareCheck{jobs: jobsAt(0)}
		for len(c.jobs) < 4 {
			c.jobs = append(c.jobs, randomJob(source, lastOf(c.jobs)+1+source.Int64N(3)))
		}
		for range 90 {
			c.k = impl.Key{Job: c.jobs[source.IntN(4)].Id, Extra: source.Int64N(999), Time: 298 + source.Int64N(63), Nonce: source.Int64N(65536)}
			c.level = 1 + source.Int64N(4)*source.Int64N(3)
			if len(c.seen) > 0 && source.IntN(8) == 0 {
				c.k = c.seen[source.IntN(len(c.seen))]
			}
			if source.IntN(12) == 0 {
				c.k.Job += 20
			}
			got := expectChecked(t, "a share", c, modelCheck(c).Code)
			codes[got.Code]++
			if got.Code != impl.OK {
				continue
			}
			if got.Win {
				wins++
			}
			expectAccepted(t, c, got)
			c.seen = got.Seen
		}
	}
	for _, code := range []int64{impl.OK, impl.ErrNone, impl.ErrTaken, impl.ErrProof, impl.ErrState, impl.ErrFull} {
		if codes[code] < 30 {
			t.Errorf("code %d came up %d times only", code, codes[code])
		}
	}
	if wins < 30 || wins > codes[impl.OK]-30 {
		t.Errorf("%d of %d shares won", wins, codes[impl.OK])
	}
}

// expectAccepted requires of an accepted share what promise 12 says.
func expectAccepted(t *testing.T, c shareCheck, got impl.ShareResult) {
	t.Helper()
	if !slices.Contains(got.Seen, c.k) || slices.Contains(c.seen, c.k) || !slices.Equal(got.Seen, append(slices.Clone(c.seen), c.k)) {
		t.Errorf("%v after %v is %v", c.k, c.seen, got.Seen)
	}
	expectCode(t, "SeenFault", impl.SeenFault(got.Seen), impl.OK)
	expectCode(t, "BlockFault", impl.BlockFault(got.Block), impl.OK)
	at := slices.IndexFunc(c.jobs, func(j impl.Job) bool { return j.Id == c.k.Job })
	expectTemplate(t, "its block", impl.ShareBlock(c.jobs[at], c.k.Extra, c.k.Time, c.k.Nonce), impl.BlockResult{Block: got.Block})
	if sum := impl.HeaderSum(got.Block).Value; sum > impl.ShareTarget(c.level).Value {
		t.Errorf("the sum %d of %v", sum, got)
	}
	for _, level := range []int64{1, c.level, 9999} {
		expectChecked(t, "again", shareCheck{c.jobs, got.Seen, c.k, level}, impl.ErrTaken)
	}
}

// Promise 12: an added job is present, the oldest one is dropped if there is no room, and the others keep their order.
func TestPromise12Added(t *testing.T) {
	source := rand.New(rand.NewPCG(12, 2))
	taken := 0
	for range 30 {
		var jobs []impl.Job
		for range 25 {
			j := randomJob(source, max(0, lastOf(jobs)+source.Int64N(6)-1))
			got := expectPut(t, "a job", jobs, j, modelPut(jobs, j).Code)
			if got.Code != impl.OK {
				expectCode(t, "an Id that is not greater", got.Code, impl.ErrTaken)
				taken++
				continue
			}
			dropped := max(0, len(jobs)-3)
			last := len(got.Jobs) - 1
			if !equalJobs(got.Jobs[last:], []impl.Job{j}) || !equalJobs(got.Jobs[:last], jobs[dropped:]) {
				t.Errorf("%v after %v is %v", j, jobs, got.Jobs)
			}
			expectCode(t, "JobsFault", impl.JobsFault(got.Jobs), impl.OK)
			expectPut(t, "again", got.Jobs, j, impl.ErrTaken)
			expectWorkable(t, got.Jobs, jobs[:dropped])
			jobs = got.Jobs
		}
	}
	if taken < 100 {
		t.Errorf("%d jobs were refused", taken)
	}
}

// expectWorkable requires that shares of the jobs are accepted, and those of dropped ones are not.
func expectWorkable(t *testing.T, jobs []impl.Job, dropped []impl.Job) {
	t.Helper()
	for _, j := range jobs {
		expectChecked(t, "a job", shareCheck{jobs, nil, impl.Key{Job: j.Id, Extra: 7, Time: j.Block.Time + 1}, 1}, impl.OK)
	}
	for _, j := range dropped {
		expectChecked(t, "a dropped job", shareCheck{jobs, nil, impl.Key{Job: j.Id, Extra: 7, Time: j.Block.Time + 1}, 1}, impl.ErrNone)
	}
}

// Promise 12: the block of a share is valid in form for each Extra, time and nonce.
func TestPromise12Blocks(t *testing.T) {
	source := rand.New(rand.NewPCG(12, 3))
	for range 60 {
		j := randomJob(source, source.Int64N(10000))
		for extra := range int64(1000) {
			got := impl.ShareBlock(j, extra, 1+source.Int64N(99999), source.Int64N(65536))
			if got.Code != impl.OK || impl.BlockFault(got.Block) != impl.OK || !slices.Equal(got.Block.Txs[0].Outs[1].Lock, []int64{100 + extra}) {
				t.Fatalf("the block of %v and %d: %v", j, extra, got)
			}
		}
	}
}

// wildJobs are jobs at and beyond every bound.
func wildJobs() []impl.Job {
	list := []impl.Job{{}, jobAt(3), jobAt(9999)}
	for _, n := range extremes() {
		list = append(list, jobAt(n), jobAt(3, func(b *impl.Block) { b.Txs[0] = baseTx(n, n, n) }), jobAt(4, func(b *impl.Block) { b.Time = n }))
	}
	for _, b := range wildBlocks() {
		list = append(list, impl.Job{Id: 3, Block: b})
	}
	return list
}

// Promise 1: all functions return for all arguments, the same each time, and change none.
func TestPromise1AllOfChapter11(t *testing.T) {
	source := rand.New(rand.NewPCG(12, 4))
	jobs, wild := wildJobs(), append(extremes(), 3, 4, 300, 360, 999, 1000, 9999, 10000, 65535, 65536, 99999, 100000)
	number := func() int64 { return wild[source.IntN(len(wild))] }
	for i, j := range jobs {
		expectJobs(t, "a job", []impl.Job{j}, modelJobsFault([]impl.Job{j}))
		list := []impl.Job{jobAt(2), j, jobs[source.IntN(len(jobs))], jobAt(9000)}[:1+i%4]
		expectJobs(t, "some jobs", list, modelJobsFault(list))
		other := jobAt(number())
		expectPut(t, "a job", list, other, modelPut(list, other).Code)
	}
	for _, level := range wild {
		expectPure(t, "ShareTarget", func() impl.IntResult { return impl.ShareTarget(level) })
	}
	for range 3000 {
		extra, time, nonce := number(), number(), number()
		j := jobs[source.IntN(len(jobs))]
		expectShareBlock(t, "a job", j, extra, time, nonce, modelShareBlock(j, extra, time, nonce).Code)
		c := shareCheck{jobsAt(3, 4), keys(source.IntN(42)), impl.Key{Job: 3, Extra: 7, Time: 301, Nonce: 5}, 1 + source.Int64N(3)}
		for range source.IntN(3) {
			*keyFields()[source.IntN(4)].at(&c.k) = number()
		}
		switch source.IntN(5) {
		case 0:
			c.jobs[1] = j
		case 1:
			c.level = number()
		case 2:
			c.seen = append(c.seen, c.k)
		case 3:
			c.seen = append(c.seen, impl.Key{Job: number(), Extra: number(), Time: number(), Nonce: number()})
		}
		expectChecked(t, "a share", c, modelCheck(c).Code)
		expectCode(t, "SeenFault", impl.SeenFault(c.seen), modelSeenFault(c.seen))
	}
}

// Promise 1: nil is an empty list.
func TestPromise1NilOfChapter11(t *testing.T) {
	k := impl.Key{Job: 4, Extra: 7, Time: 301, Nonce: 5}
	none, empty := shareCheck{jobsAt(4), nil, k, 1}, shareCheck{jobsAt(4), []impl.Key{}, k, 1}
	if !equalShares(none.result(), empty.result()) || none.result().Code != impl.OK {
		t.Errorf("%v and %v differ", none.result(), empty.result())
	}
	none.jobs, empty.jobs = nil, []impl.Job{}
	if !equalShares(none.result(), empty.result()) {
		t.Errorf("%v and %v differ", none.result(), empty.result())
	}
	if a, b := impl.PutJob(nil, jobAt(4)), impl.PutJob([]impl.Job{}, jobAt(4)); a.Code != impl.OK || b.Code != impl.OK || !equalJobs(a.Jobs, b.Jobs) {
		t.Errorf("%v and %v differ", a, b)
	}
}

// Promise 1: nothing is written behind the end of an argument, and nothing is read there.
func TestPromise1EndsOfChapter11(t *testing.T) {
	whole, seen := jobsAt(1, 2, 3, 4, 0), keys(41)
	seen[40] = seen[0]
	for size := range 5 {
		before := cloneJobs(whole)
		expectJobs(t, "a part", whole[:size], impl.OK)
		expectPut(t, "a part", whole[:size], jobAt(7), impl.OK)
		if !equalJobs(whole, before) {
			t.Fatalf("%v was changed to %v", before, whole)
		}
	}
	for size := range 41 {
		before := slices.Clone(seen)
		expectCode(t, "a part", impl.SeenFault(seen[:size]), impl.OK)
		impl.CheckShare(whole[:4], seen[:size], impl.Key{Job: 4, Extra: 7, Time: 301, Nonce: 5}, 1)
		if !slices.Equal(seen, before) {
			t.Fatalf("%v was changed to %v", before, seen)
		}
	}
	j := jobAt(4)
	j.Block.Txs = append(j.Block.Txs, impl.Tx{Note: -1})[:4]
	j.Block.Txs[0].Outs = append(j.Block.Txs[0].Outs, impl.Out{Value: -1})[:2]
	j.Block.Txs[0].Outs[1].Lock = []int64{pushed(1), -1}[:1]
	expectShareBlock(t, "a part", j, 7, 301, 5, impl.OK)
	expectChecked(t, "a part", shareCheck{[]impl.Job{j}, nil, impl.Key{Job: 4, Extra: 7, Time: 301}, 1}, impl.OK)
	if out := j.Block.Txs[0].Outs; j.Block.Txs[:5][4].Note != -1 || out[:3][2].Value != -1 || !slices.Equal(out[1].Lock[:2], []int64{pushed(1), -1}) {
		t.Errorf("%v was changed", j)
	}
}

// sharingJobs share their transactions, and these their locks and proofs.
func sharingJobs(ids ...int64) []impl.Job {
	lock, proof := program(pushed(3), impl.OpSign), []int64{5}
	first := jobAt(0)
	for _, x := range first.Block.Txs {
		for i := range x.Outs {
			x.Outs[i].Lock = lock
		}
		for i := range x.Ins {
			x.Ins[i].Proof = proof
		}
	}
	var jobs []impl.Job
	for _, id := range ids {
		jobs = append(jobs, impl.Job{Id: id, Block: first.Block})
	}
	return jobs
}

// Promise 1: results are new memory, the blocks of their jobs too.
func TestPromise1NewMemoryOfChapter11(t *testing.T) {
	jobs, seen := sharingJobs(1, 2, 3, 4, 5), slices.Grow(keys(3), 30)
	earlier, before := cloneJobs(jobs), slices.Clone(seen)
	last := impl.Key{Job: 4, Extra: 7, Time: 301, Nonce: 5}
	for size := range 5 {
		put := func() impl.JobsResult { return impl.PutJob(jobs[:size], jobs[4]) }
		got, again := put(), put()
		expectApart(t, "PutJob", got, again, jobs)
		for _, j := range got.Jobs {
			spoil(j.Block)
		}
		clear(got.Jobs)
		if !equalJobs(again.Jobs, modelPut(earlier[:size], earlier[4]).Jobs) {
			t.Errorf("another result was changed to %v", again)
		}
	}
	check := func() impl.ShareResult { return impl.CheckShare(jobs[:4], seen, last, 1) }
	share := func() impl.BlockResult { return impl.ShareBlock(jobs[0], 7, 301, 5) }
	checked, shared := check(), share()
	expectCode(t, "CheckShare", checked.Code, impl.OK)
	expectApart(t, "CheckShare", checked, check(), jobs, seen)
	expectApart(t, "ShareBlock", shared, share(), checked, jobs)
	want, block := check(), share()
	spoil(checked.Block)
	spoil(shared.Block)
	clear(checked.Seen)
	_ = append(checked.Seen, impl.Key{Job: -1})
	if !equalJobs(jobs, earlier) || !slices.Equal(seen, before) || !equalShares(check(), want) || !equalBlocks(share().Block, block.Block) {
		t.Errorf("%v was changed to %v, or %v to %v", earlier, jobs, before, seen)
	}
	// what was put stays when the argument is used again
	kept := impl.PutJob(jobs[:3], jobs[3])
	spoil(jobs[0].Block)
	if !equalJobs(kept.Jobs, earlier[:4]) {
		t.Errorf("PutJob: %v instead of %v", kept.Jobs, earlier[:4])
	}
}

// spoil changes all lists of a block.
func spoil(b impl.Block) {
	for _, x := range b.Txs {
		for _, in := range x.Ins {
			clear(in.Proof)
		}
		for _, out := range x.Outs {
			clear(out.Lock)
		}
		clear(x.Ins)
		clear(x.Outs)
	}
	clear(b.Txs)
}
