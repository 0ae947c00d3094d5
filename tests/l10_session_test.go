package tests

import (
	"bytes"
	"math/rand/v2"
	"regexp"
	"slices"
	"strconv"
	"strings"
	"testing"

	"loop.example/g00539/impl"
)

// shareForm is the form of the arguments of a share, with a blank between them.
var shareForm = regexp.MustCompile(`\A(0|[1-9]\d{0,3}) (0|[1-9]\d{0,4}) (0|[1-9]\d{0,3}|[1-5]\d{4}|6[0-4]\d{3}|65[0-4]\d{2}|655[0-2]\d|6553[0-5])\z`)

func cloneServer(s impl.Server) impl.Server {
	return impl.Server{Sessions: slices.Clone(s.Sessions), Next: s.Next}
}

func equalServers(a impl.Server, b impl.Server) bool {
	return a.Next == b.Next && slices.Equal(a.Sessions, b.Sessions)
}

func equalHeard(a impl.ServerResult, b impl.ServerResult) bool {
	return a.Code == b.Code && slices.Equal(a.Lines, b.Lines) && slices.Equal(a.Acts, b.Acts) && equalServers(a.Server, b.Server)
}

func modelServerFault(s impl.Server) int64 {
	if len(s.Sessions) > 4 {
		return impl.ErrMany
	}
	taken := map[int64]bool{}
	greatest := int64(-1)
	for _, e := range s.Sessions {
		if len(e.Rest) > 161 || strings.Contains(e.Rest, "\n") || !argForm.MatchString(e.Worker) {
			return impl.ErrText
		}
		if e.Extra < -1 || e.Extra > 998 || e.Level < 1 || e.Level > 9999 {
			return impl.ErrRange
		}
		if e.Extra == -1 && e.Worker != "" {
			return impl.ErrForm
		}
		if taken[e.Extra] {
			return impl.ErrTaken
		}
		taken[e.Extra] = e.Extra != -1
		greatest = max(greatest, e.Extra)
	}
	if s.Next < 0 || s.Next > 999 || greatest >= s.Next {
		return impl.ErrRange
	}
	return impl.OK
}

func modelSessionAt(s impl.Server, who int64) int64 {
	if code := modelServerFault(s); code != impl.OK {
		return code
	}
	if who < 0 || who > int64(len(s.Sessions))-1 {
		return impl.ErrNone
	}
	return impl.OK
}

// modelAnswer is the code of the reply to a line, 0 if it is true, or -1 for a share.
func modelAnswer(s impl.Server, who int64, line string) int64 {
	read, e := modelReadRequest(line), s.Sessions[who]
	switch args := read.Request.Args; {
	case read.Code != impl.OK:
		return 20
	case read.Request.Method == 1 && e.Extra >= 0:
		return 21
	case read.Request.Method == 1 && s.Next == 999:
		return 22
	case read.Request.Method == 2 && e.Extra < 0:
		return 23
	case read.Request.Method == 2 && (len(args) == 0 || args[0] == ""):
		return 24
	case read.Request.Method == 3 && e.Worker == "":
		return 25
	case read.Request.Method == 3 && !shareForm.MatchString(strings.Join(args, " ")):
		return 24
	case read.Request.Method == 3:
		return -1
	}
	return 0
}

func modelAct(e impl.Session, who int64, r impl.Request) impl.Act {
	act := impl.Act{Who: who, Id: r.Id, Worker: e.Worker, Extra: e.Extra}
	for i, field := range []*int64{&act.Job, &act.Time, &act.Nonce} {
		*field, _ = strconv.ParseInt(r.Args[i], 10, 64)
	}
	return act
}

// modelLines lets a session hear lines one by one.
func modelLines(s impl.Server, who int64, lines []string) impl.ServerResult {
	result := impl.ServerResult{Server: cloneServer(s)}
	e := &result.Server.Sessions[who]
	for _, line := range lines {
		r, code := modelReadRequest(line).Request, modelAnswer(result.Server, who, line)
		if code < 0 {
			result.Acts = append(result.Acts, modelAct(*e, who, r))
			continue
		}
		result.Lines = append(result.Lines, modelReply(r.Id, code == 0, code).Text)
		if code == 0 && r.Method == 1 {
			e.Extra, result.Server.Next = result.Server.Next, result.Server.Next+1
		}
		if code == 0 && r.Method == 2 {
			e.Worker = r.Args[0]
		}
	}
	return result
}

func modelHearLine(s impl.Server, who int64, line string) impl.ServerResult {
	if code := modelSessionAt(s, who); code != impl.OK {
		return impl.ServerResult{Code: code}
	}
	return modelLines(s, who, []string{line})
}

func modelHearBytes(s impl.Server, who int64, data string) impl.ServerResult {
	if code := modelSessionAt(s, who); code != impl.OK {
		return impl.ServerResult{Code: code}
	}
	cut := modelCut(s.Sessions[who].Rest, data)
	if cut.Code != impl.OK {
		return impl.ServerResult{Code: cut.Code}
	}
	result := modelLines(s, who, cut.Lines)
	result.Server.Sessions[who].Rest = cut.Rest
	return result
}

func modelOpen(s impl.Server) impl.ServerResult {
	if code := modelServerFault(s); code != impl.OK {
		return impl.ServerResult{Code: code}
	}
	if len(s.Sessions) == 4 {
		return impl.ServerResult{Code: impl.ErrFull}
	}
	return impl.ServerResult{Server: serverOf(s.Next, append(slices.Clone(s.Sessions), newSession())...)}
}

func modelClose(s impl.Server, who int64) impl.ServerResult {
	if code := modelSessionAt(s, who); code != impl.OK {
		return impl.ServerResult{Code: code}
	}
	return impl.ServerResult{Server: serverOf(s.Next, slices.Concat(s.Sessions[:who], s.Sessions[who+1:])...)}
}

func modelWorkers(s impl.Server) impl.LinesResult {
	result := impl.LinesResult{Code: modelServerFault(s)}
	known := map[string]bool{"": true}
	for _, e := range s.Sessions {
		if result.Code == impl.OK && !known[e.Worker] {
			result.Lines = append(result.Lines, e.Worker)
			known[e.Worker] = true
		}
	}
	return result
}

func serverOf(next int64, sessions ...impl.Session) impl.Server {
	return impl.Server{Sessions: sessions, Next: next}
}

func newSession() impl.Session {
	return impl.Session{Extra: -1, Level: 1}
}

func subscribed(extra int64) impl.Session {
	return impl.Session{Extra: extra, Level: 1}
}

func authorized(extra int64, worker string) impl.Session {
	return impl.Session{Extra: extra, Worker: worker, Level: 1}
}

// someServer has sessions in all states.
func someServer() impl.Server {
	ann := impl.Session{Rest: `{"id":1,`, Extra: 4, Worker: "ann", Level: 17}
	return serverOf(7, newSession(), ann, subscribed(6), authorized(0, "bob"))
}

// said is the line of a request.
func said(id int64, method int64, args ...string) string {
	return modelRequestText(request(id, method, args...)).Text
}

// expectHeard requires of HearLine what the model returns.
func expectHeard(t *testing.T, what string, s impl.Server, who int64, line string) impl.ServerResult {
	t.Helper()
	before := cloneServer(s)
	got, want := impl.HearLine(s, who, line), modelHearLine(s, who, line)
	if !equalHeard(got, want) || !equalHeard(impl.HearLine(s, who, line), want) {
		t.Errorf("%s: %v heard %q from %d: %v instead of %v", what, s, line, who, got, want)
	}
	if !equalServers(s, before) {
		t.Fatalf("%s: HearLine changed %v to %v", what, before, s)
	}
	expectStillOwn(t, what, s, who, got)
	return got
}

func expectHeardBytes(t *testing.T, what string, s impl.Server, who int64, text string) impl.ServerResult {
	t.Helper()
	before, data := cloneServer(s), []byte(text)
	got, want := impl.HearBytes(s, who, data), modelHearBytes(s, who, text)
	if !equalHeard(got, want) || !equalHeard(impl.HearBytes(s, who, data), want) {
		t.Errorf("%s: %v heard the bytes %q from %d: %v instead of %v", what, s, text, who, got, want)
	}
	if !equalServers(s, before) || string(data) != text {
		t.Fatalf("%s: HearBytes changed %v to %v, %q to %q", what, before, s, text, data)
	}
	expectStillOwn(t, what, s, who, got)
	return got
}

// expectStillOwn requires that a session's lines have changed nothing but the
// session, that the server is still valid, and that each line is a reply.
func expectStillOwn(t *testing.T, what string, s impl.Server, who int64, got impl.ServerResult) {
	t.Helper()
	if got.Code != impl.OK {
		return
	}
	if code := impl.ServerFault(got.Server); code != impl.OK {
		t.Errorf("%s: %v has the fault %d", what, got.Server, code)
	}
	for i, e := range s.Sessions {
		if int64(i) != who && e != got.Server.Sessions[i] {
			t.Errorf("%s: session %d became %v instead of %v", what, i, got.Server.Sessions[i], e)
		}
	}
	subscriptions := int64(0)
	if s.Sessions[who].Extra != got.Server.Sessions[who].Extra {
		subscriptions = 1
	}
	if got.Server.Next != s.Next+subscriptions || got.Server.Sessions[who].Level != s.Sessions[who].Level {
		t.Errorf("%s: %v became %v", what, s, got.Server)
	}
	for _, line := range got.Lines {
		if back := impl.ReadReply(line); back.Code != impl.OK || (back.List[1] == 1) != (back.List[2] == 0) {
			t.Errorf("%s: %q is no reply of a session: %v", what, line, back)
		}
	}
}

// expectAnswer requires one reply and no share, and returns the server after it.
func expectAnswer(t *testing.T, what string, s impl.Server, who int64, line string, id int64, code int64) impl.Server {
	t.Helper()
	got := expectHeard(t, what, s, who, line)
	want := impl.ReplyText(id, code == 0, code).Text
	if got.Code != impl.OK || len(got.Acts) != 0 || !slices.Equal(got.Lines, []string{want}) {
		t.Errorf("%s: %q is answered by %v instead of %q", what, line, got, want)
	}
	if code != 0 && !equalServers(got.Server, s) {
		t.Errorf("%s: a refused line changed %v to %v", what, s, got.Server)
	}
	both := expectHeardBytes(t, what, s, who, line+"\n")
	if len(s.Sessions[who].Rest) == 0 && !strings.Contains(line, "\n") && !equalHeard(both, got) {
		t.Errorf("%s: %q in bytes: %v instead of %v", what, line, both, got)
	}
	return got.Server
}

// expectShare requires a share and no reply, and that the server stays as it is.
func expectShare(t *testing.T, what string, s impl.Server, who int64, line string, act impl.Act) {
	t.Helper()
	got := expectHeard(t, what, s, who, line)
	if got.Code != impl.OK || len(got.Lines) != 0 || !slices.Equal(got.Acts, []impl.Act{act}) || !equalServers(got.Server, s) {
		t.Errorf("%s: %q leads to %v instead of %v", what, line, got, act)
	}
}

// expectNothing requires that nothing stands beside a code.
func expectNothing(t *testing.T, what string, got impl.ServerResult, code int64) {
	t.Helper()
	if !equalHeard(got, impl.ServerResult{Code: code}) {
		t.Errorf("%s: %v instead of code %d alone", what, got, code)
	}
}

// expectServer requires a code of ServerFault, and that each function returns it before its own codes.
func expectServer(t *testing.T, what string, s impl.Server, code int64) {
	t.Helper()
	before := cloneServer(s)
	if got := impl.ServerFault(s); got != code || got != modelServerFault(s) {
		t.Errorf("%s: ServerFault of %v is %d instead of %d, the model's is %d", what, s, got, code, modelServerFault(s))
	}
	opened, workers := impl.OpenSession(s), impl.WorkersOf(s)
	if !equalHeard(opened, modelOpen(s)) || !equalHeard(impl.OpenSession(s), opened) {
		t.Errorf("%s: OpenSession of %v: %v instead of %v", what, s, opened, modelOpen(s))
	}
	if !equalLines(workers, modelWorkers(s)) || !equalLines(impl.WorkersOf(s), workers) {
		t.Errorf("%s: WorkersOf %v: %v instead of %v", what, s, workers, modelWorkers(s))
	}
	for who := int64(-1); who <= int64(len(s.Sessions)); who++ {
		closed := impl.CloseSession(s, who)
		if !equalHeard(closed, modelClose(s, who)) || !equalHeard(impl.CloseSession(s, who), closed) {
			t.Errorf("%s: CloseSession of %v and %d: %v instead of %v", what, s, who, closed, modelClose(s, who))
		}
		expectHeard(t, what, s, who, said(3, impl.MethodSubscribe))
		expectHeardBytes(t, what, s, who, strings.Repeat("\n", 3))
		if code != impl.OK {
			expectNothing(t, what, closed, code)
			expectNothing(t, what, impl.HearLine(s, who, ""), code)
			expectNothing(t, what, impl.HearBytes(s, who, nil), code)
			expectNothing(t, what, impl.HearBytes(s, who, make([]byte, 1001)), code)
		}
	}
	if code != impl.OK {
		expectNothing(t, what, opened, code)
	}
	if !equalServers(s, before) {
		t.Fatalf("%s: %v was changed to %v", what, before, s)
	}
}

func TestConstantsOfChapter10(t *testing.T) {
	if impl.MaxSessions != 4 {
		t.Errorf("MaxSessions is %d", impl.MaxSessions)
	}
}

func TestExamplesOfChapter10(t *testing.T) {
	s := impl.OpenSession(impl.Server{}).Server
	expectAnswer(t, "authorizing before subscribing", s, 0, `{"id":5,"method":"mining.authorize","params":["bob"]}`, 5, 23)
	got := expectHeardBytes(t, "x and a brace", s, 0, "x\n{")
	if !slices.Equal(got.Lines, []string{`{"id":0,"result":false,"error":20}`}) || len(got.Acts) != 0 || got.Server.Sessions[0].Rest != "{" {
		t.Errorf("x and a brace: %v", got)
	}
}

func TestServerFaultOfSizes(t *testing.T) {
	expectServer(t, "no sessions", impl.Server{}, impl.OK)
	for count := range 8 {
		code := int64(impl.OK)
		if count > 4 {
			code = impl.ErrMany
		}
		expectServer(t, "new sessions", serverOf(0, slices.Repeat([]impl.Session{newSession()}, count)...), code)
		var sessions []impl.Session
		for i := range count {
			sessions = append(sessions, authorized(int64(i), "bob"))
		}
		expectServer(t, "sessions of one worker", serverOf(int64(count), sessions...), code)
	}
	expectServer(t, "1000 sessions", serverOf(0, make([]impl.Session, 1000)...), impl.ErrMany)
}

// changedSession is someServer, one of whose sessions is changed.
func changedSession(at int, change func(*impl.Session)) impl.Server {
	s := someServer()
	change(&s.Sessions[at])
	return s
}

func TestServerFaultOfRests(t *testing.T) {
	for at := range 4 {
		put := func(rest string) impl.Server {
			return changedSession(at, func(e *impl.Session) { e.Rest = rest })
		}
		for _, size := range []int{0, 1, 159, 160, 161} {
			for _, letter := range []string{"a", " ", "\x00", "\xff", "\r"} {
				expectServer(t, "a Rest", put(strings.Repeat(letter, size)), impl.OK)
			}
		}
		for _, size := range []int{162, 163, 1000} {
			expectServer(t, "a long Rest", put(strings.Repeat("a", size)), impl.ErrText)
		}
		// the length counts in bytes
		expectServer(t, "80 runes", put(strings.Repeat("é", 80)), impl.OK)
		expectServer(t, "81 runes", put(strings.Repeat("é", 81)), impl.ErrText)
		for _, rest := range []string{"\n", "a\n", "\na", "a\nb", strings.Repeat("a", 160) + "\n", strings.Repeat("\n", 162)} {
			expectServer(t, "a line feed", put(rest), impl.ErrText)
		}
	}
	for b := range 256 {
		code := int64(impl.OK)
		if b == 10 {
			code = impl.ErrText
		}
		rest := "ab" + string([]byte{byte(b)}) + "c"
		expectServer(t, "a byte of Rest", changedSession(2, func(e *impl.Session) { e.Rest = rest }), code)
	}
}

func TestServerFaultOfExtras(t *testing.T) {
	for _, n := range append(extremes(), -3, -2, 3, 4, 997, 998, 999, 1000) {
		code := int64(impl.ErrRange)
		if n >= -1 && n <= 998 {
			code = impl.OK
		}
		expectServer(t, "an Extra", serverOf(999, subscribed(n)), code)
		expectServer(t, "the Extra of the last one", serverOf(999, newSession(), subscribed(500), newSession(), subscribed(n)), code)
		if n == -1 {
			code = impl.ErrForm
		}
		expectServer(t, "an Extra and a Worker", serverOf(999, authorized(n, "bob")), code)
	}
	for at := range 4 {
		for _, worker := range []string{"a", "abcdefghijkl"} {
			s := changedSession(at, func(e *impl.Session) { *e = authorized(-1, worker) })
			expectServer(t, "a Worker without an Extra", s, impl.ErrForm)
		}
	}
	for i := range 4 {
		for k := range i {
			sessions := slices.Repeat([]impl.Session{newSession()}, 4)
			sessions[i], sessions[k] = subscribed(5), subscribed(5)
			expectServer(t, "the same Extra", serverOf(6, sessions...), impl.ErrTaken)
			sessions[i] = authorized(5, "bob")
			expectServer(t, "the same Extra and a Worker", serverOf(6, sessions...), impl.ErrTaken)
			sessions[i] = subscribed(0)
			expectServer(t, "another Extra", serverOf(6, sessions...), impl.OK)
			sessions[k] = subscribed(0)
			expectServer(t, "the same Extra 0", serverOf(6, sessions...), impl.ErrTaken)
			sessions[i], sessions[k] = newSession(), newSession()
			expectServer(t, "no Extra", serverOf(6, sessions...), impl.OK)
		}
	}
}

func TestServerFaultOfWorkers(t *testing.T) {
	put := func(worker string) impl.Server {
		return serverOf(3, newSession(), authorized(1, worker), authorized(2, "bob"))
	}
	for _, size := range []int{0, 1, 11, 12, 13, 14, 1000} {
		code := int64(impl.OK)
		if size > 12 {
			code = impl.ErrText
		}
		for _, letter := range []string{"a", "Z", "9"} {
			expectServer(t, "a Worker", put(strings.Repeat(letter, size)), code)
		}
	}
	for b := range 256 {
		letter := string([]byte{byte(b)})
		code := int64(impl.ErrText)
		if argForm.MatchString(letter) {
			code = impl.OK
		}
		for _, worker := range []string{letter, "a" + letter, letter + "a", "abcdefghijk" + letter} {
			expectServer(t, "a byte of a Worker", put(worker), code)
		}
	}
}

func TestServerFaultOfLevels(t *testing.T) {
	for _, n := range append(extremes(), 3, 9998, 9999, 10000, 10001) {
		code := int64(impl.ErrRange)
		if n >= 1 && n <= 9999 {
			code = impl.OK
		}
		for at := range 4 {
			expectServer(t, "a Level", changedSession(at, func(e *impl.Session) { e.Level = n }), code)
		}
	}
	expectServer(t, "a zero session", serverOf(1, impl.Session{}), impl.ErrRange)
}

func TestServerFaultOfNext(t *testing.T) {
	for _, n := range append(extremes(), 3, 4, 998, 999, 1000, 1001) {
		code := int64(impl.ErrRange)
		if n >= 0 && n <= 999 {
			code = impl.OK
		}
		expectServer(t, "a Next", serverOf(n), code)
		expectServer(t, "a Next with a session", serverOf(n, newSession()), code)
		for _, extra := range []int64{0, 1, 254, 255, 256, 998} {
			if n <= extra {
				code = impl.ErrRange
			}
			expectServer(t, "a Next and an Extra", serverOf(n, newSession(), subscribed(extra)), code)
		}
	}
	for at := range 4 {
		for extra := range int64(6) {
			sessions := slices.Repeat([]impl.Session{newSession()}, 4)
			sessions[at] = subscribed(extra)
			expectServer(t, "an Extra that equals Next", serverOf(extra, sessions...), impl.ErrRange)
			expectServer(t, "an Extra less than Next", serverOf(extra+1, sessions...), impl.OK)
		}
	}
}

// sessionFaults has changes of a session that has the Extra 2, the first one in the order of the contract first.
func sessionFaults() []func(*impl.Session) {
	return []func(*impl.Session){
		func(e *impl.Session) { e.Rest = "\n" },
		func(e *impl.Session) { e.Worker = "-" },
		func(e *impl.Session) { e.Extra = -2 },
		func(e *impl.Session) { e.Level = 0 },
		func(e *impl.Session) { e.Extra, e.Worker = -1, "bob" },
		func(e *impl.Session) { e.Extra = 0 },
	}
}

// The codes come in the order of the contract: session by session, and Next after them.
func TestServerFaultOrderOfCodes(t *testing.T) {
	codes := []int64{impl.ErrText, impl.ErrText, impl.ErrRange, impl.ErrRange, impl.ErrForm, impl.ErrTaken}
	faults := sessionFaults()
	for i, code := range codes {
		for k := range codes {
			s := serverOf(3, subscribed(0), subscribed(2), subscribed(1))
			faults[i](&s.Sessions[1])
			expectServer(t, "a fault", s, code)
			s.Next = 1000
			expectServer(t, "a fault before Next", s, code)
			s.Next = 0
			expectServer(t, "a fault before an Extra not less than Next", s, code)
			faults[k](&s.Sessions[2])
			expectServer(t, "a fault before one of the next session", s, code)
			s.Sessions = append(s.Sessions, newSession(), newSession())
			expectServer(t, "too many sessions before a fault", s, impl.ErrMany)
		}
	}
	both := func(change func(*impl.Session)) impl.Server {
		s := serverOf(0, subscribed(0), subscribed(2))
		change(&s.Sessions[1])
		return s
	}
	expectServer(t, "Rest before Extra", both(func(e *impl.Session) { e.Rest, e.Extra = "\n", -2 }), impl.ErrText)
	expectServer(t, "Worker before Level", both(func(e *impl.Session) { e.Worker, e.Level = "-", 0 }), impl.ErrText)
	expectServer(t, "Worker before no Extra", both(func(e *impl.Session) { e.Worker, e.Extra = "-", -1 }), impl.ErrText)
	expectServer(t, "Worker before the same Extra", both(func(e *impl.Session) { e.Worker, e.Extra = "-", 0 }), impl.ErrText)
	expectServer(t, "Level before no Extra", both(func(e *impl.Session) { e.Worker, e.Extra, e.Level = "bob", -1, 0 }), impl.ErrRange)
	expectServer(t, "Extra before a Worker", both(func(e *impl.Session) { e.Worker, e.Extra = "bob", -2 }), impl.ErrRange)
	expectServer(t, "Level before the same Extra", both(func(e *impl.Session) { e.Extra, e.Level = 0, 10000 }), impl.ErrRange)
	// a session with an Extra that is out of range is the last one that counts
	for _, extra := range []int64{-2, 999, 1000} {
		expectServer(t, "the same wrong Extra", serverOf(999, subscribed(extra), subscribed(extra)), impl.ErrRange)
		expectServer(t, "a wrong Extra before Rest", serverOf(999, subscribed(extra), impl.Session{Rest: "\n", Extra: -1, Level: 1}), impl.ErrRange)
		expectServer(t, "a wrong Extra before a Worker", serverOf(999, subscribed(extra), authorized(-1, "bob")), impl.ErrRange)
	}
	// Next is compared when no Extra is taken
	expectServer(t, "the same Extra before Next", serverOf(5, subscribed(5), subscribed(5)), impl.ErrTaken)
}

func TestSessionsThatDoNotExist(t *testing.T) {
	for count := range 5 {
		s := serverOf(0, slices.Repeat([]impl.Session{newSession()}, count)...)
		for _, who := range append(extremes(), 3, 4, 5, 1<<32) {
			code := int64(impl.ErrNone)
			if who >= 0 && who < int64(count) {
				code = impl.OK
			}
			if got := impl.CloseSession(s, who); got.Code != code || !equalHeard(got, modelClose(s, who)) {
				t.Errorf("CloseSession of %d of %d: %v", who, count, got)
			}
			if got := expectHeard(t, "who", s, who, said(1, 1)); got.Code != code {
				t.Errorf("HearLine from %d of %d: %v", who, count, got)
			}
			if got := expectHeardBytes(t, "who", s, who, "\n"); got.Code != code {
				t.Errorf("HearBytes from %d of %d: %v", who, count, got)
			}
			if code != impl.OK {
				expectNothing(t, "who before the size", impl.HearBytes(s, who, make([]byte, 1001)), code)
				expectNothing(t, "who", impl.HearLine(s, who, ""), code)
				expectNothing(t, "who", impl.CloseSession(s, who), code)
			}
		}
	}
}

// Promise 11: an opened session is present, after all others.
func TestPromise11Open(t *testing.T) {
	s := impl.Server{Next: 42}
	for count := range 4 {
		got := impl.OpenSession(s)
		if got.Code != impl.OK || len(got.Lines) != 0 || len(got.Acts) != 0 || impl.ServerFault(got.Server) != impl.OK {
			t.Fatalf("OpenSession of %v: %v", s, got)
		}
		want := append(slices.Clone(s.Sessions), impl.Session{Extra: -1, Level: 1})
		if !slices.Equal(got.Server.Sessions, want) || got.Server.Next != 42 {
			t.Errorf("OpenSession of %v: %v", s, got)
		}
		s = got.Server
		if len(s.Sessions) != count+1 {
			t.Errorf("%d sessions after %d", len(s.Sessions), count)
		}
	}
	expectNothing(t, "a full server", impl.OpenSession(s), impl.ErrFull)
	expectNothing(t, "another full server", impl.OpenSession(someServer()), impl.ErrFull)
	// there is room again after one is closed
	for who := range int64(4) {
		closed := impl.CloseSession(someServer(), who).Server
		if got := impl.OpenSession(closed); got.Code != impl.OK || got.Server.Sessions[3] != newSession() || got.Server.Next != 7 {
			t.Errorf("OpenSession of %v: %v", closed, got)
		}
	}
	expectNothing(t, "a fault of a full server", impl.OpenSession(changedSession(3, func(e *impl.Session) { e.Level = 0 })), impl.ErrRange)
}

// Promise 11: a closed session is absent, and the others stay in their order.
func TestPromise11Close(t *testing.T) {
	all := someServer().Sessions
	for count := 1; count <= 4; count++ {
		for who := range int64(count) {
			s := serverOf(7, slices.Clone(all[:count])...)
			got := impl.CloseSession(s, who)
			want := slices.Concat(all[:who], all[who+1:count])
			if got.Code != impl.OK || len(got.Lines) != 0 || len(got.Acts) != 0 || got.Server.Next != 7 || !slices.Equal(got.Server.Sessions, want) {
				t.Errorf("CloseSession of %v and %d: %v", s, who, got)
			}
			if slices.Contains(got.Server.Sessions, all[who]) || impl.ServerFault(got.Server) != impl.OK || !slices.Equal(s.Sessions, all[:count]) {
				t.Errorf("CloseSession of %v and %d: %v", s, who, got)
			}
		}
	}
	// what was opened last is what is closed
	for count := range 4 {
		s := serverOf(7, slices.Clone(all[:count])...)
		got := impl.CloseSession(impl.OpenSession(s).Server, int64(count))
		if !impl.SameServers(got.Server, s) {
			t.Errorf("opened and closed: %v instead of %v", got.Server, s)
		}
	}
}

func TestWorkersOf(t *testing.T) {
	for _, c := range []struct {
		workers []string
		want    []string
	}{
		{nil, nil}, {[]string{""}, nil}, {[]string{"", "", "", ""}, nil}, {[]string{"bob"}, []string{"bob"}},
		{[]string{"bob", "ann"}, []string{"bob", "ann"}}, {[]string{"ann", "bob"}, []string{"ann", "bob"}},
		{[]string{"bob", "bob"}, []string{"bob"}}, {[]string{"bob", "ann", "bob", "ann"}, []string{"bob", "ann"}},
		{[]string{"", "bob", "", "ann"}, []string{"bob", "ann"}}, {[]string{"bob", "", "bob", ""}, []string{"bob"}},
		{[]string{"d", "c", "b", "a"}, []string{"d", "c", "b", "a"}}, {[]string{"bob", "Bob", "bo", "bob1"}, []string{"bob", "Bob", "bo", "bob1"}},
		{[]string{"a", "b", "b", "a"}, []string{"a", "b"}}, {[]string{"a", "a", "a", "a"}, []string{"a"}},
	} {
		s := impl.Server{Next: 10}
		for i, worker := range c.workers {
			s.Sessions = append(s.Sessions, authorized(int64(i), worker))
		}
		if got := impl.WorkersOf(s); !equalLines(got, impl.LinesResult{Lines: c.want}) || !equalLines(got, modelWorkers(s)) {
			t.Errorf("WorkersOf %v: %v instead of %v", s, got, c.want)
		}
	}
	s := someServer()
	if got := impl.WorkersOf(s); !slices.Equal(got.Lines, []string{"ann", "bob"}) || got.Rest != "" {
		t.Errorf("WorkersOf %v: %v", s, got)
	}
	// a Rest is no worker's
	s.Sessions[1].Level = 10000
	if got := impl.WorkersOf(s); !equalLines(got, impl.LinesResult{Code: impl.ErrRange}) {
		t.Errorf("WorkersOf %v: %v", s, got)
	}
}

// expectSame requires what SameServers reports, in both orders.
func expectSame(t *testing.T, a impl.Server, b impl.Server, want bool) {
	t.Helper()
	if impl.SameServers(a, b) != want || impl.SameServers(b, a) != want {
		t.Errorf("SameServers of %v and %v is not %t", a, b, want)
	}
}

func TestSameServers(t *testing.T) {
	s := someServer()
	expectSame(t, s, cloneServer(s), true)
	expectSame(t, impl.Server{}, impl.Server{Sessions: []impl.Session{}}, true)
	changes := []func(*impl.Session){
		func(e *impl.Session) { e.Rest += " " },
		func(e *impl.Session) { e.Extra++ },
		func(e *impl.Session) { e.Worker += "z" },
		func(e *impl.Session) { e.Level++ },
	}
	for at := range s.Sessions {
		for _, change := range changes {
			other := changedSession(at, change)
			expectSame(t, s, other, false)
			expectSame(t, other, cloneServer(other), true)
		}
		expectSame(t, s, serverOf(s.Next, s.Sessions[:at]...), false)
		expectSame(t, s, serverOf(s.Next, slices.Delete(slices.Clone(s.Sessions), at, at+1)...), false)
	}
	other := cloneServer(s)
	other.Next++
	expectSame(t, s, other, false)
	slices.Reverse(other.Sessions)
	other.Next = s.Next
	expectSame(t, s, other, false)
	// they are not checked
	wild := serverOf(-5, make([]impl.Session, 9)...)
	expectSame(t, wild, cloneServer(wild), true)
	wild.Sessions[8] = impl.Session{Rest: "\n", Extra: -9, Worker: "-", Level: -1}
	expectSame(t, wild, cloneServer(wild), true)
	expectSame(t, wild, serverOf(-5, make([]impl.Session, 9)...), false)
}

// Each line that is no request has the same reply, whatever the session is.
func TestHearNoRequests(t *testing.T) {
	s := someServer()
	s.Sessions[1].Rest = ""
	request := said(77, impl.MethodSubscribe)
	for _, line := range []string{
		"", " ", "x", "{", "{}", "[]", "null", `"mining.subscribe"`, request + ",", request[1:], request + request, request + "\n", "\n" + request,
		strings.Repeat(" ", 160), strings.Repeat(" ", 161), strings.Repeat("x", 5000), request + strings.Repeat(" ", 161-len(request)),
		`{"id":77,"method":"mining.notify","params":[]}`, `{"id":10000,"method":"mining.subscribe","params":[]}`, `{"id":null,"method":"mining.subscribe","params":[]}`,
		`{"id":77,"method":"mining.authorize","params":["b-b"]}`, `{"id":77,"method":"mining.authorize","params":["abcdefghijklm"]}`,
		`{"id":77,"method":"mining.submit","params":["1","2","3","4","5","6"]}`, `{"id":77,"method":"mining.submit","params":[1,2,3]}`,
		`{"id":77,"result":true,"error":null}`, "\x00", "\xff\xfe", "é", "\r", request + "\r",
	} {
		for who := range int64(4) {
			got := expectHeard(t, "no request", s, who, line)
			if !equalHeard(got, impl.ServerResult{Lines: []string{`{"id":0,"result":false,"error":20}`}, Server: s}) {
				t.Errorf("%q from %d: %v", line, who, got)
			}
		}
	}
	// a line of 160 bytes may be a request
	expectAnswer(t, "160 bytes", s, 0, request+strings.Repeat(" ", 160-len(request)), 77, 0)
	// the Rest has no part in a line
	whole := expectHeard(t, "beside a Rest", someServer(), 1, request)
	if !slices.Equal(whole.Lines, []string{`{"id":77,"result":false,"error":21}`}) || !equalServers(whole.Server, someServer()) {
		t.Errorf("beside a Rest: %v", whole)
	}
}

func TestSubscribe(t *testing.T) {
	args := [][]string{nil, {""}, {"bob"}, {"1", "2", "3"}, {"a", "b", "c", "d", "abcdefghijkl"}}
	for _, next := range []int64{0, 1, 2, 500, 997, 998, 999} {
		for _, given := range args {
			line := said(31, impl.MethodSubscribe, given...)
			s := serverOf(next, newSession(), newSession())
			if next == 999 {
				expectAnswer(t, "no Extra is left", s, 1, line, 31, 22)
				expectAnswer(t, "an Extra without another one left", serverOf(next, subscribed(998)), 0, line, 31, 21)
				continue
			}
			after := expectAnswer(t, "subscribing", s, 1, line, 31, 0)
			if want := serverOf(next+1, newSession(), subscribed(next)); !equalServers(after, want) {
				t.Errorf("subscribing: %v instead of %v", after, want)
			}
			expectAnswer(t, "subscribing twice", after, 1, line, 31, 21)
		}
	}
	// neither the Worker, nor the Rest, nor the Level counts
	for who, code := range []int64{0, 21, 21, 21} {
		expectAnswer(t, "someone", someServer(), int64(who), said(8, impl.MethodSubscribe), 8, code)
	}
	strange := serverOf(3, impl.Session{Rest: "{", Extra: -1, Level: 9999})
	if after := expectAnswer(t, "a Level", strange, 0, said(8, 1), 8, 0); after.Sessions[0] != (impl.Session{Rest: "{", Extra: 3, Level: 9999}) {
		t.Errorf("subscribing: %v", after)
	}
}

// An Extra is not given again, even when its session is closed.
func TestSubscribeAfterClosing(t *testing.T) {
	s := impl.OpenSession(impl.OpenSession(impl.Server{}).Server).Server
	for extra := range int64(4) {
		s = expectAnswer(t, "subscribing", s, 0, said(1, 1), 1, 0)
		if s.Sessions[0].Extra != extra || s.Next != extra+1 {
			t.Errorf("subscribing: %v", s)
		}
		s = impl.OpenSession(impl.CloseSession(s, 0).Server).Server
		if s.Next != extra+1 || s.Sessions[0].Extra != -1 {
			t.Errorf("after closing: %v", s)
		}
	}
}

func TestAuthorize(t *testing.T) {
	for _, given := range [][]string{nil, {""}, {"bob"}, {"bob", "x"}, {"", "bob"}} {
		expectAnswer(t, "before subscribing", serverOf(9, newSession(), subscribed(4)), 0, said(12, impl.MethodAuthorize, given...), 12, 23)
	}
	for _, worker := range []string{"", "ann", "abcdefghijkl"} {
		s := serverOf(9, newSession(), impl.Session{Rest: "x", Extra: 4, Worker: worker, Level: 55}, authorized(5, "bob"))
		for _, given := range [][]string{nil, {""}, {"", ""}, {"", "bob"}, {"", "", "", "", "bob"}} {
			expectAnswer(t, "an empty name", s, 1, said(12, impl.MethodAuthorize, given...), 12, 24)
		}
		for _, name := range []string{"a", "Z", "0", "bob", "ann", "Bob42", "ABCDEFGHIJKL", "mnopqrstuvwx", "null"} {
			for _, more := range [][]string{nil, {""}, {"x"}, {"x", "y", "", "abcdefghijkl"}} {
				line := said(12, impl.MethodAuthorize, append([]string{name}, more...)...)
				after := expectAnswer(t, "a name", s, 1, line, 12, 0)
				if after.Sessions[1] != (impl.Session{Rest: "x", Extra: 4, Worker: name, Level: 55}) || after.Next != 9 {
					t.Errorf("authorizing: %v", after)
				}
			}
		}
	}
	// even where no Extra is left
	expectAnswer(t, "Next 999", serverOf(999, subscribed(998)), 0, said(0, 2, "bob"), 0, 0)
	expectAnswer(t, "Next 999 without an Extra", serverOf(999, newSession()), 0, said(0, 2, "bob"), 0, 23)
}

func TestSubmit(t *testing.T) {
	good := []string{"4", "300", "9"}
	for _, args := range [][]string{good, nil, {"x"}, {"4", "300", "9", "1"}} {
		line := said(55, impl.MethodSubmit, args...)
		expectAnswer(t, "without an Extra", someServer(), 0, line, 55, 25)
		expectAnswer(t, "without a Worker", someServer(), 2, line, 55, 25)
	}
	expectShare(t, "ann", someServer(), 1, said(55, 3, good...), impl.Act{Who: 1, Id: 55, Worker: "ann", Job: 4, Extra: 4, Time: 300, Nonce: 9})
	expectShare(t, "bob", someServer(), 3, said(9999, 3, good...), impl.Act{Who: 3, Id: 9999, Worker: "bob", Job: 4, Extra: 0, Time: 300, Nonce: 9})
	expectShare(t, "zeros", someServer(), 3, said(0, 3, "0", "0", "0"), impl.Act{Who: 3, Worker: "bob"})
	greatest := serverOf(999, authorized(998, "abcdefghijkl"))
	expectShare(t, "the greatest", greatest, 0, said(9999, 3, "9999", "99999", "65535"), impl.Act{Id: 9999, Worker: "abcdefghijkl", Job: 9999, Extra: 998, Time: impl.MaxTime, Nonce: 65535})
	s := someServer()
	for _, args := range [][]string{nil, {"4"}, {"4", "300"}, {"", ""}, {"4", "300", "9", "1"}, {"4", "300", "9", ""}, {"4", "300", "9", "4", "300"}, {"", "4", "300", "9"}} {
		expectAnswer(t, "a number of arguments", s, 3, said(55, 3, args...), 55, 24)
	}
	limits := []int64{9999, 99999, 65535}
	for at, limit := range limits {
		for _, text := range []string{"", "x", "a4", "4a", "01", "00", "000", "0x1", "1e3", "100000", "999999", "4294967296", "999999999999", "bob"} {
			args := slices.Clone(good)
			args[at] = text
			expectAnswer(t, "no number", s, 3, said(55, 3, args...), 55, 24)
		}
		for _, n := range []int64{0, 1, 9, 10, 255, 256, 9998, 9999, 10000, 10001, 32768, 65534, 65535, 65536, 65537, 99998, 99999, 100000} {
			args := slices.Clone(good)
			args[at] = strconv.FormatInt(n, 10)
			line := said(55, 3, args...)
			if n > limit {
				expectAnswer(t, "a great number", s, 3, line, 55, 24)
				continue
			}
			numbers := []int64{4, 300, 9}
			numbers[at] = n
			expectShare(t, "a number", s, 3, line, impl.Act{Who: 3, Id: 55, Worker: "bob", Job: numbers[0], Time: numbers[1], Nonce: numbers[2]})
		}
	}
}

// The id of a request is that of its reply or share.
func TestIdsOfAnswers(t *testing.T) {
	s := someServer()
	for _, id := range []int64{0, 1, 9, 10, 99, 100, 9998, 9999} {
		expectAnswer(t, "true", s, 0, said(id, 1), id, 0)
		expectAnswer(t, "21", s, 1, said(id, 1), id, 21)
		expectAnswer(t, "22", serverOf(999, newSession()), 0, said(id, 1), id, 22)
		expectAnswer(t, "23", s, 0, said(id, 2, "bob"), id, 23)
		expectAnswer(t, "24", s, 1, said(id, 2), id, 24)
		expectAnswer(t, "24 of a share", s, 1, said(id, 3), id, 24)
		expectAnswer(t, "25", s, 2, said(id, 3, "1", "2", "3"), id, 25)
		expectAnswer(t, "true again", s, 2, said(id, 2, "x"), id, 0)
		expectShare(t, "a share", s, 3, said(id, 3, "1", "2", "3"), impl.Act{Who: 3, Id: id, Worker: "bob", Job: 1, Time: 2, Nonce: 3})
	}
	// the order of the pairs and blanks do not matter
	expectAnswer(t, "another order", s, 0, ` { "params" : [ ] , "method":"mining.subscribe","id": 6 } `, 6, 0)
}

// wholeDialogue has requests of all methods, their answers, and the shares.
func wholeDialogue() (string, []string, []impl.Act) {
	lines := []string{
		said(1, 3, "1", "2", "3"), said(2, 2, "bob"), said(3, 1, "x"), said(4, 1), said(5, 3, "1", "2", "3"), said(6, 2), said(7, 2, "bob"),
		said(8, 3, "1", "2", "3"), "", said(9, 3, "1", "2"), said(10, 3, "4", "5", "6"), said(11, 2, "ann", "x"), said(12, 3, "4", "5", "6"), "x",
	}
	replies := []string{
		impl.ReplyText(1, false, 25).Text, impl.ReplyText(2, false, 23).Text, impl.ReplyText(3, true, 0).Text, impl.ReplyText(4, false, 21).Text,
		impl.ReplyText(5, false, 25).Text, impl.ReplyText(6, false, 24).Text, impl.ReplyText(7, true, 0).Text, impl.ReplyText(0, false, 20).Text,
		impl.ReplyText(9, false, 24).Text, impl.ReplyText(11, true, 0).Text, impl.ReplyText(0, false, 20).Text,
	}
	acts := []impl.Act{
		{Who: 1, Id: 8, Worker: "bob", Extra: 41, Job: 1, Time: 2, Nonce: 3}, {Who: 1, Id: 10, Worker: "bob", Extra: 41, Job: 4, Time: 5, Nonce: 6},
		{Who: 1, Id: 12, Worker: "ann", Extra: 41, Job: 4, Time: 5, Nonce: 6},
	}
	return strings.Join(lines, "\n") + "\n", replies, acts
}

// The lines and the shares of several requests are in their order.
func TestHearWholeDialogue(t *testing.T) {
	text, replies, acts := wholeDialogue()
	s := serverOf(41, authorized(3, "bob"), newSession(), newSession())
	got := expectHeardBytes(t, "a dialogue", s, 1, text)
	want := serverOf(42, authorized(3, "bob"), authorized(41, "ann"), newSession())
	if !equalHeard(got, impl.ServerResult{Lines: replies, Acts: acts, Server: want}) {
		t.Errorf("a dialogue: %v", got)
	}
	if got = expectHeardBytes(t, "a dialogue and more", s, 1, text+`{"id":`); got.Server.Sessions[1].Rest != `{"id":` || !slices.Equal(got.Lines, replies) || !slices.Equal(got.Acts, acts) {
		t.Errorf("a dialogue and more: %v", got)
	}
}

func TestHearBytesOfLines(t *testing.T) {
	twenty := `{"id":0,"result":false,"error":20}`
	for _, c := range []struct {
		rest, data, left string
		lines            int
	}{
		{"", "", "", 0}, {"ab", "", "ab", 0}, {"", "ab", "ab", 0}, {"ab", "cd", "abcd", 0}, {"", "\n", "", 1}, {"ab", "\n", "", 1}, {"", "\n\n\n", "", 3},
		{"", "a\nb", "b", 1}, {"x", "a\nb\nc", "c", 2}, {"", "a\n\nb\n", "", 3}, {"\x00", "\xff\n\xfe", "\xfe", 1}, {"a", "\r\n\r", "\r", 1},
	} {
		s := someServer()
		s.Sessions[1].Rest = c.rest
		want := cloneServer(s)
		want.Sessions[1].Rest = c.left
		got := expectHeardBytes(t, "lines", s, 1, c.data)
		if !equalHeard(got, impl.ServerResult{Lines: slices.Repeat([]string{twenty}, c.lines), Server: want}) {
			t.Errorf("%q after %q: %v", c.data, c.rest, got)
		}
	}
}

func TestHearBytesOfSizes(t *testing.T) {
	s := serverOf(0, newSession(), impl.Session{Rest: strings.Repeat("r", 161), Extra: -1, Level: 1})
	for who := range int64(2) {
		for _, size := range []int{0, 1, 999, 1000} {
			got := expectHeardBytes(t, "feeds", s, who, strings.Repeat("\n", size))
			if got.Code != impl.OK || len(got.Lines) != size || len(got.Acts) != 0 {
				t.Errorf("%d line feeds: %v", size, got)
			}
			got = expectHeardBytes(t, "no feeds", s, who, strings.Repeat("x", size))
			if want := (s.Sessions[who].Rest + strings.Repeat("x", size)); got.Server.Sessions[who].Rest != want[:min(161, len(want))] {
				t.Errorf("%d bytes: %v", size, got)
			}
		}
		for _, size := range []int{1001, 1002, 10000} {
			expectNothing(t, "too many feeds", expectHeardBytes(t, "feeds", s, who, strings.Repeat("\n", size)), impl.ErrMany)
			expectNothing(t, "too many bytes", expectHeardBytes(t, "bytes", s, who, strings.Repeat("x", size)), impl.ErrMany)
		}
	}
	expectNothing(t, "nobody before the size", impl.HearBytes(s, 2, make([]byte, 1001)), impl.ErrNone)
	s.Next = -1
	expectNothing(t, "a fault before nobody and the size", impl.HearBytes(s, 2, make([]byte, 1001)), impl.ErrRange)
}

// heardInPieces lets a session hear a text up to one cut after the other.
func heardInPieces(t *testing.T, s impl.Server, who int64, text string, cuts []int) impl.ServerResult {
	t.Helper()
	all := impl.ServerResult{Server: s}
	from := 0
	for _, to := range append(slices.Clone(cuts), len(text)) {
		next := impl.HearBytes(all.Server, who, []byte(text[from:to]))
		if next.Code != impl.OK {
			t.Fatalf("HearBytes: code %d", next.Code)
		}
		all.Lines, all.Acts, all.Server = append(all.Lines, next.Lines...), append(all.Acts, next.Acts...), next.Server
		from = to
	}
	return all
}

// Promise 11: a text that is cut at every place is heard as at once.
func TestPromise11Cuts(t *testing.T) {
	long := strings.Repeat("a", 159)
	subscribe := said(1, 1)
	dialogue, _, _ := wholeDialogue()
	padded := subscribe + strings.Repeat(" ", 160-len(subscribe))
	for _, text := range []string{
		"", "\n", subscribe + "\n", subscribe + "\n" + said(2, 2, "bob") + "\n" + said(3, 3, "1", "2", "3") + "\n", dialogue,
		padded + "\n" + padded + "\n", padded + " \n" + subscribe + "\n", long + "b\n" + long + "bc\n" + long + "bcd\n" + subscribe, subscribe + "\n" + long + long + long + "\n\n" + said(2, 2, "bob") + "\n{",
	} {
		for _, rest := range []string{"", " ", "x", strings.Repeat(" ", 160), strings.Repeat(" ", 161)} {
			s := serverOf(0, newSession(), impl.Session{Rest: rest, Extra: -1, Level: 3}, newSession())
			whole := expectHeardBytes(t, "a text", s, 1, text)
			for i := range len(text) + 1 {
				if got := heardInPieces(t, s, 1, text, []int{i}); !equalHeard(got, whole) {
					t.Errorf("%q up to %d: %v instead of %v", text, i, got, whole)
				}
			}
			single := make([]int, len(text))
			for i := range single {
				single[i] = i
			}
			if got := heardInPieces(t, s, 1, text, single); !equalHeard(got, whole) {
				t.Errorf("%q in bytes: %v instead of %v", text, got, whole)
			}
		}
	}
}

// A line that is too long is an empty one wherever its bytes are cut, and what follows it is heard.
func TestHearLongLines(t *testing.T) {
	s := serverOf(0, newSession())
	twenty, yes := impl.ReplyText(0, false, 20).Text, impl.ReplyText(1, true, 0).Text
	subscribe := said(1, 1)
	for _, size := range []int{161, 162, 300, 950} {
		// the beginning of the line would be a request
		text := subscribe + strings.Repeat(" ", size-len(subscribe)) + "\n" + subscribe
		for _, cut := range []int{0, 1, len(subscribe), 159, 160, 161, size, size + 1, len(text)} {
			first := expectHeardBytes(t, "a long line", s, 0, text[:cut])
			second := expectHeardBytes(t, "the remainder", first.Server, 0, text[cut:])
			if got := append(slices.Clone(first.Lines), second.Lines...); !slices.Equal(got, []string{twenty}) || second.Server.Sessions[0].Rest != subscribe {
				t.Errorf("a line of %d bytes up to %d: %v and %v", size, cut, first, second)
			}
			if third := expectHeardBytes(t, "the next line", second.Server, 0, "\n"); !slices.Equal(third.Lines, []string{yes}) || third.Server.Sessions[0] != subscribed(0) {
				t.Errorf("after a line of %d bytes: %v", size, third)
			}
		}
	}
	// of three texts in one line nothing is a request
	for range 3 {
		s = expectHeardBytes(t, "no end", s, 0, strings.Repeat("y", 1000)).Server
	}
	if s.Sessions[0].Rest != strings.Repeat("y", 161) {
		t.Errorf("no end: %v", s)
	}
	if got := expectHeardBytes(t, "an end", s, 0, "\n"+subscribe+"\n"); !slices.Equal(got.Lines, []string{twenty, yes}) {
		t.Errorf("an end: %v", got)
	}
}

// randomSaid is a line of a miner, most often a request.
func randomSaid(source *rand.Rand) string {
	id := source.Int64N(10000)
	texts := []string{"", "bob", "ann", "0", "9999", "10000", "65535", "65536", "99999", "x"}
	switch source.IntN(9) {
	case 0:
		return said(id, impl.MethodSubscribe)
	case 1, 2:
		return said(id, impl.MethodAuthorize, texts[source.IntN(4)])
	case 3, 4, 5:
		return said(id, impl.MethodSubmit, strconv.Itoa(source.IntN(10100)), strconv.Itoa(source.IntN(100100)), strconv.Itoa(source.IntN(66000)))
	case 6:
		return strings.ReplaceAll(randomBytes(source, source.IntN(200)), "\n", " ")
	case 7:
		return said(id, 1, strings.Repeat("a", source.IntN(13))) + strings.Repeat(" ", source.IntN(150))
	}
	args := make([]string, source.IntN(6))
	for i := range args {
		args[i] = texts[source.IntN(len(texts))]
	}
	return said(id, 1+source.Int64N(3), args...)
}

func randomServer(source *rand.Rand) impl.Server {
	s := impl.Server{Next: []int64{0, 1, 5, 997, 998, 999}[source.IntN(6)]}
	extra := max(0, s.Next-source.Int64N(6))
	for range source.IntN(5) {
		e := impl.Session{Rest: strings.ReplaceAll(randomBytes(source, source.IntN(162)), "\n", " "), Extra: -1, Level: 1 + source.Int64N(9999)}
		if extra < s.Next && source.IntN(3) > 0 {
			e.Extra, e.Worker = extra, []string{"", "bob", "ann", "abcdefghijkl"}[source.IntN(4)]
			extra++
		}
		s.Sessions = append(s.Sessions, e)
	}
	source.Shuffle(len(s.Sessions), func(i, k int) { s.Sessions[i], s.Sessions[k] = s.Sessions[k], s.Sessions[i] })
	return s
}

// Promise 11: each line is answered by a reply with its id or is a share with it, and those that are heard in pieces are heard as at once.
func TestPromise11Lines(t *testing.T) {
	source := rand.New(rand.NewPCG(10, 1))
	shares := 0
	for range 3000 {
		s := randomServer(source)
		if len(s.Sessions) == 0 {
			continue
		}
		who := source.Int64N(int64(len(s.Sessions)))
		s.Sessions[who].Rest = ""
		text, count := "", 0
		var ids []int64
		for line := randomSaid(source); len(text)+len(line) < 1000; line = randomSaid(source) {
			text += line + "\n"
			count++
			ids = append(ids, modelReadRequest(line).Request.Id)
		}
		whole := expectHeardBytes(t, "lines", s, who, text)
		if len(whole.Lines)+len(whole.Acts) != count || !slices.Equal(answeredIds(whole), slices.Sorted(slices.Values(ids))) {
			t.Errorf("%q of %d lines: %v", text, count, whole)
		}
		shares += len(whole.Acts)
		cuts := make([]int, source.IntN(6))
		for i := range cuts {
			cuts[i] = source.IntN(len(text) + 1)
		}
		slices.Sort(cuts)
		if got := heardInPieces(t, s, who, text, cuts); !equalHeard(got, whole) {
			t.Errorf("%q in pieces up to %v: %v instead of %v", text, cuts, got, whole)
		}
	}
	if shares < 1000 {
		t.Errorf("only %d shares", shares)
	}
}

// answeredIds are the ids of the replies and the shares, increasing.
func answeredIds(got impl.ServerResult) []int64 {
	var ids []int64
	for _, line := range got.Lines {
		ids = append(ids, modelReadReply(line).List[0])
	}
	for _, act := range got.Acts {
		ids = append(ids, act.Id)
	}
	slices.Sort(ids)
	return ids
}

// Promise 11: however sessions are opened, closed and heard, no two that have subscribed have the same Extra, now or earlier.
func TestPromise11Extras(t *testing.T) {
	source := rand.New(rand.NewPCG(10, 2))
	for range 40 {
		s := impl.Server{Next: []int64{0, 0, 980}[source.IntN(3)]}
		given := map[int64]bool{}
		for range 300 {
			before, count := cloneServer(s), int64(len(s.Sessions))
			var got, want impl.ServerResult
			who := source.Int64N(count+2) - 1
			switch source.IntN(8) {
			case 0:
				got, want = impl.OpenSession(s), modelOpen(s)
			case 1:
				who = source.Int64N(12)
				got, want = impl.CloseSession(s, who), modelClose(s, who)
			case 2, 3:
				line := randomSaid(source)
				got, want = impl.HearLine(s, who, line), modelHearLine(s, who, line)
			default:
				text := randomSaid(source) + "\n" + randomSaid(source)
				text = text[:source.IntN(len(text)+1)]
				got, want = impl.HearBytes(s, who, []byte(text)), modelHearBytes(s, who, text)
			}
			if !equalHeard(got, want) || !equalServers(s, before) {
				t.Fatalf("after %v: %v instead of %v", before, got, want)
			}
			if got.Code != impl.OK {
				expectNothing(t, "a code", got, got.Code)
				continue
			}
			if impl.ServerFault(got.Server) != impl.OK {
				t.Fatalf("%v has a fault", got.Server)
			}
			for extra := s.Next; extra < got.Server.Next; extra++ {
				if given[extra] {
					t.Errorf("%d is given again", extra)
				}
				given[extra] = true
			}
			s = got.Server
			expectDifferentExtras(t, s, given)
		}
	}
}

// expectDifferentExtras requires that the Extras differ and have been given.
func expectDifferentExtras(t *testing.T, s impl.Server, given map[int64]bool) {
	t.Helper()
	seen := map[int64]bool{}
	for _, e := range s.Sessions {
		if e.Extra >= 0 && (seen[e.Extra] || !given[e.Extra]) {
			t.Errorf("%v has an Extra twice, or one that was not given", s)
		}
		seen[e.Extra] = true
	}
}

// All 999 Extras are given, each once, and then none.
func TestPromise11AllExtras(t *testing.T) {
	s := impl.OpenSession(impl.Server{}).Server
	for extra := range int64(999) {
		got := impl.HearLine(s, 0, said(1, 1))
		if got.Code != impl.OK || got.Server.Sessions[0].Extra != extra || got.Server.Next != extra+1 {
			t.Fatalf("subscribing: %v", got)
		}
		s = impl.OpenSession(impl.CloseSession(got.Server, 0).Server).Server
	}
	expectAnswer(t, "none is left", s, 0, said(1, 1), 1, 22)
	expectAnswer(t, "none is left", s, 0, said(2, 2, "bob"), 2, 23)
}

// Promise 1: all arguments have a result, the same one each time, and are not changed.
func TestPromise1AllOfChapter10(t *testing.T) {
	source := rand.New(rand.NewPCG(10, 3))
	wild := append(extremes(), -2, 3, 4, 997, 998, 999, 1000, 9998, 9999, 10000)
	texts := []string{"", "bob", "-", "\n", "a\nb", "\xff", "é", "abcdefghijkl", "abcdefghijklm", strings.Repeat("a", 161), strings.Repeat("a", 162)}
	for range 5000 {
		s := randomServer(source)
		for range source.IntN(3) {
			s.Sessions = append(s.Sessions, subscribed(source.Int64N(5)))
		}
		if len(s.Sessions) > 0 {
			e := &s.Sessions[source.IntN(len(s.Sessions))]
			switch source.IntN(8) {
			case 0:
				e.Rest = texts[source.IntN(len(texts))]
			case 1:
				e.Worker = texts[source.IntN(len(texts))]
			case 2:
				e.Extra = wild[source.IntN(len(wild))]
			case 3:
				e.Level = wild[source.IntN(len(wild))]
			case 4:
				s.Next = wild[source.IntN(len(wild))]
			}
		}
		expectServer(t, "any server", s, modelServerFault(s))
		who := wild[source.IntN(len(wild))]
		expectHeard(t, "any line", s, who, randomSaid(source))
		expectHeardBytes(t, "any bytes", s, who, randomBytes(source, source.IntN(1010)))
		who = source.Int64N(5)
		expectHeard(t, "any line", s, who, texts[source.IntN(len(texts))])
		expectHeardBytes(t, "any bytes", s, who, randomBytes(source, source.IntN(1010)))
		if got := impl.CloseSession(s, who); !equalHeard(got, modelClose(s, who)) {
			t.Errorf("CloseSession of %v and %d: %v", s, who, got)
		}
	}
}

// Promise 1: nil is an empty list.
func TestPromise1NilOfChapter10(t *testing.T) {
	none, empty := impl.Server{Next: 3}, impl.Server{Sessions: []impl.Session{}, Next: 3}
	if !equalHeard(impl.OpenSession(none), impl.OpenSession(empty)) || impl.ServerFault(none) != impl.ServerFault(empty) || !equalLines(impl.WorkersOf(none), impl.WorkersOf(empty)) {
		t.Errorf("nil and an empty list differ: %v and %v", impl.OpenSession(none), impl.OpenSession(empty))
	}
	s := someServer()
	got := impl.HearBytes(s, 1, nil)
	if !equalHeard(got, impl.HearBytes(s, 1, []byte{})) || !equalHeard(got, impl.ServerResult{Server: s}) {
		t.Errorf("nil: %v", got)
	}
}

// Promise 1: nothing is written behind the end of an argument, and nothing is read there.
func TestPromise1EndsOfChapter10(t *testing.T) {
	for count := range 4 {
		whole := someServer()
		s := serverOf(7, whole.Sessions[:count]...)
		expectServer(t, "a part", s, impl.OK)
		for who := range int64(count) {
			expectHeard(t, "a part", s, who, said(1, 1))
			impl.CloseSession(s, who)
		}
		impl.OpenSession(s)
		if !equalServers(whole, someServer()) {
			t.Fatalf("the sessions after %d were changed: %v", count, whole)
		}
	}
	data := []byte(said(1, 1) + "\n" + said(2, 2, "bob") + "\n")
	before := bytes.Clone(data)
	for size := range data {
		impl.HearBytes(someServer(), 0, data[:size])
		if !bytes.Equal(data, before) {
			t.Fatalf("%q was changed to %q", before, data)
		}
	}
}

// Promise 1: results are new memory.
func TestPromise1NewMemoryOfChapter10(t *testing.T) {
	text, _, _ := wholeDialogue()
	data := []byte(text + "{")
	s := serverOf(41, authorized(3, "bob"), newSession(), newSession())
	before := cloneServer(s)
	calls := []func() impl.ServerResult{
		func() impl.ServerResult { return impl.OpenSession(s) },
		func() impl.ServerResult { return impl.CloseSession(s, 0) },
		func() impl.ServerResult { return impl.CloseSession(s, 2) },
		func() impl.ServerResult { return impl.HearLine(s, 1, said(1, 1)) },
		func() impl.ServerResult { return impl.HearLine(s, 1, "") },
		func() impl.ServerResult { return impl.HearLine(s, 0, said(1, 3, "1", "2", "3")) },
		func() impl.ServerResult { return impl.HearBytes(s, 1, data) },
		func() impl.ServerResult { return impl.HearBytes(s, 1, nil) },
	}
	for i, call := range calls {
		got, again := call(), call()
		expectApart(t, "a result", got, again, s, data)
		clear(got.Lines)
		clear(got.Acts)
		clear(got.Server.Sessions)
		_ = append(got.Server.Sessions, impl.Session{Rest: "x"})
		if !equalServers(s, before) || !equalHeard(again, call()) || equalHeard(got, again) {
			t.Errorf("call %d: %v and %v", i, s, again)
		}
	}
	workers, others := impl.WorkersOf(s), impl.WorkersOf(s)
	expectApart(t, "WorkersOf", workers, others, s)
	clear(workers.Lines)
	if !slices.Equal(others.Lines, []string{"bob"}) {
		t.Errorf("WorkersOf: %v", others)
	}
	// what was heard stays when the bytes are used again
	got, again := impl.HearBytes(s, 1, data), impl.HearBytes(s, 1, bytes.Clone(data))
	for i := range data {
		data[i] = '!'
	}
	if !equalHeard(got, again) || got.Server.Sessions[1].Rest != "{" || got.Server.Sessions[1].Worker != "ann" {
		t.Errorf("HearBytes: %v instead of %v", got, again)
	}
}
