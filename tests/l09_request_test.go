package tests

import (
	"bytes"
	"encoding/json"
	"math"
	"math/rand/v2"
	"regexp"
	"slices"
	"strconv"
	"strings"
	"testing"

	"loop.example/g00539/impl"
)

var (
	argForm    = regexp.MustCompile(`\A[a-zA-Z0-9]{0,12}\z`)
	numberForm = regexp.MustCompile(`\A(0|[1-9][0-9]{0,4})\z`)
	replyForm  = regexp.MustCompile(`\A\{"id":(0|[1-9][0-9]{0,3}),"result":(true|false),"error":(null|[1-9][0-9]?)\}\z`)
)

func modelMethods() map[int64]string {
	return map[int64]string{1: "mining.subscribe", 2: "mining.authorize", 3: "mining.submit"}
}

func modelArgsFault(args []string) int64 {
	if len(args) > 5 {
		return impl.ErrMany
	}
	for _, arg := range args {
		if !argForm.MatchString(arg) {
			return impl.ErrText
		}
	}
	return impl.OK
}

func modelRequestFault(r impl.Request) int64 {
	if _, known := modelMethods()[r.Method]; !known || r.Id < 0 || r.Id > 9999 {
		return impl.ErrRange
	}
	return modelArgsFault(r.Args)
}

// modelMessage lets the standard library print a message, with its fields in their order.
func modelMessage(message any) impl.TextResult {
	var text bytes.Buffer
	encoder := json.NewEncoder(&text)
	encoder.SetEscapeHTML(false)
	if err := encoder.Encode(message); err != nil {
		panic(err)
	}
	return impl.TextResult{Text: strings.TrimSuffix(text.String(), "\n")}
}

type modelCall struct {
	Id     *int64   `json:"id"`
	Method string   `json:"method"`
	Params []string `json:"params"`
}

// withoutNil makes a list that the standard library does not print as null.
func withoutNil(args []string) []string {
	return append([]string{}, args...)
}

func modelRequestText(r impl.Request) impl.TextResult {
	if code := modelRequestFault(r); code != impl.OK {
		return impl.TextResult{Code: code}
	}
	return modelMessage(modelCall{Id: &r.Id, Method: modelMethods()[r.Method], Params: withoutNil(r.Args)})
}

func modelNotify(method string, args []string) impl.TextResult {
	if !modelIsText(method) {
		return impl.TextResult{Code: impl.ErrText}
	}
	if code := modelArgsFault(args); code != impl.OK {
		return impl.TextResult{Code: code}
	}
	return modelMessage(modelCall{Method: method, Params: withoutNil(args)})
}

// modelRequestOf takes a request from what the standard library has read.
func modelRequestOf(pairs map[string]any) (impl.Request, bool) {
	var r impl.Request
	number, isNumber := pairs["id"].(json.Number)
	name, isText := pairs["method"].(string)
	params, isList := pairs["params"].([]any)
	if len(pairs) != 3 || !isNumber || !isText || !isList {
		return r, false
	}
	r.Id, _ = number.Int64()
	for method, known := range modelMethods() {
		if name == known {
			r.Method = method
		}
	}
	for _, param := range params {
		arg, isText := param.(string)
		if !isText {
			return r, false
		}
		r.Args = append(r.Args, arg)
	}
	return r, modelRequestFault(r) == impl.OK
}

func modelReadRequest(line string) impl.RequestResult {
	if code := modelParse(line).Code; code != impl.OK {
		return impl.RequestResult{Code: code}
	}
	var read any
	decoder := json.NewDecoder(strings.NewReader(line))
	decoder.UseNumber()
	if err := decoder.Decode(&read); err != nil {
		panic(err)
	}
	pairs, _ := read.(map[string]any)
	r, found := modelRequestOf(pairs)
	if !found {
		return impl.RequestResult{Code: impl.ErrText}
	}
	return impl.RequestResult{Request: r}
}

func modelReply(id int64, ok bool, code int64) impl.TextResult {
	if id < 0 || id > 9999 || code < 0 || code > 99 {
		return impl.TextResult{Code: impl.ErrRange}
	}
	reply := struct {
		Id     int64  `json:"id"`
		Result bool   `json:"result"`
		Error  *int64 `json:"error"`
	}{Id: id, Result: ok}
	if code > 0 {
		reply.Error = &code
	}
	return modelMessage(reply)
}

func modelReadReply(line string) impl.IntsResult {
	found := replyForm.FindStringSubmatch(line)
	if found == nil {
		return impl.IntsResult{Code: impl.ErrText}
	}
	id, _ := strconv.Atoi(found[1])
	code, _ := strconv.Atoi(found[3])
	list := []int64{int64(id), 0, int64(code)}
	if found[2] == "true" {
		list[1] = 1
	}
	return impl.IntsResult{List: list}
}

func modelNumber(text string) impl.IntResult {
	if !numberForm.MatchString(text) {
		return impl.IntResult{Code: impl.ErrText}
	}
	n, _ := strconv.Atoi(text)
	return impl.IntResult{Value: int64(n)}
}

func equalRequests(a impl.Request, b impl.Request) bool {
	return a.Id == b.Id && a.Method == b.Method && slices.Equal(a.Args, b.Args)
}

func request(id int64, method int64, args ...string) impl.Request {
	return impl.Request{Id: id, Method: method, Args: args}
}

// expectRequest requires the code of RequestFault and what follows from it for RequestText and ReadRequest.
func expectRequest(t *testing.T, what string, r impl.Request, code int64) {
	t.Helper()
	if got := impl.RequestFault(r); got != code || got != modelRequestFault(r) {
		t.Errorf("%s: RequestFault of %v is %d instead of %d, the model's is %d", what, r, got, code, modelRequestFault(r))
	}
	printed := impl.RequestText(r)
	if want := modelRequestText(r); printed != want {
		t.Errorf("%s: RequestText of %v is %v instead of %v", what, r, printed, want)
	}
	if code == impl.OK {
		expectTaken(t, printed.Text, r)
	}
}

// expectLine requires of the functions that read a line what the model returns.
func expectLine(t *testing.T, line string) {
	t.Helper()
	got, want := impl.ReadRequest(line), modelReadRequest(line)
	if got.Code != want.Code || !equalRequests(got.Request, want.Request) {
		t.Errorf("ReadRequest of %q: %v instead of %v", line, got, want)
	}
	reply, back := impl.ReadReply(line), modelReadReply(line)
	if reply.Code != back.Code || !slices.Equal(reply.List, back.List) {
		t.Errorf("ReadReply of %q: %v instead of %v", line, reply, back)
	}
}

// expectTaken requires that a line has a request.
func expectTaken(t *testing.T, line string, r impl.Request) {
	t.Helper()
	expectLine(t, line)
	if got := impl.ReadRequest(line); got.Code != impl.OK || !equalRequests(got.Request, r) {
		t.Errorf("ReadRequest of %q: %v instead of %v", line, got, r)
	}
}

// expectNoRequest requires that a line has none, and that nothing stands beside the code.
func expectNoRequest(t *testing.T, line string, code int64) {
	t.Helper()
	expectLine(t, line)
	got := impl.ReadRequest(line)
	if got.Code != code || got.Request.Id != 0 || got.Request.Method != 0 || len(got.Request.Args) > 0 {
		t.Errorf("ReadRequest of %q: %v instead of code %d", line, got, code)
	}
}

func expectReply(t *testing.T, id int64, ok bool, code int64, text string) {
	t.Helper()
	got := impl.ReplyText(id, ok, code)
	if got.Code != impl.OK || got.Text != text || got != modelReply(id, ok, code) {
		t.Errorf("ReplyText of %d, %t and %d: %v instead of %q", id, ok, code, got, text)
	}
	said := int64(0)
	if ok {
		said = 1
	}
	expectList(t, "ReadReply of "+text, impl.ReadReply(text), impl.OK, id, said, code)
	expectLine(t, text)
}

func expectNoReply(t *testing.T, line string) {
	t.Helper()
	expectList(t, "ReadReply of "+line, impl.ReadReply(line), impl.ErrText)
	expectLine(t, line)
}

func expectNotify(t *testing.T, what string, method string, args []string, code int64) {
	t.Helper()
	got := impl.NotifyText(method, args)
	if got.Code != code || got != modelNotify(method, args) {
		t.Errorf("%s: NotifyText of %q and %q is %v instead of %v", what, method, args, got, modelNotify(method, args))
	}
}

func expectNumber(t *testing.T, text string, n int64) {
	t.Helper()
	expectInt(t, "NumberOf "+strconv.Quote(text), impl.NumberOf(text), impl.OK, n)
	if got := modelNumber(text); got != impl.NumberOf(text) {
		t.Errorf("NumberOf %q: the model has %v", text, got)
	}
}

func expectNoNumber(t *testing.T, text string) {
	t.Helper()
	expectInt(t, "NumberOf "+strconv.Quote(text), impl.NumberOf(text), impl.ErrText, 0)
	if got := modelNumber(text); got != impl.NumberOf(text) {
		t.Errorf("NumberOf %q: the model has %v", text, got)
	}
}

func TestConstantsOfChapter9(t *testing.T) {
	got := []int64{impl.MethodSubscribe, impl.MethodAuthorize, impl.MethodSubmit, impl.MaxArgs}
	if want := []int64{1, 2, 3, 5}; !slices.Equal(got, want) {
		t.Errorf("constants %v instead of %v", got, want)
	}
}

func TestExamplesOfChapter9(t *testing.T) {
	expectReply(t, 7, false, 21, `{"id":7,"result":false,"error":21}`)
	expectTaken(t, `{"params":["a"],"id":7,"method":"mining.submit"}`, request(7, impl.MethodSubmit, "a"))
}

func TestRequestFaultOfRanges(t *testing.T) {
	for _, n := range append(extremes(), 3, 4, 9998, 9999, 10000, 10001, 65535, 65536) {
		code := int64(impl.ErrRange)
		if n >= 0 && n <= 9999 {
			code = impl.OK
		}
		for method := int64(1); method <= 3; method++ {
			expectRequest(t, "an Id", request(n, method), code)
			expectRequest(t, "an Id with Args", request(n, method, "a", "b"), code)
		}
		code = impl.ErrRange
		if n >= 1 && n <= 3 {
			code = impl.OK
		}
		expectRequest(t, "a Method", request(0, n), code)
		expectRequest(t, "a Method with Args", request(9999, n, "a"), code)
		expectRequest(t, "an Id and a Method", request(-1, n), impl.ErrRange)
		expectRequest(t, "an Id above and a Method", request(10000, n), impl.ErrRange)
	}
	expectRequest(t, "the zero value", impl.Request{}, impl.ErrRange)
}

func TestRequestFaultOfArgs(t *testing.T) {
	for count := range 9 {
		code := int64(impl.OK)
		if count > 5 {
			code = impl.ErrMany
		}
		for _, arg := range []string{"", "a", "abcdefghijkl"} {
			expectRequest(t, "a number of Args", request(1, 1, slices.Repeat([]string{arg}, count)...), code)
		}
	}
	expectRequest(t, "1000 Args", request(1, 1, make([]string, 1000)...), impl.ErrMany)
	for _, size := range []int{0, 1, 11, 12, 13, 14, 1000} {
		code := int64(impl.OK)
		if size > 12 {
			code = impl.ErrText
		}
		for _, letter := range []string{"a", "Z", "0"} {
			for at := range 5 {
				args := []string{"a", "b", "c", "d", "e"}
				args[at] = strings.Repeat(letter, size)
				expectRequest(t, "a size", request(1, 2, args...), code)
			}
		}
	}
	// the length counts in bytes
	expectRequest(t, "6 runes", request(1, 1, strings.Repeat("é", 6)), impl.ErrText)
}

func TestRequestFaultOfBytes(t *testing.T) {
	const allowed = "abcdefghijklmnopqrstuvwxyzABCDEFGHIJKLMNOPQRSTUVWXYZ0123456789"
	for b := range 256 {
		letter := string([]byte{byte(b)})
		code := int64(impl.ErrText)
		if strings.Contains(allowed, letter) {
			code = impl.OK
		}
		for _, arg := range []string{letter, letter + "a", "a" + letter, "abcde" + letter + "FGHI9", "aaaaaaaaaaa" + letter} {
			expectRequest(t, "a byte", request(1, 3, arg), code)
			expectRequest(t, "a byte of the last one", request(1, 3, "a", "b", "c", "d", arg), code)
			expectNotify(t, "a byte", "m", []string{arg}, code)
			expectNotify(t, "a byte of the last one", "m", []string{"a", "b", "c", "d", arg}, code)
			// as a Text of chapter 8 it may well be in the line
			expectLine(t, `{"id":1,"method":"mining.submit","params":["`+arg+`"]}`)
		}
	}
	for _, arg := range []string{"`", "{", "@", "[", "/", ":", " ", "a b", " a", "a ", "é", "\x80", "\xff", "ä", "٣", "a\n"} {
		expectRequest(t, "a neighbour", request(1, 1, arg), impl.ErrText)
	}
}

// The codes come in the order of the contract.
func TestRequestFaultOrderOfCodes(t *testing.T) {
	many, malformed := make([]string, 6), []string{"a", "-"}
	both := append(slices.Clone(malformed), many...)
	expectRequest(t, "an Id before Args", request(10000, 1, many...), impl.ErrRange)
	expectRequest(t, "an Id before an argument", request(-1, 1, malformed...), impl.ErrRange)
	expectRequest(t, "a Method before Args", request(1, 0, many...), impl.ErrRange)
	expectRequest(t, "a Method before an argument", request(1, 4, malformed...), impl.ErrRange)
	expectRequest(t, "a Method before both", request(1, 4, both...), impl.ErrRange)
	expectRequest(t, "Args before an argument", request(1, 1, both...), impl.ErrMany)
	expectRequest(t, "Args before the sixth", request(1, 1, "", "", "", "", "", "-"), impl.ErrMany)
	expectRequest(t, "an argument", request(1, 1, malformed...), impl.ErrText)
}

func TestRequestText(t *testing.T) {
	for _, c := range []struct {
		r    impl.Request
		text string
	}{
		{request(0, 1), `{"id":0,"method":"mining.subscribe","params":[]}`},
		{request(9999, 2, "bob"), `{"id":9999,"method":"mining.authorize","params":["bob"]}`},
		{request(7, 3, "1", "300", "5"), `{"id":7,"method":"mining.submit","params":["1","300","5"]}`},
		{request(10, 1, "", ""), `{"id":10,"method":"mining.subscribe","params":["",""]}`},
		{request(1, 3, "null", "true", "007", "Az09", ""), `{"id":1,"method":"mining.submit","params":["null","true","007","Az09",""]}`},
	} {
		expectRequest(t, "a request", c.r, impl.OK)
		if got := impl.RequestText(c.r); got.Text != c.text {
			t.Errorf("RequestText of %v: %v instead of %q", c.r, got, c.text)
		}
	}
}

// The longest messages are shorter than a line may be.
func TestLongestMessages(t *testing.T) {
	args := slices.Repeat([]string{"abcdefghijkl"}, 5)
	for method := int64(1); method <= 3; method++ {
		expectRequest(t, "a long request", request(9999, method, args...), impl.OK)
	}
	if got := impl.RequestText(request(9999, impl.MethodSubscribe, args...)); len(got.Text) != 125 {
		t.Errorf("a request of %d bytes: %v", len(got.Text), got)
	}
	method := strings.Repeat("m", 40)
	expectNotify(t, "a long notification", method, args, impl.OK)
	if got := impl.NotifyText(method, args); len(got.Text) != 149 || !strings.Contains(got.Text, `"`+method+`"`) {
		t.Errorf("a notification of %d bytes: %v", len(got.Text), got)
	}
	// it is no request, but a line with a value
	if got := impl.ParseVals(impl.NotifyText(method, args).Text); got.Code != impl.OK {
		t.Errorf("a notification is parsed as %v", got)
	}
	expectNoRequest(t, impl.NotifyText(method, args).Text, impl.ErrText)
	expectReply(t, 9999, false, 99, `{"id":9999,"result":false,"error":99}`)
}

// pairOrders lists the lines with some pairs in all orders.
func pairOrders(pairs []string, comma string) []string {
	var numbers []int64
	for i := range pairs {
		numbers = append(numbers, int64(i))
	}
	var lines []string
	for _, order := range ordersOf(numbers) {
		var parts []string
		for _, i := range order {
			parts = append(parts, pairs[i])
		}
		lines = append(lines, "{"+strings.Join(parts, comma)+"}")
	}
	return lines
}

func TestReadRequestOfOrders(t *testing.T) {
	for _, c := range []struct {
		r     impl.Request
		pairs []string
	}{
		{request(3, 1), []string{`"id":3`, `"method":"mining.subscribe"`, `"params":[]`}},
		{request(0, 2, "bob", ""), []string{`"id":0`, `"method":"mining.authorize"`, `"params":["bob",""]`}},
		{request(9999, 3, "1", "2", "3", "4", "5"), []string{`"id":9999`, `"method":"mining.submit"`, `"params":["1","2","3","4","5"]`}},
	} {
		for _, line := range pairOrders(c.pairs, ",") {
			expectTaken(t, line, c.r)
			expectTaken(t, strings.Join(tokensOf(line), " "), c.r)
			expectTaken(t, "  "+line+"  ", c.r)
			tokens := tokensOf(line)
			for i := range len(tokens) + 1 {
				expectTaken(t, strings.Join(tokens[:i], "")+" "+strings.Join(tokens[i:], ""), c.r)
			}
		}
		// a pair missing, a pair twice, and a fourth one, in all orders
		for i := range c.pairs {
			for _, line := range pairOrders(slices.Delete(slices.Clone(c.pairs), i, i+1), ",") {
				expectNoRequest(t, line, impl.ErrText)
			}
			for _, line := range pairOrders(append(slices.Clone(c.pairs), c.pairs[i]), ",") {
				expectNoRequest(t, line, impl.ErrText)
			}
			expectNoRequest(t, "{"+c.pairs[i]+"}", impl.ErrText)
		}
		for _, more := range []string{`"x":1`, `"":null`, `"Id":3`, `"id ":3`, `"error":null`, `"jsonrpc":"2.0"`, `"parameters":[]`} {
			for _, line := range pairOrders(append(slices.Clone(c.pairs), more), ",") {
				expectNoRequest(t, line, impl.ErrText)
			}
		}
	}
}

func TestReadRequestOfNames(t *testing.T) {
	names := []string{"id", "method", "params"}
	line := func(names []string) string {
		return `{"` + names[0] + `":1,"` + names[1] + `":"mining.submit","` + names[2] + `":["a"]}`
	}
	expectTaken(t, line(names), request(1, 3, "a"))
	for i, name := range names {
		for _, other := range []string{strings.ToUpper(name), strings.ToUpper(name[:1]) + name[1:], " " + name, name + " ", name[1:], name + "s", "", "x"} {
			changed := slices.Clone(names)
			changed[i] = other
			expectNoRequest(t, line(changed), impl.ErrText)
		}
		// two names exchanged
		changed := slices.Clone(names)
		changed[i], changed[(i+1)%3] = changed[(i+1)%3], changed[i]
		expectNoRequest(t, line(changed), impl.ErrText)
	}
}

func TestReadRequestOfIds(t *testing.T) {
	line := func(id string) string { return `{"id":` + id + `,"method":"mining.submit","params":["a"]}` }
	for _, id := range []int64{0, 1, 9, 10, 99, 100, 999, 1000, 9998, 9999} {
		expectTaken(t, line(strconv.FormatInt(id, 10)), request(id, 3, "a"))
	}
	for _, id := range []string{
		"10000", "10001", "65536", "2147483646", "2147483647", "4294967296", "-1", "-0", "+1", "01", "00", "1.0", "1e1", "0x1", "null", "true", "false",
		`"1"`, `""`, `"id"`, "[]", "[1]", "[1,2]", "{}", `{"id":1}`, "",
	} {
		expectNoRequest(t, line(id), impl.ErrText)
	}
}

func TestReadRequestOfMethods(t *testing.T) {
	line := func(method string) string { return `{"id":1,"method":` + method + `,"params":["a"]}` }
	for method, name := range modelMethods() {
		expectTaken(t, line(`"`+name+`"`), request(1, method, "a"))
		for _, other := range []string{
			strings.ToUpper(name), "Mining" + name[6:], name + " ", " " + name, name[:len(name)-1], name[1:], name + "s", name[7:], "mining" + name[7:],
			strings.Replace(name, ".", "_", 1), strings.Replace(name, "i", "1", 1),
		} {
			expectNoRequest(t, line(`"`+other+`"`), impl.ErrText)
		}
		expectNoRequest(t, line(`["`+name+`"]`), impl.ErrText)
		expectNoRequest(t, line(`{"`+name+`":1}`), impl.ErrText)
		expectNoRequest(t, line(name), impl.ErrText)
		expectNoRequest(t, line(strconv.FormatInt(method, 10)), impl.ErrText)
	}
	for _, method := range []string{`""`, `" "`, `"mining."`, `"mining"`, `"mining.notify"`, `"mining.set_difficulty"`, `"method"`, `"1"`, `"null"`, "null", "true", "false", "0", "4", "[]", "{}", ""} {
		expectNoRequest(t, line(method), impl.ErrText)
	}
}

func TestReadRequestOfParams(t *testing.T) {
	line := func(params string) string { return `{"id":1,"method":"mining.submit","params":` + params + `}` }
	for count := range 6 {
		args := slices.Repeat([]string{"aZ9"}, count)
		expectTaken(t, line("["+strings.Join(slices.Repeat([]string{`"aZ9"`}, count), ",")+"]"), request(1, 3, args...))
	}
	for _, params := range []string{"null", "true", "false", "0", "1", `""`, `"a"`, "{}", `{"a":"b"}`, `{"0":"a"}`, "", `"[]"`} {
		expectNoRequest(t, line(params), impl.ErrText)
	}
	// something other than a Text, at each place
	for _, item := range []string{"1", "0", "null", "true", "false", "[]", `["a"]`, "{}", `{"a":"b"}`, `"-"`, `"a b"`, `" "`, `"abcdefghijklm"`, `"."`} {
		for count := range 5 {
			for at := range count + 1 {
				items := slices.Insert(slices.Repeat([]string{`"a"`}, count), at, item)
				expectNoRequest(t, line("["+strings.Join(items, ",")+"]"), impl.ErrText)
			}
		}
	}
	expectNoRequest(t, line(`["a","a","a","a","a","a"]`), impl.ErrText)
	expectNoRequest(t, line(`["","","","","",""]`), impl.ErrText)
	expectNoRequest(t, line(`["","","","","","","","","","","","",""]`), impl.ErrText)
	expectTaken(t, line(`["","","","",""]`), request(1, 3, "", "", "", "", ""))
	expectTaken(t, line(`["abcdefghijkl"]`), request(1, 3, "abcdefghijkl"))
}

func TestReadRequestOfLines(t *testing.T) {
	for _, line := range []string{
		"", " ", "null", "true", "false", "0", "7", `"a"`, `"mining.submit"`, "[]", "{}", `[{"id":1,"method":"mining.submit","params":[]}]`, `{"id":{"id":1,"method":"mining.submit","params":[]}}`,
		`{"id":1,"method":"mining.submit","params":[]},`, `{"id":1,"method":"mining.submit","params":[]}{}`, `{"id":1,"method":"mining.submit","params":[]`, `"id":1,"method":"mining.submit","params":[]`,
		`{"id":1,"method":"mining.submit","params":[],}`, `{"id":1 "method":"mining.submit","params":[]}`, "{\"id\":1,\"method\":\"mining.submit\",\"params\":[]}\n", "{\"id\":1,\t\"method\":\"mining.submit\",\"params\":[]}",
		`["id",1,"method","mining.submit","params",[]]`, `{"id":1,"method":"mining.submit","params":["\u0061"]}`, `{"id":null,"method":"mining.notify","params":["0"]}`, `{"id":7,"result":true,"error":null}`,
	} {
		expectNoRequest(t, line, impl.ErrText)
	}
	line := `{"id":1,"method":"mining.submit","params":["a"]}`
	for _, size := range []int{159, 160, 161, 162, 10000} {
		blanks := strings.Repeat(" ", size-len(line))
		for _, long := range []string{line + blanks, blanks + line, line[:1] + blanks + line[1:]} {
			if size <= 160 {
				expectTaken(t, long, request(1, 3, "a"))
			} else {
				expectNoRequest(t, long, impl.ErrMany)
				expectNoRequest(t, strings.Repeat("x", size), impl.ErrMany)
			}
		}
	}
	expectNoRequest(t, strings.Repeat("x", 160), impl.ErrText)
}

func TestReplyText(t *testing.T) {
	expectReply(t, 0, true, 0, `{"id":0,"result":true,"error":null}`)
	expectReply(t, 0, false, 0, `{"id":0,"result":false,"error":null}`)
	expectReply(t, 9999, true, 99, `{"id":9999,"result":true,"error":99}`)
	expectReply(t, 1, true, 1, `{"id":1,"result":true,"error":1}`)
	for _, n := range append(extremes(), 3, 4, 98, 99, 100, 101, 9998, 9999, 10000, 10001) {
		for _, ok := range []bool{false, true} {
			for _, c := range []struct{ id, code int64 }{{n, 0}, {n, 1}, {n, 99}, {n, -1}, {n, 100}, {0, n}, {9999, n}, {-1, n}, {10000, n}} {
				got := impl.ReplyText(c.id, ok, c.code)
				if got != modelReply(c.id, ok, c.code) {
					t.Errorf("ReplyText of %d, %t and %d: %v", c.id, ok, c.code, got)
				}
				if isInside := c.id >= 0 && c.id <= 9999 && c.code >= 0 && c.code <= 99; isInside != (got.Code == impl.OK) {
					t.Errorf("ReplyText of %d, %t and %d has code %d", c.id, ok, c.code, got.Code)
				}
			}
		}
	}
}

func TestReadReply(t *testing.T) {
	line := func(id string, result string, code string) string {
		return `{"id":` + id + `,"result":` + result + `,"error":` + code + `}`
	}
	expectList(t, "a reply", impl.ReadReply(line("7", "false", "21")), impl.OK, 7, 0, 21)
	expectList(t, "a reply", impl.ReadReply(line("0", "true", "null")), impl.OK, 0, 1, 0)
	for _, id := range []string{"10000", "00", "07", "-1", "+1", "null", "true", `"7"`, "[7]", "[]", "{}", "7.0", "", " 7", "7 ", "2147483646", "2147483647", "4294967303", "18446744073709551623"} {
		expectNoReply(t, line(id, "true", "null"))
		expectNoReply(t, line(id, "false", "21"))
	}
	for _, result := range []string{"1", "0", "null", `"true"`, "[true]", "[]", "{}", "2", "True", "tru", "", " true", "true ", "false0"} {
		expectNoReply(t, line("7", result, "null"))
		expectNoReply(t, line("7", result, "21"))
	}
	for _, code := range []string{"0", "00", "01", "021", "100", "101", "-1", "true", "false", `"21"`, "[21]", "[]", "{}", "Null", "", " 21", "21 ", " null", "null ", "2 1", "65536", "4294967317"} {
		expectNoReply(t, line("7", "true", code))
		expectNoReply(t, line("7", "false", code))
		expectNoReply(t, line("0", "false", code))
	}
	pairs := []string{`"id":7`, `"result":true`, `"error":21`}
	for i, other := range pairOrders(pairs, ",") {
		if i == 0 {
			expectReply(t, 7, true, 21, other)
		} else {
			expectNoReply(t, other)
		}
	}
	for i := range pairs {
		for _, other := range pairOrders(append(slices.Clone(pairs), pairs[i]), ",") {
			expectNoReply(t, other)
		}
		for _, other := range pairOrders(append(slices.Clone(pairs), `"x":1`), ",") {
			expectNoReply(t, other)
		}
		for _, other := range pairOrders(slices.Delete(slices.Clone(pairs), i, i+1), ",") {
			expectNoReply(t, other)
		}
	}
	for _, other := range []string{
		"", "{}", "[]", "null", "0", `[7,true,21]`, `{"id":0,"result":false,"error":null`, `{"Id":0,"result":false,"error":null}`, `{"id":0,"Result":false,"error":null}`, `{"id":0,"result":false,"Error":null}`,
		`{"id":0,"result":false,"errors":null}`, `{"ids":0,"result":false,"error":null}`, `{"id":0,"result":false,"error":null}` + "\n", "\n" + `{"id":0,"result":false,"error":null}`, `{"":0,"":false,"":null}`,
		`{"id":0,"result":false,"error":null}{}`, `[{"id":0,"result":false,"error":null}]`, "\x00", "\xff", strings.Repeat(" ", 160), strings.Repeat(" ", 161), strings.Repeat("[", 5000),
		`{"id":7,"method":"mining.submit","params":[]}`, `{"id":null,"method":"mining.notify","params":[]}`,
	} {
		expectNoReply(t, other)
	}
	// a blank between any two tokens, or the text made long with blanks
	text := line("7", "true", "21")
	tokens := tokensOf(text)
	for i := range len(tokens) + 1 {
		for _, size := range []int{1, 2, 160 - len(text), 161 - len(text), 1000} {
			expectNoReply(t, strings.Join(tokens[:i], "")+strings.Repeat(" ", size)+strings.Join(tokens[i:], ""))
		}
	}
}

func TestNotifyText(t *testing.T) {
	for _, c := range []struct {
		method string
		args   []string
		text   string
	}{
		{"mining.notify", []string{"0"}, `{"id":null,"method":"mining.notify","params":["0"]}`},
		{"", nil, `{"id":null,"method":"","params":[]}`},
		{"mining.set_difficulty", []string{"12", "", "Ab"}, `{"id":null,"method":"mining.set_difficulty","params":["12","","Ab"]}`},
		{" {}[]:,<>&'", []string{}, `{"id":null,"method":" {}[]:,<>&'","params":[]}`},
		{"mining.submit", []string{"a"}, `{"id":null,"method":"mining.submit","params":["a"]}`},
	} {
		expectNotify(t, "a notification", c.method, c.args, impl.OK)
		if got := impl.NotifyText(c.method, c.args); got.Text != c.text {
			t.Errorf("NotifyText of %q and %q: %v instead of %q", c.method, c.args, got, c.text)
		}
		expectNoRequest(t, c.text, impl.ErrText)
		expectNoReply(t, c.text)
	}
}

func TestNotifyTextOfMethods(t *testing.T) {
	for _, size := range []int{0, 1, 13, 39, 40, 41, 42, 161, 10000} {
		code := int64(impl.OK)
		if size > 40 {
			code = impl.ErrText
		}
		expectNotify(t, "a size", strings.Repeat("a", size), nil, code)
		expectNotify(t, "a size", strings.Repeat("~", size), []string{"a"}, code)
	}
	for b := range 256 {
		code := int64(impl.OK)
		if b < 32 || b > 126 || b == '"' || b == '\\' {
			code = impl.ErrText
		}
		letter := string([]byte{byte(b)})
		for _, method := range []string{letter, "a" + letter, letter + "a"} {
			expectNotify(t, "a byte", method, []string{"a"}, code)
		}
	}
	expectNotify(t, "20 runes", strings.Repeat("é", 20), nil, impl.ErrText)
}

func TestNotifyTextOfArgs(t *testing.T) {
	for count := range 9 {
		code := int64(impl.OK)
		if count > 5 {
			code = impl.ErrMany
		}
		for _, arg := range []string{"", "a", "abcdefghijkl"} {
			expectNotify(t, "a number of arguments", "m", slices.Repeat([]string{arg}, count), code)
		}
	}
	for _, size := range []int{0, 1, 11, 12, 13, 40, 41, 1000} {
		code := int64(impl.OK)
		if size > 12 {
			code = impl.ErrText
		}
		for at := range 5 {
			args := []string{"a", "b", "c", "d", "e"}
			args[at] = strings.Repeat("z", size)
			expectNotify(t, "a size", "m", args, code)
		}
	}
	many := make([]string, 6)
	expectNotify(t, "a method before arguments", "\"", many, impl.ErrText)
	expectNotify(t, "arguments before one of them", "m", append([]string{"-"}, many...), impl.ErrMany)
	expectNotify(t, "arguments before the sixth", "m", []string{"", "", "", "", "", "-"}, impl.ErrMany)
	expectNotify(t, "one of them", "m", []string{"", "-"}, impl.ErrText)
}

func TestNumberOf(t *testing.T) {
	for n := range int64(100000) {
		if got := impl.NumberOf(strconv.FormatInt(n, 10)); got.Code != impl.OK || got.Value != n {
			t.Errorf("NumberOf %d: %v", n, got)
		}
	}
	for _, n := range []int64{0, 1, 9, 10, 99, 100, 999, 1000, 9999, 10000, 65535, 99999} {
		text := strconv.FormatInt(n, 10)
		expectNumber(t, text, n)
		for _, other := range []string{"0" + text, "00" + text, "-" + text, "+" + text, " " + text, text + " ", text + "\n", text + ".", text + "a", "a" + text, text + "_0", "0x" + text, "\"" + text + "\"", text + "\x00", text + "e0"} {
			expectNoNumber(t, other)
		}
	}
	for _, text := range []string{
		"", " ", "-", "+", "a", "-0", "+0", "00", "000", "00000", "007", "01", "100000", "123456", "999999", "000001", "1 2", "1,2", "1_0", "0x1", "0b1", "0o7", "1e2", "٣", "１", "\xff", "\x00", "null",
		"4294967296", "4294967297", "9223372036854775808", "18446744073709551616", "18446744073709551617", strings.Repeat("1", 100), strings.Repeat("0", 100), strings.Repeat("9", 10000),
	} {
		expectNoNumber(t, text)
	}
	for b := range 256 {
		letter := string([]byte{byte(b)})
		if b >= '0' && b <= '9' {
			expectNumber(t, letter, int64(b-'0'))
			expectNumber(t, "1"+letter, int64(10+b-'0'))
			continue
		}
		for _, text := range []string{letter, "1" + letter, letter + "1", "1" + letter + "1", "0" + letter} {
			expectNoNumber(t, text)
		}
	}
}

func randomRequest(source *rand.Rand) impl.Request {
	const letters = "abcdefghijklmnopqrstuvwxyzABCDEFGHIJKLMNOPQRSTUVWXYZ0123456789"
	r := request(source.Int64N(10000), 1+source.Int64N(3))
	for range source.IntN(6) {
		arg := ""
		for range source.IntN(13) {
			arg += string(letters[source.IntN(len(letters))])
		}
		r.Args = append(r.Args, arg)
	}
	return r
}

// withBlanks puts blanks between the tokens of a line.
func withBlanks(source *rand.Rand, line string) string {
	text := ""
	for _, token := range tokensOf(line) {
		text += strings.Repeat(" ", source.IntN(2)) + token
	}
	return text
}

// Promise 10: a request is read back from its line, with blanks and in other orders too.
func TestPromise10Requests(t *testing.T) {
	source := rand.New(rand.NewPCG(9, 1))
	for range 3000 {
		r := randomRequest(source)
		expectRequest(t, "a random request", r, impl.OK)
		line := impl.RequestText(r).Text
		if got := impl.ReadRequest(line); got.Code != impl.OK || !equalRequests(got.Request, r) {
			t.Errorf("%v is read back from %q as %v", r, line, got)
		}
		params, _ := json.Marshal(withoutNil(r.Args))
		pairs := []string{`"id":` + strconv.FormatInt(r.Id, 10), `"method":"` + modelMethods()[r.Method] + `"`, `"params":` + string(params)}
		for _, other := range pairOrders(pairs, ",") {
			expectTaken(t, other, r)
			expectTaken(t, withBlanks(source, other), r)
		}
	}
}

// Promise 10: each id, and each code beside both results.
func TestPromise10AllNumbers(t *testing.T) {
	for id := range int64(10000) {
		r := request(id, 1+id%3, strconv.FormatInt(id, 10))
		if got := impl.ReadRequest(impl.RequestText(r).Text); got.Code != impl.OK || !equalRequests(got.Request, r) {
			t.Errorf("%v is read back as %v", r, got)
		}
		if got := impl.ReadReply(impl.ReplyText(id, id%2 == 1, id%100).Text); got.Code != impl.OK || !slices.Equal(got.List, []int64{id, id % 2, id % 100}) {
			t.Errorf("a reply to %d is read back as %v", id, got)
		}
	}
	for code := range int64(100) {
		for _, ok := range []bool{false, true} {
			for _, id := range []int64{0, 1, 42, 9999} {
				expectReply(t, id, ok, code, modelReply(id, ok, code).Text)
			}
		}
	}
}

// Promise 10: different requests and replies have different lines, and none has the line of another kind.
func TestPromise10DifferentLines(t *testing.T) {
	source := rand.New(rand.NewPCG(9, 2))
	lines := map[string]bool{}
	for range 500 {
		r := randomRequest(source)
		line := impl.RequestText(r).Text
		lines[line] = true
		expectNoReply(t, line)
		others := []impl.Request{request(r.Id, r.Method%3+1, r.Args...), request((r.Id+1)%10000, r.Method, r.Args...)}
		if len(r.Args) < 5 {
			others = append(others, request(r.Id, r.Method, append(slices.Clone(r.Args), "")...))
		}
		for _, other := range others {
			if impl.RequestText(other).Text == line {
				t.Errorf("%v and %v have one line", r, other)
			}
		}
	}
	for id := range int64(100) {
		for code := range int64(100) {
			for _, ok := range []bool{false, true} {
				line := impl.ReplyText(id*101, ok, code).Text
				if lines[line] {
					t.Errorf("%q stands for two", line)
				}
				lines[line] = true
				if got := impl.ReadRequest(line); got.Code != impl.ErrText {
					t.Errorf("%q is read as %v", line, got)
				}
			}
		}
	}
}

// Each line is cut at every byte and changed at every byte.
func TestChangedLines(t *testing.T) {
	tokens := []string{" ", `"`, "0", "1", "9", "a", "A", "-", ",", ":", "[", "]", "{", "}", "null", "true", `,"a"`, `"a",`, `,"id":1`, `"id":1,`, "\\", "\n", "\x7f", "\x80"}
	for _, line := range []string{
		`{"id":0,"method":"mining.subscribe","params":[]}`, `{"id":1234,"method":"mining.authorize","params":["bob"]}`, `{"params":["1","300","abcdefghijkl","A",""],"id":7,"method":"mining.submit"}`,
		`{"id":7,"result":false,"error":21}`, `{"id":9999,"result":true,"error":null}`, `{"id":0,"result":true,"error":9}`, `{"id":null,"method":"mining.notify","params":["0"]}`,
	} {
		for at := range len(line) + 1 {
			expectLine(t, line[:at])
			expectLine(t, line[at:])
			for _, token := range tokens {
				expectLine(t, line[:at]+token+line[at:])
				expectLine(t, line[:at]+token+line[min(at+1, len(line)):])
			}
			expectLine(t, line[:at]+line[min(at+1, len(line)):])
		}
	}
}

// Maps of the protocol's names with any values.
func TestRandomPairs(t *testing.T) {
	source := rand.New(rand.NewPCG(9, 3))
	names := []string{"id", "method", "params", "result", "error", "x"}
	values := []string{"null", "true", "false", "0", "1", "99", "100", "9999", "10000", `""`, `"a"`, `"mining.submit"`, `"mining.subscribe"`, "[]", `["a"]`, `["a",1]`, `["a","b","c","d","e","f"]`, "{}", `{"id":1}`}
	for range 50000 {
		var pairs []string
		for _, i := range source.Perm(len(names))[:1+source.IntN(4)] {
			value := values[source.IntN(len(values))]
			switch {
			case source.IntN(3) == 0:
			case names[i] == "id":
				value = strconv.Itoa(source.IntN(11000))
			case names[i] == "method":
				value = `"` + modelMethods()[1+source.Int64N(3)] + `"`
			case names[i] == "params":
				value = `["a","2"]`
			case names[i] == "result":
				value = "true"
			}
			pairs = append(pairs, `"`+names[i]+`":`+value)
		}
		expectLine(t, "{"+strings.Join(pairs, ",")+"}")
	}
}

// Promise 1: all arguments have a result, the same one each time, and are not changed.
func TestPromise1AllOfChapter9(t *testing.T) {
	source := rand.New(rand.NewPCG(9, 4))
	wild := append(extremes(), 3, 4, 99, 100, 9999, 10000)
	texts := []string{"", "a", "Z9", "\"", "\\", "\x00", "\xff", "\n", "é", "a b", "mining.submit", "abcdefghijkl", "abcdefghijklm", strings.Repeat("a", 40), strings.Repeat("a", 41), strings.Repeat(" ", 5000)}
	for range 20000 {
		r := impl.Request{Id: wild[source.IntN(len(wild))], Method: wild[source.IntN(len(wild))]}
		if source.IntN(2) > 0 {
			r.Id, r.Method = source.Int64N(10001), 1+source.Int64N(3)
		}
		for range source.IntN(8) {
			r.Args = append(r.Args, texts[source.IntN(1+source.IntN(len(texts)))])
		}
		before := slices.Clone(r.Args)
		expectRequest(t, "any request", r, modelRequestFault(r))
		method := texts[source.IntN(len(texts))]
		expectNotify(t, "any notification", method, r.Args, modelNotify(method, r.Args).Code)
		if !slices.Equal(r.Args, before) {
			t.Fatalf("%q was changed to %q", before, r.Args)
		}
		code, ok := wild[source.IntN(len(wild))], source.IntN(2) == 0
		if got := impl.ReplyText(r.Id, ok, code); got != modelReply(r.Id, ok, code) || got != impl.ReplyText(r.Id, ok, code) {
			t.Errorf("ReplyText of %d, %t and %d: %v", r.Id, ok, code, got)
		}
	}
	for range 20000 {
		text := randomBytes(source, source.IntN(170))
		expectLine(t, text)
		short := text[:min(len(text), source.IntN(7))]
		if got := impl.NumberOf(short); got != modelNumber(short) || got != impl.NumberOf(short) {
			t.Errorf("NumberOf %q: %v", short, got)
		}
	}
	for _, text := range append(texts, strings.Repeat("{", 100000), strings.Repeat("[", 160), strings.Repeat(`{"id":`, 26)) {
		expectLine(t, text)
		expectPure(t, "NumberOf "+text, func() impl.IntResult { return impl.NumberOf(text) })
	}
	expectRequest(t, "extreme numbers", impl.Request{Id: math.MinInt64, Method: math.MaxInt64}, impl.ErrRange)
}

// Promise 1: nil is an empty list.
func TestPromise1NilOfChapter9(t *testing.T) {
	for method := int64(1); method <= 3; method++ {
		none, empty := impl.Request{Id: 1, Method: method}, impl.Request{Id: 1, Method: method, Args: []string{}}
		expectRequest(t, "nil", none, impl.OK)
		if impl.RequestText(none) != impl.RequestText(empty) {
			t.Errorf("nil and an empty list have different texts: %v", impl.RequestText(none))
		}
	}
	if got := impl.NotifyText("m", nil); got != impl.NotifyText("m", []string{}) || got.Code != impl.OK {
		t.Errorf("nil and an empty list have different texts: %v", got)
	}
}

// Promise 1: nothing is written behind the end of an argument, and nothing is read there.
func TestPromise1EndsOfChapter9(t *testing.T) {
	whole := []string{"a", "b", "c", "d", "e", "-", "-", "-"}
	before := slices.Clone(whole)
	for size := range 6 {
		expectRequest(t, "a part", request(1, 1, whole[:size]...), impl.OK)
		expectNotify(t, "a part", "m", whole[:size], impl.OK)
		if !slices.Equal(whole, before) {
			t.Fatalf("%q was changed to %q", before, whole)
		}
	}
}

// Promise 1: results are new memory.
func TestPromise1NewMemoryOfChapter9(t *testing.T) {
	r := request(7, 3, "1", "300", "5")
	line := impl.RequestText(r).Text
	got, again := impl.ReadRequest(line), impl.ReadRequest(line)
	expectApart(t, "ReadRequest", got, again, r)
	clear(got.Request.Args)
	_ = append(got.Request.Args, "x")
	if !equalRequests(again.Request, r) || !equalRequests(impl.ReadRequest(line).Request, r) {
		t.Errorf("ReadRequest: %v", again)
	}
	text := impl.ReplyText(7, true, 21).Text
	reply, other := impl.ReadReply(text), impl.ReadReply(text)
	expectApart(t, "ReadReply", reply, other)
	clear(reply.List)
	expectList(t, "ReadReply", other, impl.OK, 7, 1, 21)
	expectList(t, "ReadReply", impl.ReadReply(text), impl.OK, 7, 1, 21)
	// what was printed stays when the arguments are used again
	args := []string{"a", "b"}
	notice := impl.NotifyText("m", args)
	printed := impl.RequestText(request(1, 1, args...))
	clear(args)
	if !strings.Contains(notice.Text, `["a","b"]`) || !strings.Contains(printed.Text, `["a","b"]`) {
		t.Errorf("%v and %v", notice, printed)
	}
}
