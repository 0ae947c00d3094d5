package tests

import (
	"encoding/json"
	"math"
	"math/rand/v2"
	"reflect"
	"slices"
	"strconv"
	"strings"
	"testing"

	"loop.example/g00539/impl"
)

func nullVal() []impl.Val {
	return []impl.Val{{Kind: impl.ValNull}}
}

func boolVal(n int64) []impl.Val {
	return []impl.Val{{Kind: impl.ValBool, Num: n}}
}

func numVal(n int64) []impl.Val {
	return []impl.Val{{Kind: impl.ValNum, Num: n}}
}

func textVal(text string) []impl.Val {
	return []impl.Val{{Kind: impl.ValText, Text: text}}
}

func listVal(items ...[]impl.Val) []impl.Val {
	head := []impl.Val{{Kind: impl.ValList, Num: int64(len(items))}}
	return append(head, slices.Concat(items...)...)
}

// mapVal takes names and values in turn.
func mapVal(entries ...[]impl.Val) []impl.Val {
	head := []impl.Val{{Kind: impl.ValMap, Num: int64(len(entries) / 2)}}
	return append(head, slices.Concat(entries...)...)
}

// inLists puts a value into lists of one.
func inLists(v []impl.Val, times int) []impl.Val {
	for range times {
		v = listVal(v)
	}
	return v
}

// inMaps puts a value into maps of one.
func inMaps(v []impl.Val, times int) []impl.Val {
	for range times {
		v = mapVal(textVal("a"), v)
	}
	return v
}

// nulls is a list of nulls with so many Vals in all.
func nulls(size int) []impl.Val {
	return listVal(slices.Repeat([][]impl.Val{nullVal()}, size-1)...)
}

func modelIsText(text string) bool {
	return len(text) <= 40 && !strings.ContainsFunc(text, func(r rune) bool {
		return r < ' ' || r > '~' || r == '"' || r == '\\'
	})
}

func modelValFault(x impl.Val) int64 {
	uses := map[int64][2]bool{1: {}, 2: {true, false}, 3: {true, false}, 4: {false, true}, 5: {true, false}, 6: {true, false}}
	limits := map[int64]int64{2: 1, 3: 2147483646, 5: 20, 6: 20}
	use, known := uses[x.Kind]
	if !known || !use[0] && x.Num != 0 || !use[1] && x.Text != "" {
		return impl.ErrForm
	}
	if x.Num < 0 || x.Num > limits[x.Kind] {
		return impl.ErrRange
	}
	if !modelIsText(x.Text) {
		return impl.ErrText
	}
	return impl.OK
}

// modelFrame is a list or map that lacks some Vals still.
type modelFrame struct {
	isMap bool
	lacks int64
	names map[string]bool
}

// modelValsFault goes through the Vals once, with the lists and maps around the next one.
func modelValsFault(v []impl.Val) int64 {
	if len(v) == 0 || len(v) > 20 {
		return impl.ErrMany
	}
	for _, x := range v {
		if code := modelValFault(x); code != impl.OK {
			return code
		}
	}
	around := []modelFrame{{lacks: 1}}
	deepest, repeated := 0, false
	for _, x := range v {
		if len(around) == 0 {
			return impl.ErrForm
		}
		deepest = max(deepest, len(around)-1)
		last := &around[len(around)-1]
		if last.isMap && last.lacks%2 == 0 {
			if x.Kind != impl.ValText {
				return impl.ErrForm
			}
			repeated = repeated || last.names[x.Text]
			last.names[x.Text] = true
		}
		last.lacks--
		if x.Kind == impl.ValList {
			around = append(around, modelFrame{lacks: x.Num})
		}
		if x.Kind == impl.ValMap {
			around = append(around, modelFrame{isMap: true, lacks: 2 * x.Num, names: map[string]bool{}})
		}
		for len(around) > 0 && around[len(around)-1].lacks == 0 {
			around = around[:len(around)-1]
		}
	}
	switch {
	case len(around) > 0:
		return impl.ErrForm
	case repeated:
		return impl.ErrTaken
	case deepest > 4:
		return impl.ErrMany
	}
	return impl.OK
}

// modelEnd is the index after the value that begins at an index.
func modelEnd(v []impl.Val, at int) int {
	for lacks := int64(1); lacks > 0; lacks-- {
		if v[at].Kind == impl.ValList {
			lacks += v[at].Num
		}
		if v[at].Kind == impl.ValMap {
			lacks += 2 * v[at].Num
		}
		at++
	}
	return at
}

// modelText prints a value without faults.
func modelText(v []impl.Val) string {
	switch x := v[0]; x.Kind {
	case impl.ValNull:
		return "null"
	case impl.ValBool:
		return []string{"false", "true"}[x.Num]
	case impl.ValNum:
		return strconv.Itoa(int(x.Num))
	case impl.ValText:
		return "\"" + x.Text + "\""
	}
	text := ""
	for i, at := int64(0), 1; at < len(v); i++ {
		end := modelEnd(v, at)
		mark := ","
		if v[0].Kind == impl.ValMap && i%2 == 1 {
			mark = ":"
		}
		text += mark + modelText(v[at:end])
		at = end
	}
	text = strings.TrimPrefix(text, ",")
	if v[0].Kind == impl.ValMap {
		return "{" + text + "}"
	}
	return "[" + text + "]"
}

func modelPrint(v []impl.Val) impl.TextResult {
	if code := modelValsFault(v); code != impl.OK {
		return impl.TextResult{Code: code}
	}
	text := modelText(v)
	if len(text) > 160 {
		return impl.TextResult{Code: impl.ErrMany}
	}
	return impl.TextResult{Text: text}
}

func modelEntry(v []impl.Val, name string) impl.ValsResult {
	if code := modelValsFault(v); code != impl.OK {
		return impl.ValsResult{Code: code}
	}
	if v[0].Kind != impl.ValMap {
		return impl.ValsResult{Code: impl.ErrForm}
	}
	for at := 1; at < len(v); at = modelEnd(v, at+1) {
		if v[at].Text == name {
			return impl.ValsResult{Vals: v[at+1 : modelEnd(v, at+1)]}
		}
	}
	return impl.ValsResult{Code: impl.ErrNone}
}

// modelVal is the Val of a token; a bracket is a list or a map without its Num.
func modelVal(token json.Token) impl.Val {
	switch x := token.(type) {
	case bool:
		if x {
			return boolVal(1)[0]
		}
		return boolVal(0)[0]
	case json.Number:
		n, err := strconv.ParseUint(x.String(), 10, 31)
		if err != nil {
			return impl.Val{}
		}
		return numVal(int64(n))[0]
	case string:
		return textVal(x)[0]
	case json.Delim:
		if x == '[' {
			return listVal()[0]
		}
		return mapVal()[0]
	}
	return nullVal()[0]
}

// modelRead lets the standard library read a text that it takes for valid.
func modelRead(text string) []impl.Val {
	var v []impl.Val
	around, counts := []int{}, []int64{}
	decoder := json.NewDecoder(strings.NewReader(text))
	decoder.UseNumber()
	for token, err := decoder.Token(); err == nil; token, err = decoder.Token() {
		if token == json.Delim(']') || token == json.Delim('}') {
			last := len(around) - 1
			v[around[last]].Num = counts[last]
			if token == json.Delim('}') {
				v[around[last]].Num /= 2
			}
			around, counts = around[:last], counts[:last]
			continue
		}
		if len(counts) > 0 {
			counts[len(counts)-1]++
		}
		if token == json.Delim('[') || token == json.Delim('{') {
			around, counts = append(around, len(v)), append(counts, 0)
		}
		v = append(v, modelVal(token))
	}
	return v
}

func modelParse(text string) impl.ValsResult {
	if len(text) > 160 {
		return impl.ValsResult{Code: impl.ErrMany}
	}
	for _, b := range []byte(text) {
		if b < ' ' || b > '~' || b == '\\' {
			return impl.ValsResult{Code: impl.ErrText}
		}
	}
	if !json.Valid([]byte(text)) {
		return impl.ValsResult{Code: impl.ErrText}
	}
	v := modelRead(text)
	if modelValsFault(v) != impl.OK {
		return impl.ValsResult{Code: impl.ErrText}
	}
	return impl.ValsResult{Vals: v}
}

// modelCut takes one byte after the other.
func modelCut(rest string, data string) impl.LinesResult {
	if len(rest) > 161 || len(data) > 1000 {
		return impl.LinesResult{Code: impl.ErrMany}
	}
	var result impl.LinesResult
	line := ""
	for _, b := range []byte(rest + data) {
		switch {
		case b == '\n' && len(line) > 160:
			result.Lines, line = append(result.Lines, ""), ""
		case b == '\n':
			result.Lines, line = append(result.Lines, line), ""
		case len(line) < 161:
			line += string([]byte{b})
		}
	}
	result.Rest = line
	return result
}

func equalVals(got impl.ValsResult, want impl.ValsResult) bool {
	return got.Code == want.Code && slices.Equal(got.Vals, want.Vals)
}

func equalLines(got impl.LinesResult, want impl.LinesResult) bool {
	return got.Code == want.Code && slices.Equal(got.Lines, want.Lines) && got.Rest == want.Rest
}

func expectParsed(t *testing.T, text string) {
	t.Helper()
	if got, want := impl.ParseVals(text), modelParse(text); !equalVals(got, want) {
		t.Errorf("ParseVals of %q: %v instead of %v", text, got, want)
	}
}

func expectRead(t *testing.T, text string, v []impl.Val) {
	t.Helper()
	expectParsed(t, text)
	if got := impl.ParseVals(text); !equalVals(got, impl.ValsResult{Vals: v}) {
		t.Errorf("ParseVals of %q: %v instead of %v", text, got, v)
	}
}

func expectUnread(t *testing.T, text string) {
	t.Helper()
	expectParsed(t, text)
	if got := impl.ParseVals(text); got.Code != impl.ErrText {
		t.Errorf("ParseVals of %q: %v", text, got)
	}
}

// expectVals requires of all functions that take Vals what the model returns.
func expectVals(t *testing.T, what string, v []impl.Val) {
	t.Helper()
	if got, want := impl.ValsFault(v), modelValsFault(v); got != want {
		t.Errorf("%s: ValsFault of %v is %d instead of %d", what, v, got, want)
	}
	printed := impl.PrintVals(v)
	if want := modelPrint(v); printed != want {
		t.Errorf("%s: PrintVals of %v is %v instead of %v", what, v, printed, want)
	}
	for _, name := range []string{"", "a", "b", "c"} {
		if got, want := impl.MapEntry(v, name), modelEntry(v, name); !equalVals(got, want) {
			t.Errorf("%s: MapEntry of %v and %q is %v instead of %v", what, v, name, got, want)
		}
	}
	if printed.Code == impl.OK {
		expectRead(t, printed.Text, v)
	}
	if !impl.SameVals(v, slices.Clone(v)) {
		t.Errorf("%s: %v is not the same as itself", what, v)
	}
}

// expectValsFault also requires the code that the document says.
func expectValsFault(t *testing.T, what string, v []impl.Val, code int64) {
	t.Helper()
	expectVals(t, what, v)
	if got := impl.ValsFault(v); got != code {
		t.Errorf("%s: ValsFault of %v is %d instead of %d", what, v, got, code)
	}
}

func expectPrinted(t *testing.T, v []impl.Val, text string) {
	t.Helper()
	expectVals(t, text, v)
	if got := impl.PrintVals(v); got.Code != impl.OK || got.Text != text {
		t.Errorf("PrintVals of %v: %v instead of %q", v, got, text)
	}
	expectRead(t, text, v)
}

func expectCut(t *testing.T, rest string, data string) {
	t.Helper()
	if got, want := impl.CutLines(rest, []byte(data)), modelCut(rest, data); !equalLines(got, want) {
		t.Errorf("CutLines of %q and %q: %v instead of %v", rest, data, got, want)
	}
}

func expectLines(t *testing.T, rest string, data string, left string, lines ...string) {
	t.Helper()
	expectCut(t, rest, data)
	if got := impl.CutLines(rest, []byte(data)); !equalLines(got, impl.LinesResult{Lines: lines, Rest: left}) {
		t.Errorf("CutLines of %q and %q: %v instead of %q and %q", rest, data, got, lines, left)
	}
}

func TestConstantsOfChapter8(t *testing.T) {
	got := []int64{impl.ValNull, impl.ValBool, impl.ValNum, impl.ValText, impl.ValList, impl.ValMap, impl.MaxVals, impl.MaxLine}
	if want := []int64{1, 2, 3, 4, 5, 6, 20, 160}; !slices.Equal(got, want) {
		t.Errorf("constants %v instead of %v", got, want)
	}
}

func TestExamplesOfChapter8(t *testing.T) {
	expectPrinted(t, listVal(numVal(1), textVal("a")), `[1,"a"]`)
	for _, text := range []string{"[1,]", "01", "[[[[[1]]]]]"} {
		expectUnread(t, text)
	}
	expectLines(t, "ab", "c\n\nd", "d", "abc", "")
}

func TestValsFaultOfSizes(t *testing.T) {
	expectValsFault(t, "nil", nil, impl.ErrMany)
	expectValsFault(t, "0 Vals", []impl.Val{}, impl.ErrMany)
	for _, size := range []int{1, 2, 19, 20} {
		expectValsFault(t, strconv.Itoa(size)+" Vals", nulls(size), impl.OK)
	}
	expectValsFault(t, "21 Vals in a map", mapVal(textVal("a"), nulls(9), textVal("b"), nulls(9)), impl.ErrMany)
	expectValsFault(t, "20 Vals in a map", mapVal(textVal("a"), nulls(9), textVal("b"), nulls(8)), impl.OK)
	expectValsFault(t, "21 Vals", append(nulls(20), nullVal()...), impl.ErrMany)
	expectValsFault(t, "21 Vals that are one value", listVal(nulls(10), nulls(10)), impl.ErrMany)
	expectValsFault(t, "1000 Vals", slices.Repeat(nullVal(), 1000), impl.ErrMany)
}

func TestValsFaultOfKinds(t *testing.T) {
	for _, kind := range append(extremes(), 3, 4, 5, 6, 7, 8) {
		code := int64(impl.ErrForm)
		if kind >= 1 && kind <= 6 {
			code = impl.OK
		}
		expectValsFault(t, "a kind", []impl.Val{{Kind: kind}}, code)
		expectValsFault(t, "a kind in a list", listVal([]impl.Val{{Kind: kind}}), code)
		expectValsFault(t, "a kind in a map", mapVal(textVal("a"), []impl.Val{{Kind: kind}}), code)
	}
}

func TestValsFaultOfUnusedFields(t *testing.T) {
	for kind := int64(1); kind <= 6; kind++ {
		for _, text := range []string{"", "a", "null", " ", "\x00", strings.Repeat("a", 41)} {
			code := modelValFault(impl.Val{Kind: kind, Text: text})
			if kind != impl.ValText && text != "" && code != impl.ErrForm {
				t.Errorf("the model accepts a Text for kind %d", kind)
			}
			expectValsFault(t, "a text", []impl.Val{{Kind: kind, Text: text}}, code)
		}
		for _, n := range extremes() {
			code := modelValFault(impl.Val{Kind: kind, Num: n})
			if (kind == impl.ValNull || kind == impl.ValText) && n != 0 && code != impl.ErrForm {
				t.Errorf("the model accepts a Num for kind %d", kind)
			}
			expectVals(t, "a number", []impl.Val{{Kind: kind, Num: n}})
		}
	}
	expectValsFault(t, "a null with a Num", []impl.Val{{Kind: impl.ValNull, Num: 1}}, impl.ErrForm)
	expectValsFault(t, "a text with a Num", []impl.Val{{Kind: impl.ValText, Num: 1, Text: "a"}}, impl.ErrForm)
	expectValsFault(t, "a text with a negative Num", []impl.Val{{Kind: impl.ValText, Num: -1, Text: "a"}}, impl.ErrForm)
	expectValsFault(t, "a name with a Num", mapVal([]impl.Val{{Kind: impl.ValText, Num: 1, Text: "a"}}, nullVal()), impl.ErrForm)
}

func TestValsFaultOfNums(t *testing.T) {
	for _, n := range extremes() {
		code := int64(impl.ErrRange)
		if n >= 0 && n <= impl.MaxSum {
			code = impl.OK
		}
		expectValsFault(t, "a number", numVal(n), code)
		expectValsFault(t, "a number in a list", listVal(nullVal(), numVal(n)), code)
		code = impl.ErrRange
		if n == 0 || n == 1 {
			code = impl.OK
		}
		expectValsFault(t, "a bool", boolVal(n), code)
	}
	for _, kind := range []int64{impl.ValList, impl.ValMap} {
		expectValsFault(t, "Num 0", []impl.Val{{Kind: kind}}, impl.OK)
		expectValsFault(t, "Num 1", []impl.Val{{Kind: kind, Num: 1}}, impl.ErrForm)
		expectValsFault(t, "Num 20", []impl.Val{{Kind: kind, Num: 20}}, impl.ErrForm)
		expectValsFault(t, "Num 20 with 19 Vals", append([]impl.Val{{Kind: kind, Num: 20}}, slices.Repeat(textVal("a"), 19)...), impl.ErrForm)
		for _, n := range []int64{-1, 21, 22, math.MinInt64, math.MaxInt64} {
			expectValsFault(t, "a Num out of range", []impl.Val{{Kind: kind, Num: n}}, impl.ErrRange)
		}
	}
}

func TestValsFaultOfTexts(t *testing.T) {
	for _, size := range []int{0, 1, 39, 40, 41, 1000} {
		code := int64(impl.OK)
		if size > 40 {
			code = impl.ErrText
		}
		text := textVal(strings.Repeat("~", size))
		expectValsFault(t, "a size", text, code)
		expectValsFault(t, "a size of a name", mapVal(text, nullVal()), code)
		expectValsFault(t, "a size in a list", listVal(text), code)
	}
	for b := range 256 {
		code := int64(impl.OK)
		if b < 32 || b > 126 || b == '"' || b == '\\' {
			code = impl.ErrText
		}
		for _, text := range []string{string([]byte{byte(b)}), "a" + string([]byte{byte(b)}), string([]byte{byte(b)}) + "a"} {
			expectValsFault(t, "a byte", textVal(text), code)
			expectValsFault(t, "a byte of a name", mapVal(textVal(text), numVal(1)), code)
		}
	}
	// the length counts in bytes
	expectValsFault(t, "20 runes", textVal(strings.Repeat("é", 20)), impl.ErrText)
	expectValsFault(t, "40 blanks", textVal(strings.Repeat(" ", 40)), impl.OK)
}

func TestValsFaultOfValues(t *testing.T) {
	a, b := textVal("a"), textVal("b")
	for _, c := range []struct {
		what string
		v    []impl.Val
		code int64
	}{
		{"two values", slices.Concat(nullVal(), nullVal()), impl.ErrForm},
		{"a value after a list", slices.Concat(listVal(nullVal()), nullVal()), impl.ErrForm},
		{"a value after an empty list", slices.Concat(listVal(), nullVal()), impl.ErrForm},
		{"a value after a map", slices.Concat(mapVal(a, nullVal()), nullVal()), impl.ErrForm},
		{"a list with too few", listVal(nullVal(), nullVal())[:2], impl.ErrForm},
		{"an inner list with too few", listVal(nullVal(), nulls(3))[:4], impl.ErrForm},
		{"a map without a value", mapVal(a, nullVal())[:2], impl.ErrForm},
		{"a map with a value too few", mapVal(a, nullVal(), b, nullVal())[:4], impl.ErrForm},
		{"a map with a pair too few", mapVal(a, nullVal(), b, nullVal())[:3], impl.ErrForm},
		{"an empty list", listVal(), impl.OK},
		{"an empty map", mapVal(), impl.OK},
		{"empty ones in a list", listVal(listVal(), mapVal(), listVal()), impl.OK},
		{"empty ones in a map", mapVal(a, listVal(), b, mapVal()), impl.OK},
		{"a name that is null", mapVal(nullVal(), nullVal()), impl.ErrForm},
		{"a name that is a bool", mapVal(boolVal(1), nullVal()), impl.ErrForm},
		{"a name that is a number", mapVal(numVal(1), nullVal()), impl.ErrForm},
		{"a name that is an empty list", mapVal(listVal(), nullVal()), impl.ErrForm},
		{"a name that is a list", mapVal(listVal(a), nullVal()), impl.ErrForm},
		{"a name that is a map", mapVal(mapVal(), nullVal()), impl.ErrForm},
		{"a second name that is a number", mapVal(a, nullVal(), numVal(1), nullVal()), impl.ErrForm},
		{"an inner name that is a number", listVal(mapVal(a, mapVal(numVal(1), nullVal()))), impl.ErrForm},
		{"an empty name", mapVal(textVal(""), nullVal()), impl.OK},
	} {
		expectValsFault(t, c.what, c.v, c.code)
	}
}

func TestValsFaultOfNames(t *testing.T) {
	a, b, c := textVal("a"), textVal("b"), textVal("c")
	for _, x := range []struct {
		what string
		v    []impl.Val
		code int64
	}{
		{"two equal names", mapVal(a, nullVal(), a, nullVal()), impl.ErrTaken},
		{"equal names of different values", mapVal(a, nullVal(), a, numVal(1)), impl.ErrTaken},
		{"the first and the last name", mapVal(a, nullVal(), b, nullVal(), a, nullVal()), impl.ErrTaken},
		{"the last two names", mapVal(a, nullVal(), b, nullVal(), b, nullVal()), impl.ErrTaken},
		{"two empty names", mapVal(textVal(""), nullVal(), textVal(""), nullVal()), impl.ErrTaken},
		{"names in an inner map", mapVal(a, mapVal(b, nullVal(), b, nullVal())), impl.ErrTaken},
		{"names in a map in a list", listVal(nullVal(), mapVal(b, nullVal(), b, nullVal())), impl.ErrTaken},
		{"names after a map", mapVal(a, mapVal(b, nullVal()), a, nullVal()), impl.ErrTaken},
		{"names in the second map", listVal(mapVal(a, nullVal()), mapVal(a, nullVal(), a, nullVal())), impl.ErrTaken},
		{"a name in two maps", listVal(mapVal(a, nullVal()), mapVal(a, nullVal())), impl.OK},
		{"a name in a map and an inner one", mapVal(a, mapVal(a, mapVal(a, nullVal()))), impl.OK},
		{"a name in two inner maps", mapVal(a, mapVal(c, nullVal()), b, mapVal(c, nullVal())), impl.OK},
		{"a name as a value", mapVal(a, a, b, a, c, listVal(a, a)), impl.OK},
		{"names of different letters", mapVal(a, nullVal(), textVal("A"), nullVal(), textVal("a "), nullVal()), impl.OK},
	} {
		expectValsFault(t, x.what, x.v, x.code)
	}
}

func TestValsFaultOfNesting(t *testing.T) {
	for depth := range 8 {
		code := int64(impl.OK)
		if depth > 4 {
			code = impl.ErrMany
		}
		for _, v := range [][]impl.Val{nullVal(), textVal("a"), listVal(), mapVal()} {
			expectValsFault(t, "lists", inLists(v, depth), code)
			expectValsFault(t, "maps", inMaps(v, depth), code)
			expectValsFault(t, "lists in maps", inMaps(inLists(v, depth/2), depth-depth/2), code)
			expectValsFault(t, "maps in lists", inLists(inMaps(v, depth/2), depth-depth/2), code)
			expectValsFault(t, "the second item", listVal(nullVal(), inLists(v, max(depth-1, 0))), code)
			expectValsFault(t, "the first item", listVal(inLists(v, max(depth-1, 0)), nullVal()), code)
			expectValsFault(t, "the second pair", mapVal(textVal("a"), nullVal(), textVal("b"), inMaps(v, max(depth-1, 0))), code)
			expectValsFault(t, "the first pair", mapVal(textVal("a"), inMaps(v, max(depth-1, 0)), textVal("b"), nullVal()), code)
		}
	}
	// an empty list is in 4 lists; what is in it would be in 5
	expectValsFault(t, "5 lists", inLists(listVal(), 4), impl.OK)
	expectValsFault(t, "a name in 5", inLists(mapVal(textVal("a"), listVal()), 4), impl.ErrMany)
}

// The codes come in the order of the contract, those of the Vals one by one.
func TestValsFaultOrderOfCodes(t *testing.T) {
	form, number, text := []impl.Val{{}}, numVal(-1), textVal("\"")
	repeated := mapVal(textVal("a"), nullVal(), textVal("a"), nullVal())
	single := [][]impl.Val{form, number, text}
	codes := []int64{impl.ErrForm, impl.ErrRange, impl.ErrText}
	for i, first := range single {
		for _, second := range single {
			expectValsFault(t, "the first of two", listVal(first, second), codes[i])
			expectValsFault(t, "a Val and too many values", slices.Concat(nullVal(), first, second), codes[i])
			expectValsFault(t, "a pair", mapVal(first, second), codes[i])
		}
		expectValsFault(t, "too many Vals", listVal(first, nulls(19)), impl.ErrMany)
		expectValsFault(t, "a fault before a name", listVal(first, repeated), codes[i])
		expectValsFault(t, "a fault after a name", listVal(repeated, first), codes[i])
		expectValsFault(t, "a nested fault", inLists(first, 6), codes[i])
		expectValsFault(t, "a name", mapVal(first, nullVal()), codes[i])
	}
	for _, c := range []struct {
		what string
		v    []impl.Val
		code int64
	}{
		{"a field before a range", []impl.Val{{Kind: impl.ValNum, Num: -1, Text: "a"}}, impl.ErrForm},
		{"a field before a text", []impl.Val{{Kind: impl.ValText, Num: 1, Text: "\\"}}, impl.ErrForm},
		{"a malformed text that is not used", []impl.Val{{Kind: impl.ValNull, Text: "\\"}}, impl.ErrForm},
		{"a kind before a range and a text", []impl.Val{{Kind: 7, Num: -1, Text: "\\"}}, impl.ErrForm},
		{"a range before no value", []impl.Val{{Kind: impl.ValList, Num: 21}}, impl.ErrRange},
		{"no value before a name", slices.Concat(repeated, nullVal()), impl.ErrForm},
		{"a list with too few before a name", append([]impl.Val{{Kind: impl.ValList, Num: 2}}, repeated...), impl.ErrForm},
		{"no value before nesting", slices.Concat(inLists(nullVal(), 5), nullVal()), impl.ErrForm},
		{"a list with too few before nesting", inLists(nullVal(), 6)[:6], impl.ErrForm},
		{"a name that is no text before nesting", mapVal(inLists(nullVal(), 5), nullVal()), impl.ErrForm},
		{"a name before nesting", listVal(inLists(nullVal(), 5), repeated), impl.ErrTaken},
		{"a nested name", inLists(repeated, 4), impl.ErrTaken},
	} {
		expectValsFault(t, c.what, c.v, c.code)
	}
}

func TestPrintVals(t *testing.T) {
	for _, c := range []struct {
		text string
		v    []impl.Val
	}{
		{"null", nullVal()},
		{"false", boolVal(0)},
		{"true", boolVal(1)},
		{"0", numVal(0)},
		{"7", numVal(7)},
		{"10", numVal(10)},
		{"2147483646", numVal(impl.MaxSum)},
		{`""`, textVal("")},
		{`" "`, textVal(" ")},
		{`"null"`, textVal("null")},
		{`"1"`, textVal("1")},
		{`"[1,2]{}:'/~"`, textVal("[1,2]{}:'/~")},
		{"[]", listVal()},
		{"{}", mapVal()},
		{"[0]", listVal(numVal(0))},
		{"[null,true,false]", listVal(nullVal(), boolVal(1), boolVal(0))},
		{"[[],{},[1]]", listVal(listVal(), mapVal(), listVal(numVal(1)))},
		{`{"":null}`, mapVal(textVal(""), nullVal())},
		{`{"b":1,"a":[2,3],"c":{"a":"b"}}`, mapVal(textVal("b"), numVal(1), textVal("a"), listVal(numVal(2), numVal(3)), textVal("c"), mapVal(textVal("a"), textVal("b")))},
		{"[[[[[]]]]]", inLists(listVal(), 4)},
		{"[[[[{}]]]]", inLists(mapVal(), 4)},
		{"[[[[1]]]]", inLists(numVal(1), 4)},
		{`{"a":{"a":{"a":{"a":1}}}}`, inMaps(numVal(1), 4)},
	} {
		expectPrinted(t, c.v, c.text)
	}
}

// longValue is a list of texts whose own text has so many bytes, more than 3.
func longValue(size int) []impl.Val {
	v := listVal()
	// a text takes two quotes and, unless it is the first one, a comma
	for left := size - 1; left > 0; v[0].Num++ {
		taken := min(left, 43)
		if left-taken > 0 && left-taken < 3 {
			taken -= 3
		}
		v = append(v, textVal(strings.Repeat("x", taken-3))...)
		left -= taken
	}
	return v
}

func TestPrintValsOfSizes(t *testing.T) {
	for size := 120; size <= 170; size++ {
		v := longValue(size)
		text := modelText(v)
		if len(text) != size {
			t.Fatalf("%q has %d bytes instead of %d", text, len(text), size)
		}
		expectValsFault(t, "a long value", v, impl.OK)
		got := impl.PrintVals(v)
		if len(text) <= 160 {
			expectPrinted(t, v, text)
		} else if got.Code != impl.ErrMany || got.Text != "" {
			t.Errorf("%d bytes: %v", len(text), got)
		}
		expectParsed(t, text)
	}
	names := mapVal(textVal(strings.Repeat("a", 40)), numVal(1), textVal(strings.Repeat("b", 40)), numVal(1), textVal(strings.Repeat("c", 40)), textVal(strings.Repeat("d", 23)))
	expectPrinted(t, names, modelText(names))
	if size := len(modelText(names)); size != 160 {
		t.Errorf("%d bytes", size)
	}
	names[6].Text += "d"
	expectVals(t, "161 bytes", names)
	if got := impl.PrintVals(names); got.Code != impl.ErrMany {
		t.Errorf("161 bytes: %v", got)
	}
}

func TestParseValsOfSizes(t *testing.T) {
	for _, text := range []string{"1", "null", `"a"`, "[1,2]", `{"a":[1]}`} {
		v := impl.ParseVals(text).Vals
		for _, at := range []int{0, len(text)} {
			for _, size := range []int{159, 160, 161, 162, 10000} {
				blanks := strings.Repeat(" ", size-len(text))
				long := text[:at] + blanks + text[at:]
				expectParsed(t, long)
				if size <= 160 {
					expectRead(t, long, v)
				} else if got := impl.ParseVals(long); got.Code != impl.ErrMany {
					t.Errorf("%d bytes: %v", size, got)
				}
			}
		}
	}
	for _, size := range []int{0, 1, 160} {
		expectUnread(t, strings.Repeat(" ", size))
		expectUnread(t, strings.Repeat("[", size))
		expectUnread(t, strings.Repeat("]", size))
		expectUnread(t, strings.Repeat("{", size))
		expectUnread(t, strings.Repeat("{", size/2)+strings.Repeat("}", size/2))
	}
	for _, size := range []int{161, 162, 100000} {
		for _, token := range []string{" ", "[", "\"", "1", "\x00"} {
			if got := impl.ParseVals(strings.Repeat(token, size)); got.Code != impl.ErrMany || len(got.Vals) > 0 {
				t.Errorf("%d times %q: %v", size, token, got)
			}
		}
	}
}

// tokensOf divides a text into its tokens.
func tokensOf(text string) []string {
	var tokens []string
	for len(text) > 0 {
		size := 1
		switch b := text[0]; {
		case b == '"':
			size = 2 + strings.IndexByte(text[1:], '"')
		case strings.IndexByte("[]{},:", b) < 0:
			size = len(text)
			if at := strings.IndexAny(text, "[]{},:"); at > 0 {
				size = at
			}
		}
		tokens, text = append(tokens, text[:size]), text[size:]
	}
	return tokens
}

func someTexts() []string {
	return []string{
		"null", "true", "false", "0", "10", "2147483646", `""`, `"a b"`, "[]", "{}", "[1,22]", `["a",true,null]`,
		`{"id":7,"x":[true,null,"a b"]}`, `{"a":{},"b":[[],[1]]}`, `[[[[12]]]]`, `{"method":"mining.submit","params":["a","b"],"id":4}`,
	}
}

func TestParseValsWithBlanks(t *testing.T) {
	for _, text := range someTexts() {
		v := modelParse(text).Vals
		expectPrinted(t, v, text)
		tokens := tokensOf(text)
		for i := range len(tokens) + 1 {
			for _, blanks := range []string{" ", "  "} {
				expectRead(t, strings.Join(tokens[:i], "")+blanks+strings.Join(tokens[i:], ""), v)
			}
		}
		expectRead(t, " "+strings.Join(tokens, " ")+" ", v)
		// a blank within a word or a number
		for i, token := range tokens {
			for at := 1; at < len(token); at++ {
				changed := strings.Join(tokens[:i], "") + token[:at] + " " + token[at:] + strings.Join(tokens[i+1:], "")
				expectParsed(t, changed)
				if token[0] != '"' {
					expectUnread(t, changed)
				} else if impl.SameVals(impl.ParseVals(changed).Vals, v) {
					t.Errorf("%q has the value of %q", changed, text)
				}
			}
		}
		// other bytes are no blanks
		for i := range len(tokens) + 1 {
			for _, b := range []string{"\t", "\n", "\r", "\v", "\x00", "\xa0", "\u00a0", "\u2003"} {
				expectUnread(t, strings.Join(tokens[:i], "")+b+strings.Join(tokens[i:], ""))
			}
		}
	}
	expectRead(t, `" a  b "`, textVal(" a  b "))
	expectRead(t, ` { " a " : " " } `, mapVal(textVal(" a "), textVal(" ")))
	expectRead(t, " [ ] ", listVal())
	expectRead(t, " { } ", mapVal())
}

func TestParseValsOfNumbers(t *testing.T) {
	for _, n := range []int64{0, 1, 9, 10, 100, impl.MaxSum - 1, impl.MaxSum} {
		expectRead(t, strconv.FormatInt(n, 10), numVal(n))
		expectRead(t, "["+strconv.FormatInt(n, 10)+"]", listVal(numVal(n)))
		expectUnread(t, "0"+strconv.FormatInt(n, 10))
		expectUnread(t, "[0"+strconv.FormatInt(n, 10)+"]")
		for _, sign := range []string{"-", "+", "- ", ".", "#", "0x", "_"} {
			expectUnread(t, sign+strconv.FormatInt(n, 10))
		}
		for _, end := range []string{".", ".0", "e1", "E0", "_0", "x", "null", `"a"`, "-", "[", "]", ",", ":", "1x", "٣"} {
			expectUnread(t, strconv.FormatInt(n, 10)+end)
		}
	}
	for _, digits := range []string{
		"2147483647", "2147483648", "4294967296", "4294967297", "9223372036854775807", "9223372036854775808",
		"18446744073709551615", "18446744073709551616", "18446744073709551617", "36893488147419103233", "00", "000", "0000000001",
		strings.Repeat("1", 20), strings.Repeat("9", 160), strings.Repeat("0", 160), "1" + strings.Repeat("0", 159),
	} {
		expectUnread(t, digits)
	}
	expectUnread(t, "["+strings.Repeat("1", 158)+"]")
	expectUnread(t, "-0")
	expectUnread(t, "1 2")
	expectUnread(t, "[1 2]")
	expectUnread(t, "1"+strings.Repeat(" ", 158)+"2")
}

func TestParseValsOfFaults(t *testing.T) {
	for _, text := range []string{
		"", ",", ":", "[", "]", "{", "}", "\"", "[,]", "[1,]", "[,1]", "[1,,2]", "[1 2]", "[1:2]", "1,2", "1,", ",1", "[1]]", "[[1]", "[1][2]", "[1],[2]", "[}", "{]",
		"[1}", `{"a":1]`, `{"a"}`, `{"a":}`, `{"a":1,}`, `{,"a":1}`, `{"a":1,,"b":2}`, `{"a":1 "b":2}`, `{"a",1}`, `{"a" 1}`, `{"a"::1}`, `{:1}`, `{"a":1:2}`,
		`{1:2}`, `{null:1}`, `{[]:1}`, `{a:1}`, `["a":1]`, `{"a":1,"b"}`, `{"a":1,2}`, `{"a":1}}`, `{{}}`,
		"nul", "nulll", "Null", "NULL", "tru", "truefalse", "True", "fals", "false0", "nullnull", "[nulltrue]", "none", "undefined", "NaN", "n", "t", "f",
		`"a`, `a"`, `"a""b"`, `"a" "b"`, `""a`, `'a'`, `"a\"b"`, `"\\"`, `"\n"`, `"\u0041"`, "\"\n\"", "\"\x1f\"", "\"\x7f\"", "\"é\"", "\"\xff\"", "\"\x00\"", "\x00", "1\x00", "\xff",
		`"` + strings.Repeat("a", 41) + `"`, `{"` + strings.Repeat("a", 41) + `":1}`, "1//", "/**/1", "\ufeff1",
		`{"a":1,"a":1}`, `{"a":1,"a":2}`, `[{"":1,"":2}]`, "[[[[[1]]]]]", `[[[[{"a":1}]]]]`, `{"a":{"a":{"a":{"a":{"a":1}}}}}`, `[[[[[[]]]]]]`,
		"[" + strings.Repeat("1,", 19) + "1]",
	} {
		expectUnread(t, text)
		expectUnread(t, " "+text+" ")
	}
	expectRead(t, "["+strings.Repeat("1,", 18)+"1]", listVal(slices.Repeat([][]impl.Val{numVal(1)}, 19)...))
	expectRead(t, `"`+strings.Repeat("a", 40)+`"`, textVal(strings.Repeat("a", 40)))
}

// Each text is cut at every byte and changed at every byte.
func TestParseValsOfChangedTexts(t *testing.T) {
	tokens := append(strings.Split("[ ] { } , : \" 0 1 a \\ \n null true [] {} [1] ,1 \"b\" :1", " "), " ")
	for _, text := range someTexts() {
		for at := range len(text) + 1 {
			expectParsed(t, text[:at])
			expectParsed(t, text[at:])
			for _, token := range tokens {
				expectParsed(t, text[:at]+token+text[at:])
				expectParsed(t, text[:at]+token+text[min(at+1, len(text)):])
			}
			expectParsed(t, text[:at]+text[min(at+1, len(text)):])
		}
	}
}

func TestParseValsOfShortTexts(t *testing.T) {
	texts := []string{""}
	for range 5 {
		var longer []string
		for _, text := range texts {
			for _, b := range "[]{},:\" 01" {
				longer = append(longer, text+string(b))
			}
		}
		for _, text := range longer {
			expectParsed(t, text)
		}
		texts = longer
	}
}

func TestParseValsOfTokens(t *testing.T) {
	tokens := []string{"[", "]", "{", "}", ",", ":", `"a"`, `"b"`, "null", "1"}
	source := rand.New(rand.NewPCG(8, 1))
	for range 200000 {
		text := ""
		for range 1 + source.IntN(9) {
			text += tokens[source.IntN(len(tokens))]
		}
		expectParsed(t, text)
	}
}

func TestShortVals(t *testing.T) {
	heads := slices.Concat(nullVal(), boolVal(1), textVal("a"), textVal("b"))
	for n := range int64(3) {
		heads = append(heads, impl.Val{Kind: impl.ValList, Num: n}, impl.Val{Kind: impl.ValMap, Num: n})
	}
	lists := [][]impl.Val{nil}
	for range 5 {
		var longer [][]impl.Val
		for _, list := range lists {
			for _, head := range heads {
				longer = append(longer, append(slices.Clone(list), head))
			}
		}
		for _, v := range longer {
			if modelValsFault(v) != impl.ErrForm {
				expectVals(t, "a short list", v)
			} else if impl.ValsFault(v) != impl.ErrForm {
				t.Errorf("ValsFault of %v is %d", v, impl.ValsFault(v))
			}
		}
		lists = longer
	}
}

func TestSameVals(t *testing.T) {
	v := mapVal(textVal("a"), listVal(numVal(1), boolVal(1)), textVal("b"), nullVal())
	expectSame := func(a []impl.Val, b []impl.Val, want bool) {
		t.Helper()
		if impl.SameVals(a, b) != want || impl.SameVals(b, a) != want {
			t.Errorf("SameVals of %v and %v is not %t", a, b, want)
		}
	}
	expectSame(v, slices.Clone(v), true)
	expectSame(nil, nil, true)
	expectSame(nil, []impl.Val{}, true)
	expectSame(nil, v, false)
	expectSame(nil, []impl.Val{{}}, false)
	for i := range v {
		expectSame(v, v[:i], false)
		for _, change := range []func(*impl.Val){
			func(x *impl.Val) { x.Kind++ },
			func(x *impl.Val) { x.Kind = math.MinInt64 },
			func(x *impl.Val) { x.Num++ },
			func(x *impl.Val) { x.Num += 1 << 32 },
			func(x *impl.Val) { x.Text += " " },
			func(x *impl.Val) { x.Text += "\x00" },
		} {
			w := slices.Clone(v)
			change(&w[i])
			expectSame(v, w, false)
			expectSame(w, slices.Clone(w), true)
		}
	}
	expectSame(append(slices.Clone(v), impl.Val{}), v, false)
	// values that print alike are not the same
	expectSame(boolVal(0), numVal(0), false)
	expectSame(listVal(), mapVal(), false)
	long := slices.Repeat([]impl.Val{{Kind: -1, Num: -1, Text: "\""}}, 1000)
	expectSame(long, slices.Clone(long), true)
	expectSame(long, long[:999], false)
}

func TestMapEntry(t *testing.T) {
	a, b, c := textVal("a"), textVal("b"), textVal("c")
	v := mapVal(a, numVal(1), b, listVal(numVal(2), mapVal(textVal("d"), numVal(3))), textVal(""), mapVal(textVal("e"), a, a, nullVal()), c, textVal("f"))
	for _, x := range []struct {
		name string
		want []impl.Val
	}{
		{"a", numVal(1)},
		{"b", listVal(numVal(2), mapVal(textVal("d"), numVal(3)))},
		{"", mapVal(textVal("e"), a, a, nullVal())},
		{"c", textVal("f")},
	} {
		if got := impl.MapEntry(v, x.name); !equalVals(got, impl.ValsResult{Vals: x.want}) {
			t.Errorf("MapEntry of %q: %v instead of %v", x.name, got, x.want)
		}
	}
	// names of inner maps, values that look like names, and texts that are no names
	for _, name := range []string{"d", "e", "f", "A", "a ", " a", "aa", "null", "1", "\"a\"", "\"", "\x00", "\xff", strings.Repeat("a", 41), strings.Repeat("a", 10000)} {
		if got := impl.MapEntry(v, name); got.Code != impl.ErrNone || len(got.Vals) > 0 {
			t.Errorf("MapEntry of %q: %v", name, got)
		}
	}
	for _, v := range [][]impl.Val{mapVal(), inMaps(nullVal(), 4), mapVal(b, mapVal(a, nullVal()), c, listVal(a))} {
		expectVals(t, "a map", v)
	}
	for _, v := range [][]impl.Val{nullVal(), boolVal(1), numVal(1), textVal("a"), listVal(), listVal(a), listVal(mapVal(a, nullVal()))} {
		if got := impl.MapEntry(v, "a"); got.Code != impl.ErrForm || len(got.Vals) > 0 {
			t.Errorf("MapEntry of %v: %v", v, got)
		}
	}
	for _, v := range [][]impl.Val{nil, {{}}, mapVal(a, nullVal(), a, nullVal()), mapVal(a, inMaps(nullVal(), 4)), mapVal(a, nullVal())[:2], mapVal(a, numVal(-1))} {
		code := modelValsFault(v)
		if got := impl.MapEntry(v, "a"); got.Code != code || code == impl.OK || len(got.Vals) > 0 {
			t.Errorf("MapEntry of %v: %v", v, got)
		}
	}
}

// A line that PrintVals would not print has entries still.
func TestMapEntryOfLongMaps(t *testing.T) {
	long := strings.Repeat("x", 40)
	v := mapVal(textVal("a"), textVal(long), textVal("b"), textVal(long), textVal("c"), listVal(textVal(long), textVal(long)))
	if got := impl.PrintVals(v); got.Code != impl.ErrMany {
		t.Errorf("PrintVals: %v", got)
	}
	expectVals(t, "a long map", v)
	if got := impl.MapEntry(v, "c"); !equalVals(got, impl.ValsResult{Vals: listVal(textVal(long), textVal(long))}) {
		t.Errorf("MapEntry: %v", got)
	}
}

func TestCutLines(t *testing.T) {
	expectLines(t, "", "", "")
	expectLines(t, "", "a", "a")
	expectLines(t, "a", "", "a")
	expectLines(t, "", "\n", "", "")
	expectLines(t, "", "\n\n\n", "", "", "", "")
	expectLines(t, "", "\na", "a", "")
	expectLines(t, "", "a\n", "", "a")
	expectLines(t, "a", "\n", "", "a")
	expectLines(t, "a\n", "", "", "a")
	expectLines(t, "a\nb", "c\nd", "d", "a", "bc")
	expectLines(t, "\n\n", "\n", "", "", "", "")
	expectLines(t, "", "a b\n c \n\t\n", "", "a b", " c ", "\t")
	// every byte but a line feed belongs to a line
	expectLines(t, "", "a\r\nb\x00\n\xff\xfe\né\n\u2028\v\f", "\u2028\v\f", "a\r", "b\x00", "\xff\xfe", "é")
}

func TestCutLinesOfSizes(t *testing.T) {
	for _, c := range []struct {
		rest int
		data int
		code int64
	}{
		{0, 0, impl.OK}, {0, 1, impl.OK}, {0, 1000, impl.OK}, {0, 1001, impl.ErrMany}, {160, 1000, impl.OK}, {161, 0, impl.OK},
		{161, 1000, impl.OK}, {161, 1001, impl.ErrMany}, {162, 0, impl.ErrMany}, {162, 1000, impl.ErrMany}, {162, 1001, impl.ErrMany}, {100000, 100000, impl.ErrMany},
	} {
		for _, text := range []string{"a", "\n"} {
			rest, data := strings.Repeat(text, c.rest), strings.Repeat(text, c.data)
			expectCut(t, rest, data)
			if got := impl.CutLines(rest, []byte(data)); got.Code != c.code || c.code != impl.OK && (len(got.Lines) > 0 || got.Rest != "") {
				t.Errorf("CutLines of %d and %d bytes: %v", c.rest, c.data, got)
			}
		}
	}
}

func TestCutLinesOfLongLines(t *testing.T) {
	for _, size := range []int{0, 1, 159, 160, 161, 162, 163, 400} {
		whole := strings.Repeat("a", size)
		kept := whole
		if size > 160 {
			kept = ""
		}
		left := whole[:min(size, 161)]
		expectLines(t, "", whole+"\n", "", kept)
		expectLines(t, "", "b\n"+whole+"\nc\n", "", "b", kept, "c")
		expectLines(t, "", whole+"\n"+whole+"\n", "", kept, kept)
		expectLines(t, "", whole, left)
		expectLines(t, "", "b\n"+whole, left, "b")
		for _, received := range []int{0, 1, 80, 160, 161} {
			if received > size {
				continue
			}
			expectLines(t, whole[:received], whole[received:]+"\n", "", kept)
			expectLines(t, whole[:received], whole[received:], left)
			expectLines(t, whole[:received], whole[received:]+"\nb\nc", "c", kept, "b")
		}
	}
	// the first bytes are left, not the last ones
	expectLines(t, "", strings.Repeat("a", 160)+"bc", strings.Repeat("a", 160)+"b")
	expectLines(t, strings.Repeat("a", 161), "b", strings.Repeat("a", 161))
}

func randomValue(source *rand.Rand, depth int) []impl.Val {
	kind := 1 + source.IntN(6)
	if depth == 0 {
		kind = 1 + source.IntN(4)
	}
	switch kind {
	case impl.ValNull:
		return nullVal()
	case impl.ValBool:
		return boolVal(source.Int64N(2))
	case impl.ValNum:
		edges := []int64{0, 1, 10, impl.MaxSum, source.Int64N(impl.MaxSum)}
		return numVal(edges[source.IntN(len(edges))])
	case impl.ValText:
		return textVal(randomText(source))
	}
	var items [][]impl.Val
	for i := range source.IntN(4) {
		if kind == impl.ValMap {
			items = append(items, textVal(strconv.Itoa(i)+randomText(source)))
		}
		items = append(items, randomValue(source, depth-1))
	}
	if kind == impl.ValMap {
		return mapVal(items...)
	}
	return listVal(items...)
}

func randomText(source *rand.Rand) string {
	text := make([]byte, source.IntN(8))
	for i := range text {
		for text[i] == 0 || text[i] == '"' || text[i] == '\\' {
			text[i] = byte(32 + source.IntN(95))
		}
	}
	return string(text)
}

// randomValues lists values without faults, those with a text that is too long too.
func randomValues(count int) [][]impl.Val {
	source := rand.New(rand.NewPCG(8, 2))
	var all [][]impl.Val
	for len(all) < count {
		if v := randomValue(source, 4); modelValsFault(v) == impl.OK {
			all = append(all, v)
		}
	}
	return all
}

// Promise 9: a value is parsed back from its text, with blanks between the tokens too.
func TestPromise9Values(t *testing.T) {
	source := rand.New(rand.NewPCG(8, 3))
	for _, v := range randomValues(5000) {
		expectVals(t, "a random value", v)
		printed := impl.PrintVals(v)
		if printed.Code != impl.OK {
			continue
		}
		if back := impl.ParseVals(printed.Text); back.Code != impl.OK || !impl.SameVals(back.Vals, v) {
			t.Errorf("%v is parsed back from %q as %v", v, printed.Text, back)
		}
		text := ""
		for _, token := range tokensOf(printed.Text) {
			text += strings.Repeat(" ", source.IntN(3)) + token
		}
		if len(text) <= 160 {
			expectRead(t, text, v)
		}
	}
}

func TestChangedValues(t *testing.T) {
	source := rand.New(rand.NewPCG(8, 4))
	heads := slices.Concat(nullVal(), boolVal(2), numVal(-1), textVal("0"), textVal("\\"), listVal(), mapVal(), []impl.Val{{}, {Kind: impl.ValList, Num: 1}, {Kind: impl.ValMap, Num: 1}})
	for _, v := range randomValues(5000) {
		at := source.IntN(len(v))
		head := heads[source.IntN(len(heads))]
		expectVals(t, "a Val less", slices.Delete(slices.Clone(v), at, at+1))
		expectVals(t, "a Val more", slices.Insert(slices.Clone(v), at, head))
		expectVals(t, "a Val twice", slices.Insert(slices.Clone(v), at, v[at]))
		w := slices.Clone(v)
		w[at] = head
		expectVals(t, "another Val", w)
		w[at] = v[at]
		w[at].Num++
		expectVals(t, "another Num", w)
	}
}

func randomBytes(source *rand.Rand, size int) string {
	data := make([]byte, size)
	feeds := 1 + source.IntN(300)
	for i := range data {
		data[i] = byte(source.IntN(256))
		if source.IntN(feeds) == 0 {
			data[i] = '\n'
		}
	}
	return string(data)
}

// received divides a text into lines as it is received, up to the cuts.
func received(t *testing.T, text string, cuts []int) impl.LinesResult {
	t.Helper()
	var all impl.LinesResult
	from := 0
	for _, to := range append(slices.Clone(cuts), len(text)) {
		next := impl.CutLines(all.Rest, []byte(text[from:to]))
		if next.Code != impl.OK {
			t.Fatalf("CutLines: code %d", next.Code)
		}
		all.Lines, all.Rest = append(all.Lines, next.Lines...), next.Rest
		from = to
	}
	return all
}

// Promise 9: bytes received in pieces are divided into the same lines as bytes received at once.
func TestPromise9Pieces(t *testing.T) {
	source := rand.New(rand.NewPCG(8, 5))
	for range 3000 {
		text := randomBytes(source, source.IntN(1001))
		whole := impl.CutLines("", []byte(text))
		cuts := make([]int, source.IntN(6))
		for i := range cuts {
			cuts[i] = source.IntN(len(text) + 1)
		}
		slices.Sort(cuts)
		if got := received(t, text, cuts); !equalLines(got, whole) {
			t.Errorf("%q in pieces up to %v: %v instead of %v", text, cuts, got, whole)
		}
		expectCut(t, "", text)
		expectCut(t, text[:min(source.IntN(162), len(text))], text)
	}
}

// Promise 9: every single cut, and one byte after the other, around the longest lines.
func TestPromise9Cuts(t *testing.T) {
	long := strings.Repeat("a", 159)
	for _, text := range []string{
		"", "\n", "a\n\nb", long + "\n" + long, long + "b\nc\n" + long + "b", long + "bc\nd\n" + long + "bc",
		long + long + long + long + "\n\n" + long + long, "\n" + long + "bcd\n" + long + "bc\nd",
	} {
		whole := impl.CutLines("", []byte(text))
		for i := range len(text) + 1 {
			if got := received(t, text, []int{i}); !equalLines(got, whole) {
				t.Errorf("%q up to %d: %v instead of %v", text, i, got, whole)
			}
		}
		single := make([]int, len(text))
		for i := range single {
			single[i] = i
		}
		if got := received(t, text, single); !equalLines(got, whole) {
			t.Errorf("%q in bytes: %v instead of %v", text, got, whole)
		}
	}
}

// Promise 1: all arguments have a result, the same one each time, and are not changed.
func TestPromise1AllOfChapter8(t *testing.T) {
	source := rand.New(rand.NewPCG(8, 6))
	wild := extremes()
	texts := []string{"", "a", "\"", "\\", "\x00", "\xff", "\n", "é", strings.Repeat("a", 40), strings.Repeat("a", 41), strings.Repeat(" ", 5000)}
	for range 20000 {
		v := make([]impl.Val, source.IntN(24))
		for i := range v {
			v[i] = impl.Val{Kind: wild[source.IntN(len(wild))], Num: wild[source.IntN(len(wild))], Text: texts[source.IntN(len(texts))]}
			if source.IntN(4) > 0 {
				v[i] = impl.Val{Kind: 1 + source.Int64N(6), Num: source.Int64N(3)}
			}
		}
		before := slices.Clone(v)
		expectVals(t, "any Vals", v)
		if !slices.Equal(v, before) {
			t.Fatalf("%v was changed to %v", before, v)
		}
		text := randomBytes(source, source.IntN(170))
		expectParsed(t, text)
		for _, name := range texts {
			if got := impl.MapEntry(v, name); !equalVals(got, modelEntry(v, name)) || !equalVals(got, impl.MapEntry(v, name)) {
				t.Errorf("MapEntry of %v and %q: %v", v, name, got)
			}
		}
	}
	for range 2000 {
		rest, data := randomBytes(source, source.IntN(170)), []byte(randomBytes(source, source.IntN(1010)))
		before := slices.Clone(data)
		if got := impl.CutLines(rest, data); !equalLines(got, modelCut(rest, string(data))) || !equalLines(got, impl.CutLines(rest, data)) {
			t.Errorf("CutLines of %q and %q: %v", rest, data, got)
		}
		if !slices.Equal(data, before) {
			t.Fatalf("%q was changed to %q", before, data)
		}
	}
}

// Promise 1: nothing is written behind the end of an argument, and nothing is read there.
func TestPromise1EndsOfChapter8(t *testing.T) {
	whole := slices.Concat(mapVal(textVal("a"), listVal(numVal(1)), textVal("b"), nulls(4)), slices.Repeat(numVal(-1), 10))
	for size := range len(whole) {
		before := slices.Clone(whole)
		expectVals(t, "a part", whole[:size])
		if !slices.Equal(whole, before) {
			t.Fatalf("%v was changed to %v", before, whole)
		}
	}
	data := []byte("ab\ncd\nef")
	for size := range data {
		if got := impl.CutLines("x", data[:size]); !equalLines(got, modelCut("x", string(data[:size]))) || string(data) != "ab\ncd\nef" {
			t.Errorf("CutLines of a part: %v, and %q", got, data)
		}
	}
}

// Promise 1: results are new memory.
func TestPromise1NewMemoryOfChapter8(t *testing.T) {
	inner := listVal(numVal(1), mapVal(textVal("c"), numVal(2)))
	v := mapVal(textVal("a"), inner, textVal("b"), inner)
	before := slices.Clone(v)
	for _, name := range []string{"a", "b"} {
		got, again := impl.MapEntry(v, name), impl.MapEntry(v, name)
		expectApart(t, "MapEntry", got, again, v)
		clear(got.Vals)
		_ = append(got.Vals, impl.Val{Kind: -1})
		if !slices.Equal(again.Vals, inner) || !slices.Equal(v, before) {
			t.Errorf("MapEntry: %v and %v", again, v)
		}
	}
	text := modelText(v)
	got, again := impl.ParseVals(text), impl.ParseVals(text)
	expectApart(t, "ParseVals", got, again, v)
	clear(got.Vals)
	if !slices.Equal(again.Vals, v) {
		t.Errorf("ParseVals: %v", again)
	}
	data := []byte("b\ncd\ne")
	lines, others := impl.CutLines("a", data), impl.CutLines("a", data)
	expectApart(t, "CutLines", lines, others)
	clear(lines.Lines)
	clear(data)
	if !reflect.DeepEqual(others, impl.LinesResult{Lines: []string{"ab", "cd"}, Rest: "e"}) {
		t.Errorf("CutLines: %v", others)
	}
}
