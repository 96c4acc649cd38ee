package tests

import (
	"math"
	"regexp"
	"slices"
	"strconv"
	"strings"
	"testing"

	"loop.example/g01402/impl"
)

const (
	tagged    = "etag"
	changed   = "last-modified"
	noneMatch = "if-none-match"
	since     = "if-modified-since"
)

func TestHasValidatorTable(t *testing.T) {
	for _, c := range []struct {
		what string
		l    []impl.Field
		want bool
	}{
		{"nil", nil, false},
		{"the empty list", []impl.Field{}, false},
		{"neither", fieldsOf("date", someDate, "a", "b"), false},
		{"etag alone", fieldsOf(tagged, `"v1"`), true},
		{"last-modified alone", fieldsOf(changed, someDate), true},
		{"both", fieldsOf(tagged, `"v1"`, changed, someDate), true},
		{"both, turned round", fieldsOf(changed, someDate, tagged, `"v1"`), true},
		{"etag behind others", fieldsOf("a", "b", "date", someDate, tagged, `"v1"`), true},
		{"last-modified among others", fieldsOf("a", "b", changed, someDate, "c", "d"), true},
		{"a weak etag", fieldsOf(tagged, `W/"v1"`), true},
		{"an empty etag", fieldsOf(tagged, ""), true},
		{"an etag of a comma", fieldsOf(tagged, ","), true},
		{"an etag that is none", fieldsOf(tagged, "v 1"), true},
		{"two fields of etag", fieldsOf(tagged, "", tagged, ""), true},
		{"an empty last-modified", fieldsOf(changed, ""), true},
		{"a last-modified that is no date", fieldsOf(changed, "yesterday"), true},
		{"two fields of last-modified", fieldsOf(changed, someDate, "a", "b", changed, someDate), true},
		{"values alone", fieldsOf("a", tagged, "b", changed), false},
		{"what a request asks with", fieldsOf(noneMatch, `"v1"`, since, someDate), false},
		{"names in capitals", fieldsOf("ETag", `"v1"`, "ETAG", `"v1"`, "Last-Modified", someDate), false},
		{"names that are near to it", fieldsOf("eta", "x", "etags", "x", " etag", "x", "etag ", "x", "", "x", "last-modifie", "x", "last-modifieds", "x", "last", "x", "modified", "x", "last modified", "x"), false},
		{"etag behind more fields than are right", append(numbered(40), fieldsOf(tagged, "x")...), true},
		{"fields that are not right", fieldsOf("\xff", "x", "A", " ", changed, "\r\n"), true},
	} {
		for _, status := range []int{200, 204, 304, 404, 500, 0, -1, math.MinInt, math.MaxInt} {
			if got := impl.HasValidator(impl.Response{Status: status, Fields: c.l, Body: "etag: x"}); got != c.want {
				t.Errorf("HasValidator of %d with %s is %v", status, c.what, got)
			}
		}
	}
}

func TestHasValidatorEveryByte(t *testing.T) {
	for _, name := range []string{tagged, changed} {
		for _, other := range append(changesOf(name), strings.ToUpper(name)) {
			if got := impl.HasValidator(statusOf(200, "a", "b", other, "x")); got != (other == name) {
				t.Fatalf("HasValidator of the name %q is %v", other, got)
			}
		}
	}
}

func TestConditionalTable(t *testing.T) {
	day, other := impl.ShowDate(5), impl.ShowDate(7)
	for _, c := range []struct {
		what            string
		ask, tell, want []impl.Field
	}{
		{"nothing at all", nil, nil, nil},
		{"neither", fieldsOf("a", "1"), fieldsOf("date", day), fieldsOf("a", "1")},
		{"etag alone", fieldsOf("a", "1"), fieldsOf("b", "2", tagged, `"v1"`, "c", "3"), fieldsOf("a", "1", noneMatch, `"v1"`)},
		{"last-modified alone", fieldsOf("a", "1"), fieldsOf("b", "2", changed, day, "c", "3"), fieldsOf("a", "1", since, day)},
		{"both", fieldsOf("a", "1"), fieldsOf(tagged, `"v1"`, "b", "2", changed, day), fieldsOf("a", "1", noneMatch, `"v1"`, since, day)},
		{"both, turned round", fieldsOf("a", "1"), fieldsOf(changed, day, "b", "2", tagged, `"v1"`), fieldsOf("a", "1", noneMatch, `"v1"`, since, day)},
		{"both, of a request without fields", nil, fieldsOf(tagged, `"v1"`, changed, day), fieldsOf(noneMatch, `"v1"`, since, day)},

		{"a weak tag", nil, fieldsOf(tagged, `W/"v1"`), fieldsOf(noneMatch, `W/"v1"`)},
		{"a tag that is none", nil, fieldsOf(tagged, "v 1, *"), fieldsOf(noneMatch, "v 1, *")},
		{"an empty tag", fieldsOf("a", "1"), fieldsOf(tagged, ""), fieldsOf("a", "1", noneMatch, "")},
		{"two tags", nil, fieldsOf(tagged, `"v1"`, "b", "2", tagged, `"v2"`), fieldsOf(noneMatch, `"v1", "v2"`)},
		{"two empty tags", nil, fieldsOf(tagged, "", tagged, ""), fieldsOf(noneMatch, ", ")},
		{"two tags and two dates", nil, fieldsOf(changed, day, tagged, `"v1"`, changed, other, tagged, `"v1"`), fieldsOf(noneMatch, `"v1", "v1"`, since, day+", "+other)},
		{"no date", nil, fieldsOf(changed, "yesterday"), fieldsOf(since, "yesterday")},
		{"an empty date", nil, fieldsOf(changed, ""), fieldsOf(since, "")},
		{"both empty", nil, fieldsOf(tagged, "", changed, ""), fieldsOf(noneMatch, "", since, "")},

		{"if-none-match at the begin", fieldsOf(noneMatch, "*", "a", "1"), fieldsOf(tagged, `"v1"`), fieldsOf("a", "1", noneMatch, `"v1"`)},
		{"if-none-match in the middle", fieldsOf("a", "1", noneMatch, "*", "b", "2"), fieldsOf(tagged, `"v1"`), fieldsOf("a", "1", "b", "2", noneMatch, `"v1"`)},
		{"if-none-match at the end", fieldsOf("a", "1", "b", "2", noneMatch, "*"), fieldsOf(tagged, `"v1"`), fieldsOf("a", "1", "b", "2", noneMatch, `"v1"`)},
		{"if-none-match alone", fieldsOf(noneMatch, "*"), fieldsOf(tagged, `"v1"`), fieldsOf(noneMatch, `"v1"`)},
		{"if-none-match twice", fieldsOf(noneMatch, "*", "a", "1", noneMatch, `"v1"`, "b", "2"), fieldsOf(tagged, `"v2"`), fieldsOf("a", "1", "b", "2", noneMatch, `"v2"`)},
		{"if-none-match twice in a row", fieldsOf("a", "1", noneMatch, "*", noneMatch, "*"), fieldsOf(tagged, `"v2"`), fieldsOf("a", "1", noneMatch, `"v2"`)},
		{"if-modified-since at the begin", fieldsOf(since, other, "a", "1"), fieldsOf(changed, day), fieldsOf("a", "1", since, day)},
		{"if-modified-since in the middle", fieldsOf("a", "1", since, other, "b", "2"), fieldsOf(changed, day), fieldsOf("a", "1", "b", "2", since, day)},
		{"if-modified-since at the end", fieldsOf("a", "1", since, other), fieldsOf(changed, day), fieldsOf("a", "1", since, day)},
		{"if-modified-since twice", fieldsOf(since, other, "a", "1", since, day, "b", "2"), fieldsOf(changed, day), fieldsOf("a", "1", "b", "2", since, day)},
		{"both in the request and in the answer", fieldsOf(since, other, "a", "1", noneMatch, "*", "b", "2"), fieldsOf(changed, day, tagged, `"v1"`), fieldsOf("a", "1", "b", "2", noneMatch, `"v1"`, since, day)},
		{"if-none-match, and no tag", fieldsOf(noneMatch, "*", "a", "1"), fieldsOf(changed, day), fieldsOf("a", "1", since, day)},
		{"if-modified-since, and no date", fieldsOf(since, other, "a", "1"), fieldsOf(tagged, `"v1"`), fieldsOf("a", "1", noneMatch, `"v1"`)},
		{"both in the request, and neither in the answer", fieldsOf(since, other, "a", "1", noneMatch, "*", since, day), fieldsOf("b", "2"), fieldsOf("a", "1")},
		{"the two alone, and neither in the answer", fieldsOf(noneMatch, "*", since, day), nil, nil},
		{"both already just so", fieldsOf(noneMatch, `"v1"`, since, day, "a", "1"), fieldsOf(tagged, `"v1"`, changed, day), fieldsOf("a", "1", noneMatch, `"v1"`, since, day)},

		{"others twice", fieldsOf("a", "1", "b", "2", "a", "3"), fieldsOf(tagged, "x"), fieldsOf("a", "1", "b", "2", "a", "3", noneMatch, "x")},
		{"names of the answer in the request", fieldsOf(tagged, "own", changed, "own", "date", "own"), fieldsOf(tagged, "x", changed, day), fieldsOf(tagged, "own", changed, "own", "date", "own", noneMatch, "x", since, day)},
		{"names of the request in the answer", fieldsOf(noneMatch, "a", since, "b"), fieldsOf(noneMatch, "x", since, "y"), nil},
		{"framing and caching", fieldsOf(counted, "3", coded, "chunked", caching, "no-cache"), fieldsOf(counted, "9", caching, "max-age=1", tagged, "x"), fieldsOf(counted, "3", coded, "chunked", caching, "no-cache", noneMatch, "x")},
		{"others that ask on a condition", fieldsOf("if-match", "*", noneMatch, "*", "if-unmodified-since", day, "if-range", "x", "range", "y"), fieldsOf(changed, day), fieldsOf("if-match", "*", "if-unmodified-since", day, "if-range", "x", "range", "y", since, day)},
		{"names in capitals in the request", fieldsOf("If-None-Match", "*", "IF-MODIFIED-SINCE", other), fieldsOf(tagged, "x", changed, day), fieldsOf("If-None-Match", "*", "IF-MODIFIED-SINCE", other, noneMatch, "x", since, day)},
		{"names in capitals in the answer", fieldsOf("a", "1"), fieldsOf("ETag", "x", "Last-Modified", day), fieldsOf("a", "1")},
		{"as many fields as are right", numbered(12), fieldsOf(tagged, "x", changed, day), append(numbered(12), fieldsOf(noneMatch, "x", since, day)...)},
		{"more fields than are right", numbered(40), append(numbered(40), fieldsOf(tagged, "x")...), append(numbered(40), fieldsOf(noneMatch, "x")...)},
		{"fields that are not right", fieldsOf("", "", "\xff", "\r\n", "A", " "), fieldsOf(tagged, " \xff\r\n"), fieldsOf("", "", "\xff", "\r\n", "A", " ", noneMatch, " \xff\r\n")},
	} {
		for i, method := range []string{"GET", "PUT", "get", "", "\xff\r\n"} {
			q := impl.Request{Method: method, Uri: []string{"/", "/a?b", "", "\xff", "uri"}[i], Fields: c.ask, Body: []string{"", "body", "if-none-match: *", strings.Repeat("b", 99), "\xff"}[i]}
			r := impl.Response{Status: []int{200, 304, 404, 0, math.MinInt}[i], Fields: c.tell, Body: "etag: b"}
			want := q
			want.Fields = c.want
			if got := impl.Conditional(q, r); !sameRequest(got, want) {
				t.Errorf("Conditional with %s is %q, not %q", c.what, got, want)
			}
		}
	}
}

// conditionalBy puts what is asked with behind the fields of other names.
func conditionalBy(q impl.Request, r impl.Response) impl.Request {
	q.Fields = othersOf(othersOf(q.Fields, since), noneMatch)
	for _, pair := range [][2]string{{tagged, noneMatch}, {changed, since}} {
		if value, is := valuesBy(r.Fields, pair[0]); is {
			q.Fields = append(q.Fields, impl.Field{Name: pair[1], Value: value})
		}
	}
	return q
}

func someAsks() []impl.Request {
	day := impl.ShowDate(9)
	var out []impl.Request
	for i, r := range answersOf([]string{"a", noneMatch, since, "b"}, [][]string{nil, {"1"}, {"1", "2"}}, [][]string{nil, {""}, {"*"}, {`"v1"`}, {`"v1", W/"v2"`}, {`"v1"`, "*"}}, [][]string{nil, {""}, {day}, {"no date"}, {day, day}}, [][]string{nil, {"1"}}) {
		out = append(out, impl.Request{Method: []string{"GET", "HEAD", "", "get"}[i%4], Uri: []string{"/", "/a", "\xff"}[i%3], Fields: r.Fields, Body: bodyOfBytes(i % 70)})
	}
	return out
}

func someTold() []impl.Response {
	out := answersOf([]string{"c", tagged, changed}, [][]string{nil, {"1"}}, [][]string{nil, {""}, {`"v1"`}, {`W/"v1"`}, {"*"}, {`"v1"`, `"v2"`}}, [][]string{nil, {""}, {impl.ShowDate(9)}, {"no date"}, {impl.ShowDate(8), impl.ShowDate(9)}})
	for _, l := range wrongHeads() {
		out = append(out, impl.Response{Status: 304, Fields: l}, impl.Response{Fields: append(slices.Clone(l), fieldsOf(tagged, "\xff", changed, "\xfe")...)})
	}
	return out
}

func TestConditionalAsReadAgain(t *testing.T) {
	asks := someAsks()
	for _, l := range wrongHeads() {
		asks = append(asks, impl.Request{Fields: append(slices.Clone(l), fieldsOf(noneMatch, "x", since, "y", noneMatch, "z")...)})
	}
	for _, q := range asks {
		for _, r := range someTold() {
			want := conditionalBy(q, r)
			got := impl.Conditional(q, r)
			if !sameRequest(got, want) {
				t.Fatalf("Conditional of %q and %q is %q, not %q", q, r.Fields, got, want)
			}
			if again := impl.Conditional(got, r); !sameRequest(again, got) {
				t.Fatalf("Conditional of %q and %q is %q, and %q of that", q, r.Fields, got, again)
			}
		}
	}
}

// With room for two more fields, what is asked by Conditional can be shown and
// is read again as it was.
func TestConditionalOfWhatIsRight(t *testing.T) {
	shown := 0
	for _, q := range rightRequests() {
		if len(q.Fields) > 9 {
			continue
		}
		for _, r := range storableAnswers() {
			r.Fields = append(slices.Clone(r.Fields), fieldsOf(tagged, `W/"v1"`, changed, someDate)...)
			asked := impl.Conditional(q, r)
			if !impl.RequestOk(asked) {
				t.Fatalf("Conditional of %q is %q, which is not right", q, asked)
			}
			text := impl.ShowRequest(asked)
			readsRequest(t, text, asked, len(text), impl.RqOk)
			shown++
		}
	}
	if shown < 1000 {
		t.Errorf("only %d requests were shown", shown)
	}
}

func TestRefreshedTable(t *testing.T) {
	for _, c := range []struct {
		what            string
		old, told, want []impl.Field
	}{
		{"nothing at all", nil, nil, nil},
		{"no new field", fieldsOf("a", "1", "b", "2"), nil, fieldsOf("a", "1", "b", "2")},
		{"no old field", nil, fieldsOf("a", "1", "b", "2"), fieldsOf("a", "1", "b", "2")},
		{"no name in common", fieldsOf("a", "1", "b", "2"), fieldsOf("d", "4", "c", "3"), fieldsOf("a", "1", "b", "2", "d", "4", "c", "3")},
		{"all in common", fieldsOf("a", "1", "b", "2"), fieldsOf("a", "3", "b", "4"), fieldsOf("a", "3", "b", "4")},
		{"all in common, turned round", fieldsOf("a", "1", "b", "2", "c", "3"), fieldsOf("c", "6", "b", "5", "a", "4"), fieldsOf("a", "4", "b", "5", "c", "6")},
		{"some in common", fieldsOf("a", "1", "b", "2", "c", "3"), fieldsOf("d", "4", "b", "5", "e", "6"), fieldsOf("a", "1", "b", "5", "c", "3", "d", "4", "e", "6")},
		{"the same", fieldsOf("a", "1", "b", "2"), fieldsOf("a", "1", "b", "2"), fieldsOf("a", "1", "b", "2")},

		{"a name that stands twice in the new one", fieldsOf("a", "1", "b", "2"), fieldsOf("a", "3", "a", "4"), fieldsOf("a", "3, 4", "b", "2")},
		{"a new name that stands twice", fieldsOf("a", "1"), fieldsOf("b", "2", "c", "3", "b", "4"), fieldsOf("a", "1", "b", "2, 4", "c", "3")},
		{"two new names that stand twice", nil, fieldsOf("b", "2", "c", "3", "c", "5", "b", "4", "b", "4"), fieldsOf("b", "2, 4, 4", "c", "3, 5")},
		{"a name that stands twice in the old one", fieldsOf("a", "1", "b", "2", "a", "3"), fieldsOf("a", "4"), fieldsOf("a", "4", "b", "2")},
		{"a name that stands three times in the old one", fieldsOf("b", "2", "a", "1", "a", "3", "c", "5", "a", "4"), fieldsOf("d", "7", "a", "6"), fieldsOf("b", "2", "a", "6", "c", "5", "d", "7")},
		{"a name that stands twice in both", fieldsOf("a", "1", "b", "2", "a", "3"), fieldsOf("a", "4", "c", "5", "a", "6"), fieldsOf("a", "4, 6", "b", "2", "c", "5")},
		{"an old name that stands twice and is not new", fieldsOf("a", "1", "b", "2", "a", "3"), fieldsOf("b", "4"), fieldsOf("a", "1", "b", "4", "a", "3")},

		{"an empty value", fieldsOf("a", "1", "b", "2"), fieldsOf("a", ""), fieldsOf("a", "", "b", "2")},
		{"an empty new field", fieldsOf("a", "1"), fieldsOf("b", ""), fieldsOf("a", "1", "b", "")},
		{"two empty values", fieldsOf("a", "1"), fieldsOf("a", "", "a", ""), fieldsOf("a", ", ")},
		{"an old value that is empty", fieldsOf("a", "", "b", ""), fieldsOf("b", "1"), fieldsOf("a", "", "b", "1")},
		{"an empty name", fieldsOf("", "1", "a", "2"), fieldsOf("", "3", "", "4"), fieldsOf("", "3, 4", "a", "2")},
		{"an empty name that is new", fieldsOf("a", "2"), fieldsOf("", "3"), fieldsOf("a", "2", "", "3")},

		{"content-length in the new one", fieldsOf("a", "1"), fieldsOf(counted, "9", "b", "2"), fieldsOf("a", "1", "b", "2")},
		{"transfer-encoding in the new one", fieldsOf("a", "1"), fieldsOf("b", "2", coded, "chunked"), fieldsOf("a", "1", "b", "2")},
		{"both in the new one, and no more", fieldsOf("a", "1"), fieldsOf(counted, "9", coded, "chunked"), fieldsOf("a", "1")},
		{"both twice in the new one", fieldsOf("a", "1"), fieldsOf(counted, "9", coded, "x", "a", "2", coded, "y", counted, "8"), fieldsOf("a", "2")},
		{"content-length in the old one", fieldsOf(counted, "4", "a", "1"), fieldsOf("a", "2"), fieldsOf(counted, "4", "a", "2")},
		{"transfer-encoding in the old one", fieldsOf("a", "1", coded, "chunked"), fieldsOf("b", "2"), fieldsOf("a", "1", coded, "chunked", "b", "2")},
		{"both in both", fieldsOf(counted, "4", "a", "1", coded, "x"), fieldsOf(coded, "y", "a", "2", counted, "9"), fieldsOf(counted, "4", "a", "2", coded, "x")},
		{"content-length twice in the old one", fieldsOf(counted, "4", "a", "1", counted, "5"), fieldsOf(counted, "9", "b", "2"), fieldsOf(counted, "4", "a", "1", counted, "5", "b", "2")},
		{"content-length in the one, transfer-encoding in the other", fieldsOf(counted, "4"), fieldsOf(coded, "y"), fieldsOf(counted, "4")},
		{"framing in capitals", fieldsOf("a", "1"), fieldsOf("Content-Length", "9", "TRANSFER-ENCODING", "x"), fieldsOf("a", "1", "Content-Length", "9", "TRANSFER-ENCODING", "x")},
		{"names near to framing", nil, fieldsOf("content-lengths", "1", "transfer-encodin", "2", "content-encoding", "3", "length", "4"), fieldsOf("content-lengths", "1", "transfer-encodin", "2", "content-encoding", "3", "length", "4")},

		{"names in capitals", fieldsOf("a", "1", "B", "2"), fieldsOf("A", "3", "b", "4", "B", "5"), fieldsOf("a", "1", "B", "5", "A", "3", "b", "4")},
		{"what has to do with an origin", fieldsOf("date", "x", tagged, `"v1"`, caching, "max-age=5", "age", "7"), fieldsOf("date", "y", tagged, `W/"v1"`, noneMatch, "z"), fieldsOf("date", "y", tagged, `W/"v1"`, caching, "max-age=5", "age", "7", noneMatch, "z")},
		{"what other chapters name, all in common", fieldsOf("age", "1", caching, "2", "vary", "3", "expires", "4", "date", "5", tagged, "6", changed, "7", allowed, "8"), fieldsOf("age", "a", caching, "b", "vary", "c", "expires", "d", "date", "e", tagged, "f", changed, "g", allowed, "h"), fieldsOf("age", "a", caching, "b", "vary", "c", "expires", "d", "date", "e", tagged, "f", changed, "g", allowed, "h")},
		{"what other chapters name, all new", fieldsOf("a", "1"), fieldsOf("age", "a", "connection", "b", "vary", "c", "expires", "d", "date", "e", tagged, "f", changed, "g", caching, "h"), fieldsOf("a", "1", "age", "a", "connection", "b", "vary", "c", "expires", "d", "date", "e", tagged, "f", changed, "g", caching, "h")},
		{"quotes and commas", fieldsOf("a", `"x, y"`), fieldsOf("a", `"x`, "a", ` y",`), fieldsOf("a", `"x,  y",`)},
		{"as many fields as are right", numbered(12), fieldsOf("n0", "x", "m", "y"), append(append(fieldsOf("n0", "x"), numbered(12)[1:]...), fieldsOf("m", "y")...)},
		{"more fields than are right", numbered(40), numbered(50), numbered(50)},
		{"fields that are not right", fieldsOf("\xff", "1", "a b", " "), fieldsOf("\xff", "\r\n", "\xfe", "\x00", "\xff", ""), fieldsOf("\xff", "\r\n, ", "a b", " ", "\xfe", "\x00")},
	} {
		for i, status := range []int{200, 404, 304, 0, -1, math.MinInt, math.MaxInt} {
			old := impl.Response{Status: status, Fields: c.old, Body: []string{"", "old", strings.Repeat("b", 60), strings.Repeat("b", 61), "\xff", "a: 1\r\n", "\x00"}[i]}
			r := impl.Response{Status: []int{304, 200, 500, -304, 0, math.MaxInt, 304}[i], Fields: c.told, Body: []string{"", "new", "", "x", "old", "new", ""}[i]}
			want := old
			want.Fields = c.want
			if got := impl.Refreshed(old, r); !sameResponse(got, want) {
				t.Errorf("Refreshed with %s is %v, not %v", c.what, got, want)
			}
		}
	}
}

// refreshedBy goes through the old fields once, and then through the new names
// that these have not.
func refreshedBy(old, told []impl.Field) []impl.Field {
	var out []impl.Field
	isSet := func(name string) bool { return name != counted && name != coded && placeOf(told, name) >= 0 }
	for i, f := range old {
		if !isSet(f.Name) {
			out = append(out, f)
		} else if placeOf(old, f.Name) == i {
			value, _ := valuesBy(told, f.Name)
			out = append(out, impl.Field{Name: f.Name, Value: value})
		}
	}
	for i, f := range told {
		if isSet(f.Name) && placeOf(told, f.Name) == i && placeOf(old, f.Name) < 0 {
			value, _ := valuesBy(told, f.Name)
			out = append(out, impl.Field{Name: f.Name, Value: value})
		}
	}
	return out
}

func TestRefreshedHasTheNewFieldsAndTheOldBody(t *testing.T) {
	var lists [][]impl.Field
	for n := range 5 {
		lists = append(lists, listsOf([]string{"a", "b", counted, coded, ""}, n)...)
	}
	news := append(manyLists()[:400], lists...)
	changes := 0
	for i, l := range lists {
		for j := i % 7; j < len(news); j += 7 {
			old := impl.Response{Status: 200 + i, Fields: l, Body: "old" + strconv.Itoa(i)}
			r := impl.Response{Status: 304, Fields: news[j], Body: "new"}
			got := impl.Refreshed(old, r)
			if want := refreshedBy(l, r.Fields); got.Status != old.Status || got.Body != old.Body || !slices.Equal(got.Fields, want) {
				t.Fatalf("Refreshed of %q by %q is %v, not %q", l, r.Fields, got, want)
			}
			for _, name := range []string{"a", "b", "A", "", counted, coded, "other"} {
				want, is := valuesBy(r.Fields, name)
				if !is || name == counted || name == coded {
					want, is = valuesBy(l, name)
				}
				if value, has := impl.FieldGet(got.Fields, name); value != want || has != is {
					t.Fatalf("Refreshed of %q by %q has %q of %q, not %q", l, r.Fields, value, name, want)
				}
			}
			if again := impl.Refreshed(got, r); !sameResponse(again, got) {
				t.Fatalf("Refreshed of %q by %q is %v, and %v of that", l, r.Fields, got, again)
			}
			if !slices.Equal(got.Fields, l) {
				changes++
			}
		}
	}
	if changes < 10000 {
		t.Errorf("only %d answers were changed", changes)
	}
}

// Which name is set first must hang on the order of the fields alone: where
// many names are new, each of them has its place.
func TestRefreshedKeepsTheOrder(t *testing.T) {
	l := append(numbered(40), fieldsOf(counted, "9")...)
	for i := range 40 {
		told := append(slices.Clone(l[i:]), l[:i]...)
		for range 5 {
			want := slices.DeleteFunc(slices.Clone(told), func(f impl.Field) bool { return f.Name == counted })
			if got := impl.Refreshed(impl.Response{}, impl.Response{Fields: told}); !slices.Equal(got.Fields, want) {
				t.Fatalf("Refreshed of nothing by %q is %q", told, got.Fields)
			}
			behind := append(fieldsOf("a", "1", "n7", "x"), slices.DeleteFunc(want, func(f impl.Field) bool { return f.Name == "n7" })...)
			behind[1].Value = "7"
			if got := impl.Refreshed(statusOf(200, "a", "1", "n7", "x"), impl.Response{Fields: told}); !slices.Equal(got.Fields, behind) {
				t.Fatalf("Refreshed by %q is %q", told, got.Fields)
			}
		}
	}
}

func TestRefreshedEveryByteOfAName(t *testing.T) {
	for _, name := range []string{counted, coded} {
		for _, other := range changesOf(name) {
			old, r := statusOf(200, "a", "1"), statusOf(304, other, "2")
			if got := impl.Refreshed(old, r); !slices.Equal(got.Fields, refreshedBy(old.Fields, r.Fields)) || (len(got.Fields) == 1) != (other == name || other == "a") {
				t.Fatalf("Refreshed by the name %q is %q", other, got.Fields)
			}
		}
	}
}

func TestNotModifiedByTagTable(t *testing.T) {
	for _, c := range []struct {
		tags, tag string
		want      bool
	}{
		{`"v1"`, `"v1"`, true},
		{`"v1"`, `"v2"`, false},
		{`"v1"`, `"V1"`, false},
		{`"v1"`, `"v11"`, false},
		{`"v11"`, `"v1"`, false},
		{`"v1"`, "v1", false},
		{"v1", `"v1"`, false},
		{"v1", "v1", true},
		{` "v1"` + "\t", `"v1"`, true},
		{`,"v1",`, `"v1"`, true},
		{`"v1"`, ` "v1"`, false},
		{`"v1"`, `"v1" `, false},
		{`"v1"`, `"v1",`, false},

		{`"v1", "v2", "v3"`, `"v1"`, true},
		{`"v1", "v2", "v3"`, `"v2"`, true},
		{`"v1","v2","v3"`, `"v3"`, true},
		{`"v1", "v2", "v3"`, `"v4"`, false},
		{`"v1", "v2"`, `"v1", "v2"`, false},
		{`"v1" "v2"`, `"v1"`, false},
		{`"v1" "v2"`, `"v1" "v2"`, true},
		{"v1;v2", "v1", false},

		{"*", `"v1"`, true},
		{" * ", `"v1"`, true},
		{`*, "v2"`, `"v1"`, true},
		{`"v2", *`, `"v1"`, true},
		{`"v2",*,"v3"`, `"v1"`, true},
		{"*", "*", true},
		{"*", "", true},
		{"**", `"v1"`, false},
		{"* *", `"v1"`, false},
		{"*a, a*", `"v1"`, false},
		{`"*"`, `"v1"`, false},
		{`"*"`, "*", false},
		{`"v1"`, "*", false},
		{`"a, *"`, `"v1"`, false},

		{"", `"v1"`, false},
		{" \t", `"v1"`, false},
		{",", `"v1"`, false},
		{" ,, \t, ", `"v1"`, false},
		{"", "", false},
		{" ,, \t, ", "", false},
		{",", ",", false},
		{`"v1"`, "", false},
		{`""`, "", false},
		{`""`, `""`, true},
		{`W/""`, `""`, true},

		{`"a,b"`, `"a,b"`, true},
		{`"a,b"`, "a", false},
		{`"a,b"`, `"a`, false},
		{`"a,b"`, `b"`, false},
		{`"a, b"`, `"a,b"`, false},
		{`"x", "a,b"`, `"a,b"`, true},
		{`"a\",b"`, `"a\",b"`, true},
		{`"a\\",b"`, `"a\\",b"`, false},
		{`"a,"v1"`, `"v1"`, false},
		{`"a, "v1"`, `"a, "v1"`, true},
		{"a,b", "a,b", false},
		{"a,b", "b", true},
		{`x, "a`, `"a`, true},
		{`x, "a, y`, `"a, y`, true},

		{`W/"v1"`, `"v1"`, true},
		{`"v1"`, `W/"v1"`, true},
		{`W/"v1"`, `W/"v1"`, true},
		{`W/"v1"`, `"v2"`, false},
		{`W/"v1"`, `W/"v2"`, false},
		{`"x", W/"v1"`, `"v1"`, true},
		{`W/"x", W/"v1", "y"`, `"v1"`, true},
		{`W/"x", "v1"`, `W/"v1"`, true},
		{"W/v1", "v1", true},
		{"v1", "W/v1", true},
		{"W/a", "W/b", false},
		{`W/ "v1"`, `"v1"`, false},
		{`W/ "v1"`, `W/ "v1"`, true},
		{`W /"v1"`, `"v1"`, false},
		{`W"v1"`, `"v1"`, false},
		{`/"v1"`, `"v1"`, false},
		{`"W/v1"`, `"v1"`, false},
		{`"W/v1"`, `W/"v1"`, false},
		{`"v1"W/`, `"v1"`, false},
		{`W\"v1"`, `"v1"`, false},
		{`W//`, "/", true},
		{`W/, "v1"`, `"v1"`, true},
		{`W/,v1`, "W/v1", true},

		{"W/", "W/", true},
		{"W/", "", false},
		{"W/", "x", false},
		{"W/", "W", false},
		{"W", "W/", false},
		{"W", "W", true},
		{"W/ ", "W/", true},
		{"W/", "W/ ", false},
		{`W/`, `W/"v1"`, false},
		{`W/"v1"`, "W/", false},
		{`W/"v1"`, "", false},

		{`w/"v1"`, `"v1"`, false},
		{`"v1"`, `w/"v1"`, false},
		{`w/"v1"`, `w/"v1"`, true},
		{`w/"v1"`, `W/"v1"`, false},
		{`W/w/"v1"`, `w/"v1"`, true},

		{"W/*", `"v1"`, false},
		{"W/*", "", false},
		{"W/*", "*", true},
		{"W/*", "W/*", true},
		{"*", "W/*", true},
		{"W/**", `"v1"`, false},

		{`W/W/"v1"`, `"v1"`, false},
		{`"v1"`, `W/W/"v1"`, false},
		{`W/W/"v1"`, `W/"v1"`, false},
		{`W/"v1"`, `W/W/"v1"`, false},
		{`W/W/"v1"`, `W/W/"v1"`, true},
		{"W/W/", "W/", true},
		{"W/", "W/W/", true},
		{"W/W/", "W/W/", true},
		{"W/W/", "", false},
		{"W/W", "W", true},

		{"\xff", "\xff", true},
		{"W/\xff", "\xff", true},
		{"\xff", "\xfe", false},
		{"\xff", "\ufffd", false},
		{"\xc3,\xa9", "\u00e9", false},
		{"\xc3,\xa9", "\xa9", true},
		{"\"\u00e9\"", "\"\u00e9\"", true},
		{"a\r\n", "a\r\n", true},
		{"a\r\n", "a", false},
		{"\x00", "", false},
	} {
		for _, modified := range []int{math.MinInt, -1, 0, 5, math.MaxInt} {
			for _, q := range []impl.Request{getOf(noneMatch, c.tags), getOf("a", "*", noneMatch, c.tags, tagged, c.tag), {Method: "\xff", Fields: fieldsOf("x", c.tag, noneMatch, c.tags)}} {
				if got := impl.NotModified(q, c.tag, modified); got != c.want {
					t.Errorf("NotModified of %q with the tag %q at %d is %v", q.Fields, c.tag, modified, got)
				}
			}
		}
	}
}

func TestNotModifiedOfSeveralFields(t *testing.T) {
	day := impl.ShowDate(5)
	for _, c := range []struct {
		what string
		l    []impl.Field
		want bool
	}{
		{"nil", nil, false},
		{"the empty list", []impl.Field{}, false},
		{"neither", fieldsOf("a", "1", "date", day), false},
		{"the tag in the first of two fields", fieldsOf(noneMatch, `"v1"`, "a", "1", noneMatch, `"v2"`), true},
		{"the tag in the second of two fields", fieldsOf(noneMatch, `"v2"`, "a", "1", noneMatch, `"v1"`), true},
		{"the tag in neither of two fields", fieldsOf(noneMatch, `"v2"`, noneMatch, `"v3"`), false},
		{"* in the second of two fields", fieldsOf(noneMatch, `"v2"`, noneMatch, "*"), true},
		{"the tag in two fields", fieldsOf(noneMatch, `"v1"`, noneMatch, `W/"v1"`), true},
		{"the tag beside an empty field", fieldsOf(noneMatch, "", noneMatch, `"v1"`), true},
		{"two empty fields", fieldsOf(noneMatch, "", noneMatch, ""), false},
		{"half of the tag in each", fieldsOf(noneMatch, `"v`, noneMatch, `1"`), false},
		{"quotes that go on in the next", fieldsOf(noneMatch, `"x`, noneMatch, `"v1"`), false},
		{"quotes that end in the next", fieldsOf(noneMatch, `"x`, noneMatch, `y", "v1"`), true},
		{"* within quotes that go on in the next", fieldsOf(noneMatch, `"x`, noneMatch, "*"), false},

		{"another tag beside a date that fits", fieldsOf(noneMatch, `"v2"`, since, day), false},
		{"another tag behind a date that fits", fieldsOf(since, day, noneMatch, `"v2"`), false},
		{"an empty one beside a date that fits", fieldsOf(since, day, noneMatch, ""), false},
		{"commas and blanks beside a date that fits", fieldsOf(noneMatch, " ,\t,", since, day), false},
		{"the tag beside a date that does not fit", fieldsOf(noneMatch, `"v1"`, since, impl.ShowDate(4)), true},
		{"the tag behind a date that does not fit", fieldsOf(since, impl.ShowDate(4), noneMatch, `"v1"`), true},
		{"the tag beside what is no date", fieldsOf(since, "x", noneMatch, `"v1"`), true},
		{"* beside a date that does not fit", fieldsOf(since, impl.ShowDate(0), noneMatch, "*"), true},
		{"the tag beside a date that fits", fieldsOf(noneMatch, `"v1"`, since, day), true},

		{"a date alone", fieldsOf(since, day), true},
		{"a date among others", fieldsOf("a", "1", since, day, "b", "2"), true},
		{"a date twice", fieldsOf(since, day, since, day), false},
		{"a date beside an empty one", fieldsOf(since, day, since, ""), false},
		{"a date behind an empty one", fieldsOf(since, "", since, day), false},
		{"a date in two halves", fieldsOf(since, "Thu", since, day[5:]), true},
		{"a date of last-modified alone", fieldsOf(changed, day, "date", day), false},
		{"the tag of etag alone", fieldsOf(tagged, `"v1"`), false},

		{"names in capitals", fieldsOf("If-None-Match", `"v1"`, "If-Modified-Since", day), false},
		{"a name in capitals beside a date that fits", fieldsOf("IF-NONE-MATCH", `"v2"`, since, day), true},
		{"names near to these", fieldsOf("if-none-matc", "*", "if-none-match ", "*", "if-match", "*", "if-modified-sinc", day, "if-unmodified-since", day), false},
		{"the tag behind more fields than are right", append(numbered(40), fieldsOf(noneMatch, `"v1"`)...), true},
		{"a date behind more fields than are right", append(numbered(40), fieldsOf(since, day)...), true},
		{"fields that are not right", fieldsOf("\xff", "*", "", "*", noneMatch, " \"v1\"\t"), true},
	} {
		for i, method := range []string{"GET", "PUT", "", "get", "\xff"} {
			q := impl.Request{Method: method, Uri: []string{"/", "", "x", "/a", "\xff"}[i], Fields: c.l, Body: "if-none-match: *"}
			if got := impl.NotModified(q, `"v1"`, 5); got != c.want {
				t.Errorf("NotModified with %s is %v", c.what, got)
			}
		}
	}
}

func TestNotModifiedByDateTable(t *testing.T) {
	for _, sec := range []int{0, 1, 5, 86399, 86400, 784111777, 1999999999, 2000000000} {
		q := getOf("a", "1", since, impl.ShowDate(sec))
		for _, modified := range append(manyNumbers(), sec-2, sec-1, sec, sec+1, sec+2, -sec, sec/2, 2*sec) {
			for _, tag := range []string{"", `"v1"`, "*", impl.ShowDate(sec)} {
				if got := impl.NotModified(q, tag, modified); got != (modified >= 0 && modified <= sec) {
					t.Errorf("NotModified at %d since %d with the tag %q is %v", modified, sec, tag, got)
				}
			}
		}
	}
	for _, value := range []string{
		"", " ", ",", "*", "0", "5", "-1", "99999999999", `"v1"`, someDate + " ", " " + someDate, someDate + ",", `"` + someDate + `"`, strings.ToLower(someDate), someDate[5:],
		"Mon, 06 Nov 1994 08:49:37 GMT", "Sun, 31 Nov 1994 08:49:37 GMT", "Wed, 31 Dec 1969 23:59:59 GMT", "Wed, 18 May 2033 03:33:21 GMT", "Thu, 01 Jan 1970 00:00:00 UTC", "\xff", "\x00", strings.Repeat("0", 29),
	} {
		for _, modified := range manyNumbers() {
			if impl.NotModified(getOf(since, value), `"v1"`, modified) {
				t.Errorf("NotModified at %d since %q is true", modified, value)
			}
		}
	}
}

func TestNotModifiedEveryByteOfADate(t *testing.T) {
	for _, s := range changesOf(someDate) {
		sec, isDate := dateBy(s)
		for _, modified := range []int{-1, 0, 784111776, 784111777, 784111778, sec - 1, sec, sec + 1} {
			if got := impl.NotModified(getOf(since, s), "", modified); got != (isDate && modified >= 0 && modified <= sec) {
				t.Fatalf("NotModified at %d since %q is %v", modified, s, got)
			}
		}
	}
}

func TestNotModifiedEveryByteOfAName(t *testing.T) {
	for _, s := range changesOf(noneMatch) {
		if got := impl.NotModified(getOf(s, `"v1"`), `"v1"`, 5); got != (s == noneMatch) {
			t.Fatalf("NotModified by the name %q is %v", s, got)
		}
	}
	for _, s := range changesOf(since) {
		if got := impl.NotModified(getOf(s, impl.ShowDate(5)), `"v1"`, 5); got != (s == since) {
			t.Fatalf("NotModified by the name %q is %v", s, got)
		}
	}
}

var weakTag = regexp.MustCompile(`(?s)\AW/(.+)\z`)

func strongBy(tag string) string { return weakTag.ReplaceAllString(tag, "$1") }

func notModifiedBy(q impl.Request, tag string, modified int) bool {
	if value, is := valuesBy(q.Fields, noneMatch); is {
		parts := partsOf(value)
		for i, part := range parts {
			if part == "*" {
				return true
			}
			parts[i] = strongBy(part)
		}
		return slices.Contains(parts, strongBy(tag))
	}
	sec, isDate := dateIn(q.Fields, since)
	return isDate && modified >= 0 && modified <= sec
}

func someTags() []string {
	return []string{"", "a", "W", "W/", "W/a", "w/a", "W/W/a", "W/W/", "*", "W/*", `"a"`, `W/"a"`, `"a,W/"`, `"`, `""`, " a", "a,W/a", "\xff", "W/\xff"}
}

func TestNotModifiedAsPatternsReadIt(t *testing.T) {
	texts := bytesOf(allBytes(), 1)
	for n := range 5 {
		texts = append(texts, textsOf([]string{"a", "W", "/", "W/", ",", " ", `"`, "*", "w/", `\`}, n)...)
	}
	for _, right := range []string{`W/"a, b", "c"`, `"x",W/W/a`} {
		texts = append(texts, changesOf(right)...)
	}
	yes, no := 0, 0
	for i, s := range texts {
		q := getOf("a", "1", noneMatch, s)
		if i%3 == 0 {
			q = getOf(noneMatch, s[:len(s)/2], since, impl.ShowDate(5), noneMatch, s[len(s)/2:])
		}
		for _, tag := range append(someTags(), `W/"a, b"`, "W/a", "c", s, "W/"+s) {
			want := notModifiedBy(q, tag, 5)
			if got := impl.NotModified(q, tag, 5); got != want {
				t.Fatalf("NotModified of %q with the tag %q is %v", q.Fields, tag, got)
			}
			if want {
				yes++
			} else {
				no++
			}
		}
	}
	if yes < 10000 || no < 10000 {
		t.Errorf("only %d are not modified, and %d are", yes, no)
	}
}

func TestNotModifiedAsReadAgain(t *testing.T) {
	yes, no := 0, 0
	for _, q := range someAsks() {
		for _, tag := range append(someTags(), `"v1"`, `W/"v1"`, `"v2"`) {
			for _, modified := range []int{math.MinInt, -1, 0, 8, 9, 10, math.MaxInt} {
				want := notModifiedBy(q, tag, modified)
				if got := impl.NotModified(q, tag, modified); got != want {
					t.Fatalf("NotModified of %q with the tag %q at %d is %v", q.Fields, tag, modified, got)
				}
				if want {
					yes++
				} else {
					no++
				}
			}
		}
	}
	if yes < 1000 || no < 1000 {
		t.Errorf("only %d are not modified, and %d are", yes, no)
	}
}

// isOneTag asks for one part alone, that no trimming changes.
func isOneTag(s string) bool {
	return slices.Equal(partsOf(s), []string{s})
}

func TestWhatIsAskedIsNotModifiedWhileTheTagStays(t *testing.T) {
	tags := append(someTags(), `"a,b"`, `W/"a, b"`, `"a\",b"`, "a b", strings.Repeat("v", 60), `"v`+strings.Repeat(" ", 40)+`"`)
	for n := range 4 {
		tags = append(tags, textsOf([]string{"a", "W/", ",", `"`, "*", `\`}, n)...)
	}
	for _, right := range []string{`W/"v1"`, `"1,2"`} {
		tags = append(tags, changesOf(right)...)
	}
	asks := []impl.Request{{}, getOf("a", "1"), getOf(noneMatch, `"x"`), getOf(since, "x", "a", "1", noneMatch, "", noneMatch, `"open`), {Method: "\xff", Fields: numbered(40)}}
	kept, other := 0, 0
	for i, tag := range tags {
		if !isOneTag(tag) {
			continue
		}
		kept++
		for j, q := range asks {
			r := statusOf(200, "a", "1", tagged, tag)
			if (i+j)%2 > 0 {
				r = statusOf(304, changed, impl.ShowDate(5), tagged, tag)
			}
			asked := impl.Conditional(q, r)
			for _, modified := range []int{math.MinInt, -1, 0, 5, 6, math.MaxInt} {
				if !impl.NotModified(asked, tag, modified) {
					t.Fatalf("NotModified of %q with the tag %q at %d is false", asked.Fields, tag, modified)
				}
				if weak := "W/" + tag; strongBy(tag) == tag && !impl.NotModified(asked, weak, modified) {
					t.Fatalf("NotModified of %q with the tag %q at %d is false", asked.Fields, weak, modified)
				}
				another := tag + "x"
				if differs := tag != "*" && strongBy(another) != strongBy(tag); impl.NotModified(asked, another, modified) == differs {
					t.Fatalf("NotModified of %q with the tag %q at %d is %v", asked.Fields, another, modified, !differs)
				}
			}
		}
	}
	for _, tag := range tags {
		asked := impl.Conditional(getOf(), statusOf(200, tagged, `"x"`))
		if impl.NotModified(asked, tag, 0) {
			t.Fatalf("NotModified of %q with the tag %q is true", asked.Fields, tag)
		}
		other++
	}
	if kept < 1000 || other < 1000 {
		t.Errorf("only %d tags stayed, and %d are others", kept, other)
	}
}

func TestWhatIsAskedIsNotModifiedWhileTheDateStays(t *testing.T) {
	for _, sec := range []int{0, 1, 5, 784111777, 2000000000} {
		for _, q := range []impl.Request{{}, getOf("a", "1", noneMatch, "*"), getOf(since, impl.ShowDate(9), noneMatch, `"v1"`)} {
			asked := impl.Conditional(q, statusOf(200, "a", "1", changed, impl.ShowDate(sec)))
			for _, tag := range someTags() {
				if !impl.NotModified(asked, tag, sec) || !impl.NotModified(asked, tag, sec/2) || impl.NotModified(asked, tag, sec+1) || impl.NotModified(asked, tag, -1) {
					t.Fatalf("NotModified of %q with the tag %q is not so up to %d", asked.Fields, tag, sec)
				}
			}
			none := impl.Conditional(q, statusOf(200, "a", "1"))
			if impl.NotModified(none, `"v1"`, 0) || impl.NotModified(none, "*", sec) {
				t.Fatalf("NotModified of %q is true", none.Fields)
			}
		}
	}
}

func TestLooksAtTheOriginAreNewMemory(t *testing.T) {
	q := impl.Request{Method: "METHOD", Uri: "/uri", Fields: fieldsOf("name", "value", noneMatch, "asked", since, "then"), Body: "body"}
	for _, told := range [][]impl.Field{nil, fieldsOf("other", "one"), fieldsOf(tagged, "tag"), fieldsOf(changed, "day"), fieldsOf(tagged, "tag", "name", "new", changed, "day"), fieldsOf("name", "n1", "name", "n2", counted, "7")} {
		r := impl.Response{Status: 304, Fields: told, Body: "new body"}
		old := impl.Response{Status: 200, Fields: fieldsOf("name", "before", "kept", "so", tagged, "old"), Body: "old body"}
		given := slices.Concat(textsIn(q.Fields, q.Method, q.Uri, q.Body), textsIn(r.Fields, r.Body), textsIn(old.Fields, old.Body), []string{noneMatch, since, tagged, changed})
		asked, fresh := impl.Conditional(q, r), impl.Refreshed(old, r)
		for _, made := range append(textsIn(asked.Fields, asked.Method, asked.Uri, asked.Body), textsIn(fresh.Fields, fresh.Body)...) {
			if slices.ContainsFunc(given, func(s string) bool { return liesWithin(made, s) }) {
				t.Errorf("%q shares memory with an argument", made)
			}
		}
		wantAsked, wantFresh := conditionalBy(q, r), refreshedBy(old.Fields, r.Fields)
		clear(asked.Fields[:cap(asked.Fields)])
		clear(fresh.Fields[:cap(fresh.Fields)])
		if !sameRequest(impl.Conditional(q, r), wantAsked) || !slices.Equal(impl.Refreshed(old, r).Fields, wantFresh) {
			t.Errorf("what is made with %q is another thing the second time", told)
		}
	}
}

func TestLooksAtTheOriginLeaveWhatTheyAreGiven(t *testing.T) {
	lists := append(wrongHeads(), fieldsOf(noneMatch, "x", since, "y", "a", "1"), fieldsOf(tagged, "x", "a", "2", changed, "y"), fieldsOf("a", "1", "a", "2", counted, "3"), nil)
	for _, ask := range lists {
		for _, tell := range lists {
			q, r := impl.Request{Method: "GET", Uri: "/", Body: "b"}, impl.Response{Status: 200, Body: "c"}
			var asked, told []impl.Field
			q.Fields, asked = spared(ask)
			r.Fields, told = spared(tell)
			old := impl.Response{Status: 404, Fields: q.Fields, Body: "d"}
			askedBefore, toldBefore := slices.Clone(asked), slices.Clone(told)
			if !sameRequest(impl.Conditional(q, r), conditionalBy(q, r)) || !slices.Equal(impl.Refreshed(old, r).Fields, refreshedBy(ask, tell)) {
				t.Fatalf("what stands behind %q or %q counts", ask, tell)
			}
			if impl.HasValidator(r) != (placeOf(tell, tagged) >= 0 || placeOf(tell, changed) >= 0) || impl.NotModified(q, "x", 0) != notModifiedBy(q, "x", 0) {
				t.Fatalf("what stands behind %q or %q is asked for", ask, tell)
			}
			if !slices.Equal(asked, askedBefore) || !slices.Equal(told, toldBefore) {
				t.Fatalf("%q and %q are %q and %q behind", askedBefore, toldBefore, asked, told)
			}
		}
	}
}

// A long field, or a name that stands very often, must not cost its square.
func TestLooksAtTheOriginLong(t *testing.T) {
	many := 1 << 18
	for _, piece := range []string{"b", "b,", `"b", `, `"`, ",", " ", `\`, `"\`, "W/", "W/,", "W/b,", "**,"} {
		long := strings.Repeat(piece, many)
		for _, tag := range []string{`"v1"`, "W/b", "W/" + long, long} {
			q := getOf(noneMatch, long)
			if got := impl.NotModified(q, tag, 0); got != notModifiedBy(q, tag, 0) {
				t.Errorf("NotModified of many %q with a tag of %d bytes is %v", piece, len(tag), got)
			}
		}
		q, r := getOf(noneMatch, long, "a", long), statusOf(200, tagged, long, changed, long, "a", long)
		if !sameRequest(impl.Conditional(q, r), conditionalBy(q, r)) || !slices.Equal(impl.Refreshed(impl.Response{Fields: q.Fields}, r).Fields, refreshedBy(q.Fields, r.Fields)) {
			t.Errorf("many %q are not handed on", piece)
		}
	}
	var same []impl.Field
	for range many {
		same = append(same, impl.Field{Name: "a", Value: "x"})
	}
	want := fieldsOf("a", strings.Repeat("x, ", many-1)+"x")
	if got := impl.Refreshed(impl.Response{Fields: same}, impl.Response{Fields: same}); !slices.Equal(got.Fields, want) {
		t.Errorf("Refreshed by many fields of one name has %d", len(got.Fields))
	}
	if got := impl.Refreshed(impl.Response{}, impl.Response{Fields: numbered(1000)}); !slices.Equal(got.Fields, numbered(1000)) {
		t.Errorf("Refreshed by many names has %d", len(got.Fields))
	}
}
