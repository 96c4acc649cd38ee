package tests

import (
	"math"
	"math/big"
	"slices"
	"strconv"
	"strings"
	"testing"

	"loop.example/g01402/impl"
)

const allowed = "authorization"

// getOf tells a request of these fields, names and values in turn.
func getOf(texts ...string) impl.Request {
	return impl.Request{Method: "GET", Uri: "/", Fields: fieldsOf(texts...)}
}

// statusOf tells a response of that status and these fields.
func statusOf(status int, texts ...string) impl.Response {
	return impl.Response{Status: status, Fields: fieldsOf(texts...)}
}

var safeMethods = []string{"GET", "HEAD", "OPTIONS", "TRACE"}

func TestIsSafeTable(t *testing.T) {
	for _, method := range safeMethods {
		if !impl.IsSafe(method) {
			t.Errorf("IsSafe(%q) is false", method)
		}
		// Every one-byte change, and each small letter, is another method.
		for _, other := range append(changesOf(method), strings.ToLower(method), strings.ToLower(method[:1])+method[1:]) {
			if got := impl.IsSafe(other); got != slices.Contains(safeMethods, other) {
				t.Errorf("IsSafe(%q) is %v", other, got)
			}
		}
	}
	for _, method := range []string{
		"", " ", "PUT", "POST", "DELETE", "PATCH", "CONNECT", "PURGE", "get", "head", "options", "trace", "Get", "GeT", "Head", "Options", "Trace", "put",
		"GET ", " GET", "GET\x00", "GETS", "GE", "GETHEAD", "GET,HEAD", "GET HEAD", "OPTION", "TRACES", "*", "\xff", strings.Repeat("GET", 1000),
	} {
		if impl.IsSafe(method) {
			t.Errorf("IsSafe(%.50q) is true", method)
		}
	}
}

func TestEveryStatus(t *testing.T) {
	heuristic := []int{200, 203, 204, 300, 301, 404, 410}
	statuses := manyNumbers()
	for status := -700; status <= 1500; status++ {
		statuses = append(statuses, status)
	}
	for _, status := range heuristic {
		statuses = append(statuses, -status, status+1<<16, status+1<<32, status+math.MinInt)
	}
	for _, status := range statuses {
		if got := impl.Heuristic(status); got != slices.Contains(heuristic, status) {
			t.Errorf("Heuristic(%d) is %v", status, got)
		}
		if got := impl.Succeeded(status); got != (status > 199 && status < 400) {
			t.Errorf("Succeeded(%d) is %v", status, got)
		}
	}
	for status, want := range map[int]bool{199: false, 200: true, 299: true, 300: true, 304: true, 399: true, 400: false, 404: false, 599: false, 600: false} {
		if got := impl.Succeeded(status); got != want {
			t.Errorf("Succeeded(%d) is %v", status, got)
		}
	}
}

func TestStorableByMethod(t *testing.T) {
	r := statusOf(200, caching, "public, max-age=5")
	for _, c := range []struct {
		method string
		want   bool
	}{
		{"GET", true},
		{"", false}, {"get", false}, {"Get", false}, {"GET ", false}, {" GET", false}, {"GETS", false}, {"GE", false}, {"G", false},
		{"HEAD", false}, {"OPTIONS", false}, {"TRACE", false}, {"PUT", false}, {"POST", false}, {"DELETE", false}, {"PATCH", false}, {"*", false},
	} {
		if got := impl.Storable(impl.Request{Method: c.method, Uri: "/"}, r); got != c.want {
			t.Errorf("Storable of %q is %v", c.method, got)
		}
	}
}

// The chapter asks whether the answer is right, and not the request.
func TestStorableOfARequestThatIsNotRight(t *testing.T) {
	r := statusOf(200)
	for _, q := range []impl.Request{
		{Method: "GET"}, {Method: "GET", Uri: "a"}, {Method: "GET", Uri: strings.Repeat("/", 21)}, {Method: "GET", Uri: "/", Body: strings.Repeat("b", 61)},
		{Method: "GET", Uri: "/", Fields: numbered(12)}, {Method: "GET", Uri: "/", Fields: numbered(500)}, {Method: "GET", Uri: "/", Fields: fieldsOf(counted, "1", "A", "\r\n", "", "")},
	} {
		if impl.RequestOk(q) || !impl.Storable(q, r) {
			t.Errorf("Storable of the request %.200q is false", q)
		}
		q.Fields = append(slices.Clone(q.Fields), impl.Field{Name: caching, Value: "no-store"})
		if impl.Storable(q, r) {
			t.Errorf("Storable of the request %.200q is true", q)
		}
	}
}

func TestStorableOfAnAnswerThatIsNotRight(t *testing.T) {
	last := fieldsOf(caching, "public, max-age=5, s-maxage=5", "expires", someDate)
	for _, c := range []struct {
		what string
		r    impl.Response
		want bool
	}{
		{"the zero one", impl.Response{}, false},
		{"a status of 199", impl.Response{Status: 199, Fields: last}, false},
		{"a status of 600", impl.Response{Status: 600, Fields: last}, false},
		{"a status below 0", impl.Response{Status: -200, Fields: last}, false},
		{"the greatest status", impl.Response{Status: math.MaxInt, Fields: last}, false},
		{"a status of 304", impl.Response{Status: 304, Fields: last}, false},
		{"a status of 304 and nothing else", impl.Response{Status: 304}, false},
		{"a status of 304 and a body", impl.Response{Status: 304, Fields: last, Body: "b"}, false},
		{"a status of 303", impl.Response{Status: 303, Fields: last}, true},
		{"a status of 305", impl.Response{Status: 305, Fields: last}, true},
		{"a status of 200", impl.Response{Status: 200, Fields: last}, true},
		{"a status of 599", impl.Response{Status: 599, Fields: last}, true},
		{"a status of 204", impl.Response{Status: 204, Fields: last}, true},
		{"a status of 204 and a body", impl.Response{Status: 204, Fields: last, Body: "b"}, false},
		{"a body of 60", impl.Response{Status: 200, Fields: last, Body: strings.Repeat("b", 60)}, true},
		{"a body of 61", impl.Response{Status: 200, Fields: last, Body: strings.Repeat("b", 61)}, false},
		{"11 fields", impl.Response{Status: 200, Fields: slices.Concat(last, numbered(9))}, true},
		{"12 fields", impl.Response{Status: 200, Fields: slices.Concat(last, numbered(10))}, false},
		{"13 fields", impl.Response{Status: 200, Fields: slices.Concat(last, numbered(11))}, false},
		{"content-length", impl.Response{Status: 200, Fields: slices.Concat(last, fieldsOf(counted, "0"))}, false},
		{"transfer-encoding", impl.Response{Status: 200, Fields: slices.Concat(last, fieldsOf(coded, "chunked"))}, false},
		{"a name of great letters", impl.Response{Status: 200, Fields: slices.Concat(last, fieldsOf("A", "b"))}, false},
		{"an empty name", impl.Response{Status: 200, Fields: slices.Concat(last, fieldsOf("", "b"))}, false},
		{"a value that is not trimmed", impl.Response{Status: 200, Fields: slices.Concat(last, fieldsOf("a", " b"))}, false},
		{"a value with a byte 10", impl.Response{Status: 200, Fields: slices.Concat(last, fieldsOf("a", "b\nb"))}, false},
		{"a value of 60", impl.Response{Status: 200, Fields: slices.Concat(last, fieldsOf("a", strings.Repeat("b", 60)))}, true},
		{"a value of 61", impl.Response{Status: 200, Fields: slices.Concat(last, fieldsOf("a", strings.Repeat("b", 61)))}, false},
	} {
		if got := impl.Storable(getOf(), c.r); got != c.want {
			t.Errorf("Storable of an answer with %s is %v", c.what, got)
		}
	}
}

func TestStorableByWhatIsSaid(t *testing.T) {
	for _, c := range []struct {
		asked, told string
		want        bool
	}{
		{"", "", true},
		{"no-store", "", false},
		{"", "no-store", false},
		{"no-store", "no-store", false},
		{"no-store", "public, max-age=5", false},
		{"", "public, no-store, max-age=5", false},
		{"max-age=5, no-store", "public", false},
		{"NO-Store", "", false},
		{"", "No-STORE", false},
		{"no-store=0", "", false},
		{"", `no-store="x"`, false},
		{"", "no-store, no-store", false},
		{`"no-store"`, `"no-store"`, true},
		{`x="no-store"`, `x="a, no-store, b"`, true},
		{"x=no-store", "x=no-store", true},
		{"no-store =1", "no-store x", true},
		{"no-stor, no-stores, nostore", "no_store, xno-store", true},

		{"", "private", false},
		{"", "Private", false},
		{"", "private, public", false},
		{"", "public, private", false},
		{"", "public, max-age=5, s-maxage=5, private", false},
		{"", "private, must-revalidate", false},
		{"", `private="set-cookie"`, false},
		{"", "private=", false},
		{"", "public", true},
		{"", `"private"`, true},
		{"", `x="private"`, true},
		{"", "private x", true},
		{"", "privat, privates", true},
		{"private", "", true},
		{"private", "public", true},

		{"no-cache", "", true},
		{"", "no-cache", true},
		{"no-cache, max-age=0, min-fresh=9, only-if-cached", "no-cache, max-age=0, must-revalidate", true},
		{"public", "max-age=0", true},
	} {
		if got := impl.Storable(getOf(caching, c.asked), statusOf(200, caching, c.told)); got != c.want {
			t.Errorf("Storable where %q is asked and %q told is %v", c.asked, c.told, got)
		}
	}
	for _, c := range []struct {
		l    []impl.Field
		want bool
	}{
		{fieldsOf(caching, "public", caching, "private"), false},
		{fieldsOf(caching, "private", "a", "b", caching, "public"), false},
		{fieldsOf(caching, "max-age=5", caching, "", caching, "no-store"), false},
		{fieldsOf(caching, `x="`, caching, `private, no-store`, caching, `"`), true},
		{fieldsOf("pragma", "no-store", "private", "1", "no-store", "", "cache-contro", "private"), true},
	} {
		if got := impl.Storable(getOf(), impl.Response{Status: 200, Fields: c.l}); got != c.want {
			t.Errorf("Storable of %q is %v", c.l, got)
		}
	}
}

func TestStorableByVary(t *testing.T) {
	for _, c := range []struct {
		vary []string
		want bool
	}{
		{nil, true}, {[]string{""}, true}, {[]string{"a"}, true}, {[]string{"a, b"}, true},
		{[]string{"*"}, false}, {[]string{"a, *"}, false}, {[]string{"*, a"}, false}, {[]string{"a,*,b"}, false}, {[]string{",*,"}, false}, {[]string{"a ,\t* \t, b"}, false}, {[]string{"*,*"}, false},
		{[]string{"a", "*"}, false}, {[]string{"*", "a"}, false}, {[]string{"a", "b, *", "c"}, false}, {[]string{"", "*"}, false},
		{[]string{`"*"`}, true}, {[]string{`a, "*"`}, true}, {[]string{`"a, *, b"`}, true}, {[]string{`"a`, `*`, `b"`}, true}, {[]string{`"a, *`}, true}, {[]string{`"\", *, "`}, true}, {[]string{`"a", *, "b"`}, false}, {[]string{`"\\", *`}, false}, {[]string{`"*", *`}, false},
		{[]string{"**"}, true}, {[]string{"a*"}, true}, {[]string{"*a"}, true}, {[]string{"* *"}, true}, {[]string{"*=*"}, true}, {[]string{"'*'"}, true}, {[]string{`\*`}, true}, {[]string{"\u2217"}, true}, {[]string{"%2a"}, true},
	} {
		var l []impl.Field
		for _, vary := range c.vary {
			l = append(l, fieldsOf("vary", vary, "accept", "*")...)
		}
		for _, more := range [][]impl.Field{nil, fieldsOf(caching, "public"), fieldsOf(caching, "max-age=5", "expires", someDate)} {
			r := impl.Response{Status: 200, Fields: slices.Concat(more, l)}
			if got := impl.Storable(getOf("vary", "*"), r); got != c.want {
				t.Errorf("Storable of %q is %v", r.Fields, got)
			}
		}
	}
}

func TestStorableWithAnAuthorization(t *testing.T) {
	asked := [][]impl.Field{fieldsOf(allowed, "x"), fieldsOf(allowed, ""), fieldsOf("a", "b", allowed, "*", allowed, "x"), fieldsOf(allowed, "x", caching, "public, s-maxage=5, must-revalidate")}
	for _, c := range []struct {
		status int
		texts  []string
		with   bool
		alone  bool
	}{
		{200, nil, false, true},
		{200, []string{caching, ""}, false, true},
		{200, []string{caching, "max-age=5"}, false, true},
		{200, []string{"expires", someDate}, false, true},
		{200, []string{"vary", allowed}, false, true},
		{200, []string{caching, "max-age=5, proxy-revalidate, no-cache", "expires", someDate}, false, true},
		{200, []string{caching, "public"}, true, true},
		{200, []string{caching, "PUBLIC"}, true, true},
		{200, []string{caching, "s-maxage=5"}, true, true},
		{200, []string{caching, "s-maxage=0"}, true, true},
		{200, []string{caching, "s-maxage"}, true, true},
		{200, []string{caching, "s-maxage=x"}, true, true},
		{200, []string{caching, "must-revalidate"}, true, true},
		{200, []string{caching, "must-revalidate=x"}, true, true},
		{200, []string{caching, "max-age=5", caching, "must-revalidate"}, true, true},
		{200, []string{caching, `"public"`}, false, true},
		{200, []string{caching, `x="public, s-maxage=5, must-revalidate"`}, false, true},
		{200, []string{caching, "must-revalidat, smaxage=5, publi"}, false, true},
		{200, []string{"public", "", "s-maxage", "5", "must-revalidate", "1"}, false, true},
		{200, []string{caching, "public, private"}, false, false},
		{200, []string{caching, "must-revalidate, no-store"}, false, false},
		{200, []string{caching, "public", "vary", "*"}, false, false},

		{500, nil, false, false},
		{500, []string{caching, "must-revalidate"}, false, false},
		{500, []string{caching, "max-age=5"}, false, true},
		{500, []string{"expires", "0"}, false, true},
		{500, []string{caching, "public"}, true, true},
		{500, []string{caching, "s-maxage=5"}, true, true},
		{500, []string{caching, "must-revalidate, max-age=5"}, true, true},
		{500, []string{caching, "must-revalidate", "expires", "0"}, true, true},
	} {
		r := statusOf(c.status, c.texts...)
		for _, l := range asked {
			if got := impl.Storable(impl.Request{Method: "GET", Uri: "/", Fields: l}, r); got != c.with {
				t.Errorf("Storable of %d with %q where %q is asked is %v", c.status, r.Fields, l, got)
			}
		}
		for _, l := range [][]impl.Field{nil, fieldsOf("Authorization", "x"), fieldsOf("authorizatio", "x", "proxy-authorization", "x", "x", allowed)} {
			if got := impl.Storable(impl.Request{Method: "GET", Uri: "/", Fields: l}, r); got != c.alone {
				t.Errorf("Storable of %d with %q where %q is asked is %v", c.status, r.Fields, l, got)
			}
		}
		r.Fields = append(r.Fields, impl.Field{Name: allowed, Value: "x"})
		if got := impl.Storable(getOf(), r); got != c.alone {
			t.Errorf("Storable of %d with %q is %v", c.status, r.Fields, got)
		}
	}
}

func TestStorableOfEveryStatus(t *testing.T) {
	for status := 190; status <= 610; status++ {
		right := status >= 200 && status <= 599 && status != 304
		for _, c := range []struct {
			texts []string
			lasts bool
		}{
			{nil, false},
			{[]string{caching, ""}, false},
			{[]string{caching, "must-revalidate"}, false},
			{[]string{caching, "no-cache, min-fresh=5, stale-if-error=5"}, false},
			{[]string{caching, `"public", x="max-age=5", max-age =5`}, false},
			{[]string{"last-modified", someDate, "date", someDate, "etag", `"a"`}, false},
			{[]string{"max-age", "5", "Expires", someDate}, false},
			{[]string{"max-age", "5", "s-maxage", "5", "public", ""}, false},
			{[]string{caching, "expires=5"}, false},
			{[]string{caching, "public"}, true},
			{[]string{caching, "public=x"}, true},
			{[]string{caching, "max-age=5"}, true},
			{[]string{caching, "max-age=0"}, true},
			{[]string{caching, "max-age"}, true},
			{[]string{caching, "Max-Age=x"}, true},
			{[]string{caching, "s-maxage=5"}, true},
			{[]string{caching, `s-maxage="x"`}, true},
			{[]string{"expires", someDate}, true},
			{[]string{"expires", "0"}, true},
			{[]string{"expires", ""}, true},
			{[]string{"expires", "x", "expires", "y"}, true},
		} {
			r := statusOf(status, c.texts...)
			// A name of great letters makes the answer one that is not right.
			want := impl.ResponseOk(r) && right && (c.lasts || impl.Heuristic(status))
			if got := impl.Storable(getOf(), r); got != want {
				t.Errorf("Storable of %d with %q is %v", status, r.Fields, got)
			}
		}
	}
}

func hasBy(l []impl.Field, names ...string) bool {
	for _, d := range directivesBy(l) {
		if slices.Contains(names, d.Name) {
			return true
		}
	}
	return false
}

// storableBy reads the chapter's words once more.
func storableBy(q impl.Request, r impl.Response) bool {
	if q.Method != "GET" || !impl.ResponseOk(r) || r.Status == 304 {
		return false
	}
	vary, _ := valuesBy(r.Fields, "vary")
	if hasBy(q.Fields, "no-store") || hasBy(r.Fields, "no-store", "private") || slices.Contains(partsOf(vary), "*") {
		return false
	}
	if _, is := valuesBy(q.Fields, allowed); is && !hasBy(r.Fields, "public", "s-maxage", "must-revalidate") {
		return false
	}
	_, expires := valuesBy(r.Fields, "expires")
	return expires || hasBy(r.Fields, "public", "max-age", "s-maxage") || slices.Contains([]int{200, 203, 204, 300, 301, 404, 410}, r.Status)
}

// someRequests differ in all that chapter 9 asks of a request.
func someRequests() []impl.Request {
	var out []impl.Request
	for _, texts := range [][]string{
		nil, {caching, ""}, {caching, "no-store"}, {caching, "max-age=5, No-Store=1"}, {caching, `x="no-store"`}, {caching, "private, public"},
		{allowed, "x"}, {allowed, ""}, {"Authorization", "x"}, {allowed, "x", caching, "public, s-maxage=3, must-revalidate"}, {allowed, "x", caching, "no-store"},
		{caching, "no-cache"}, {caching, "NO-Cache=x, max-age=9"}, {caching, `"no-cache"`}, {"pragma", "no-cache, no-store"},
		{caching, "max-age=0"}, {caching, "max-age=3"}, {caching, "max-age=100"}, {caching, "max-age=x"}, {caching, "max-age=9, max-age=2"}, {caching, "max-age=2147483647"}, {caching, "max-age=99999999999999999999"},
		{caching, "min-fresh=0"}, {caching, "min-fresh=2"}, {caching, "min-fresh"}, {caching, "min-fresh=200"}, {caching, "min-fresh=4", caching, "min-fresh=1"}, {caching, "min-fresh=2147483648"}, {caching, "min-fresh=99999999999999999999"},
		{caching, `Max-Age="4", Min-Fresh="1"`}, {caching, "max-age=4", "a", "b", caching, "min-fresh=1"}, {caching, "max-age =4, min-fresh =200"}, {caching, "s-maxage=1, max-stale=9, only-if-cached"}, {"max-age", "1", "min-fresh", "200"},
	} {
		for _, method := range []string{"GET", "GET", "PUT", "GET", "get", "GET", ""} {
			out = append(out, impl.Request{Method: method, Uri: "/", Fields: fieldsOf(texts...)})
		}
	}
	return out
}

func TestStorableAsReadAgain(t *testing.T) {
	said := [][]string{
		nil, {""}, {"public"}, {"private"}, {"public, private"}, {"private", "public"}, {"no-store"}, {"public, NO-STORE"}, {"max-age=5"}, {"max-age"}, {"s-maxage=5"}, {"s-maxage=x"},
		{"must-revalidate"}, {"must-revalidate", "max-age=0"}, {"no-cache"}, {`Private="x", public`}, {`x="private"`}, {`"public"`}, {"proxy-revalidate, max-age =3"}, {`x="`, `no-store, private"`},
	}
	varies := [][]string{nil, {""}, {"*"}, {"a, *"}, {"a", "*"}, {`"*"`}, {`"a`, `*"`}, {"a*"}, {"a"}, {" *"}}
	expires := [][]string{nil, {""}, {"0"}, {someDate}, {someDate, someDate}}
	allows := [][]string{nil, {"x"}}
	requests, turn, stored, refused := someRequests(), 0, 0, 0
	for _, r := range answersOf([]string{caching, "vary", "expires", allowed}, said, varies, expires, allows) {
		for _, r.Status = range []int{200, 203, 204, 206, 299, 300, 301, 302, 304, 404, 410, 500, 599, 199, 600, 0, -200} {
			for range 5 {
				q := requests[turn%len(requests)]
				turn++
				want := storableBy(q, r)
				if got := impl.Storable(q, r); got != want {
					t.Fatalf("Storable of %q and %d with %q is %v", q, r.Status, r.Fields, got)
				}
				if want {
					stored++
				} else {
					refused++
				}
			}
		}
	}
	if stored < 10000 || refused < 10000 {
		t.Errorf("only %d were stored, and %d not", stored, refused)
	}
}

func TestMustCheckTable(t *testing.T) {
	for _, c := range []struct {
		asked, told string
		age         int
		want        bool
	}{
		{"", "max-age=10", 0, false},
		{"", "max-age=10", 9, false},
		{"", "max-age=10", 10, true},
		{"", "max-age=10", 11, true},
		{"", "max-age=1", 0, false},
		{"", "max-age=0", 0, true},
		{"", "", 0, true},
		{"", "max-age=x", 0, true},
		{"", "max-age=3, s-maxage=10", 9, false},
		{"", "max-age=10, s-maxage=3", 3, true},
		{"", "max-age=10, max-age=3", 2, false},
		{"", "max-age=10, max-age=3", 3, true},
		{"", `max-age="10"`, 9, false},
		{"", `max-age="10"`, 10, true},
		{"", "max-age=10, must-revalidate, no-store, private", 9, false},

		{"no-cache", "max-age=10", 0, true},
		{"NO-Cache", "max-age=10", 0, true},
		{"no-cache=x", "max-age=10", 0, true},
		{"max-age=9, no-cache", "max-age=10", 0, true},
		{"", "max-age=10, no-cache", 0, true},
		{"", `no-cache="set-cookie", max-age=10`, 0, true},
		{"", "No-CACHE, max-age=10", 0, true},
		{"no-cache", "no-cache, max-age=10", 0, true},
		{`"no-cache"`, `"no-cache", max-age=10`, 0, false},
		{`x="no-cache"`, `x="no-cache", max-age=10`, 0, false},
		{"no-cache x", "no-cache =1, no-caches, max-age=10", 0, false},
		{"no-store", "max-age=10, no-store", 0, false},

		{"max-age=5", "max-age=10", 4, false},
		{"max-age=5", "max-age=10", 5, false},
		{"max-age=5", "max-age=10", 6, true},
		{"max-age=0", "max-age=10", 0, false},
		{"max-age=0", "max-age=10", 1, true},
		{"max-age=20", "max-age=10", 9, false},
		{"max-age=20", "max-age=10", 10, true},
		{"max-age=99999999999999999999", "max-age=10", 9, false},
		{"max-age=5, max-age=3", "max-age=10", 3, false},
		{"max-age=3, max-age=5", "max-age=10", 4, true},
		{"max-age", "max-age=10", 0, false},
		{"max-age", "max-age=10", 1, true},
		{"max-age=x", "max-age=10", 0, false},
		{"max-age=x", "max-age=10", 1, true},
		{"max-age=5, max-age=x", "max-age=10", 1, true},
		{"max-age=-5", "max-age=10", 1, true},
		{`max-age="5"`, "max-age=10", 5, false},
		{`max-age="5"`, "max-age=10", 6, true},
		{`"max-age=5", max-age =5`, "max-age=10", 6, false},
		{"s-maxage=5", "max-age=10", 6, false},

		{"min-fresh=4", "max-age=10", 5, false},
		{"min-fresh=4", "max-age=10", 6, false},
		{"min-fresh=4", "max-age=10", 7, true},
		{"min-fresh=0", "max-age=10", 9, false},
		{"min-fresh=0", "max-age=10", 10, true},
		{"min-fresh=1", "max-age=10", 9, false},
		{"min-fresh=10", "max-age=10", 0, false},
		{"min-fresh=10", "max-age=10", 1, true},
		{"min-fresh=11", "max-age=10", 0, true},
		{"min-fresh=99999999999999999999", "max-age=10", 0, true},
		{"min-fresh=2147483648", "max-age=2147483648", 0, false},
		{"min-fresh=99999999999999999999", "max-age=99999999999999999999", 0, false},
		{"min-fresh=2147483648", "max-age=2147483648", 5, false},
		{"min-fresh=2147483648", "max-age=2147483647", 5, true},
		{"min-fresh=5, min-fresh=4", "max-age=10", 6, false},
		{"min-fresh=4, min-fresh=5", "max-age=10", 7, true},
		{"min-fresh", "max-age=10", 9, false},
		{"min-fresh=x", "max-age=10", 9, false},
		{"min-fresh=x, min-fresh=9", "max-age=10", 9, false},
		{`min-fresh="4"`, "max-age=10", 6, false},
		{`min-fresh="4"`, "max-age=10", 7, true},
		{`"min-fresh=4", min-fresh =4`, "max-age=10", 7, false},
		{"", "max-age=10, min-fresh=4", 7, false},
		{"max-stale=9", "max-age=10", 10, true},

		{"max-age=6, min-fresh=4", "max-age=10", 6, false},
		{"max-age=5, min-fresh=4", "max-age=10", 6, true},
		{"max-age=6, min-fresh=5", "max-age=10", 6, true},
		{"only-if-cached", "max-age=10", 9, false},
	} {
		q, r := getOf(caching, c.asked), statusOf(200, caching, c.told)
		if got := impl.MustCheck(q, r, 100, 100, 100+c.age); got != c.want {
			t.Errorf("MustCheck where %q is asked and %q told is %v at an age of %d", c.asked, c.told, got, c.age)
		}
		// The age is the same whether it was told, or went by on the way.
		r.Fields = append(r.Fields, impl.Field{Name: "age", Value: strconv.Itoa(c.age)})
		if got := impl.MustCheck(q, r, 100, 100, 100); got != c.want {
			t.Errorf("MustCheck where %q is asked and %q told is %v at once at an age of %d", c.asked, c.told, got, c.age)
		}
		if got := impl.MustCheck(q, statusOf(200, caching, c.told), 100, 100+c.age, 100); got != c.want {
			t.Errorf("MustCheck where %q is asked and %q told is %v on its way for %d", c.asked, c.told, got, c.age)
		}
	}
}

func TestMustCheckOfOtherSources(t *testing.T) {
	day := impl.ShowDate
	for _, c := range []struct {
		asked           string
		texts           []string
		sent, came, now int
		want            bool
	}{
		{"", []string{"date", day(10), "expires", day(15)}, 10, 10, 14, false},
		{"", []string{"date", day(10), "expires", day(15)}, 10, 10, 15, true},
		{"", []string{"date", day(10), "expires", "0"}, 10, 10, 10, true},
		{"min-fresh=2", []string{"date", day(10), "expires", day(15)}, 10, 10, 13, false},
		{"min-fresh=2", []string{"date", day(10), "expires", day(15)}, 10, 10, 14, true},
		{"", []string{"date", day(100), "last-modified", day(50)}, 100, 100, 104, false},
		{"", []string{"date", day(100), "last-modified", day(50)}, 100, 100, 105, true},
		{"max-age=3", []string{"date", day(100), "last-modified", day(50)}, 100, 100, 104, true},
		{"", []string{"last-modified", day(50)}, 100, 100, 100, true},
		{"", []string{"date", day(10), caching, "max-age=5"}, 14, 14, 14, false},
		{"", []string{"date", day(10), caching, "max-age=5"}, 15, 15, 15, true},

		{"", []string{caching, "max-age=5"}, 100, 100, 0, false},
		{"", []string{caching, "max-age=5"}, 100, 100, -1, false},
		{"", []string{caching, "max-age=5"}, 100, 100, math.MinInt, false},
		{"", []string{caching, "max-age=5"}, 100, 100, math.MaxInt, true},
		{"", []string{caching, "max-age=5"}, -1, 100, 100, false},
		{"", []string{caching, "max-age=5"}, math.MinInt, 100, 104, false},
		{"", []string{caching, "max-age=5"}, 0, 100, 100, true},
		{"", []string{caching, "max-age=5"}, -1, -1, math.MaxInt, false},
		{"", []string{caching, "max-age=5"}, math.MinInt, math.MinInt, math.MaxInt, false},
		{"", []string{caching, "max-age=5"}, math.MaxInt, math.MaxInt, math.MaxInt, false},
		{"max-age=0", []string{caching, "max-age=5"}, math.MinInt, math.MinInt, math.MaxInt, false},
		{"min-fresh=5", []string{caching, "max-age=5"}, math.MinInt, math.MinInt, math.MaxInt, false},
		{"min-fresh=6", []string{caching, "max-age=5"}, math.MinInt, math.MinInt, math.MaxInt, true},
		{"", []string{caching, "max-age=99999999999"}, 0, 0, maxSec - 1, false},
		{"", []string{caching, "max-age=99999999999"}, 0, 0, maxSec, true},
		{"", []string{caching, "max-age=99999999999"}, 0, 0, math.MaxInt, true},
		{"max-age=2147483647", []string{caching, "max-age=99999999999"}, 0, 0, maxSec - 1, false},
		{"max-age=2147483646", []string{caching, "max-age=99999999999"}, 0, 0, maxSec - 1, true},
		{"min-fresh=1", []string{caching, "max-age=99999999999"}, 0, 0, maxSec - 1, false},
		{"min-fresh=9", []string{caching, "max-age=99999999999"}, 0, 0, maxSec - 1, false},
		{"min-fresh=9", []string{caching, "max-age=99999999999"}, 0, 0, math.MaxInt, true},
		{"", nil, 0, 0, 0, true},
		{"", nil, -1, -1, -1, true},
		{"", nil, math.MinInt, math.MinInt, math.MinInt, true},
	} {
		for _, status := range []int{200, 304, 500, 199, 600, 0, -1} {
			if got := impl.MustCheck(getOf(caching, c.asked), statusOf(status, c.texts...), c.sent, c.came, c.now); got != c.want {
				t.Errorf("MustCheck of %d with %q where %q is asked at %d, came at %d, is %v at %d", status, c.texts, c.asked, c.sent, c.came, got, c.now)
			}
		}
	}
}

// Each of the few numbers around an edge meets each other one.
func TestMustCheckAroundEachEdge(t *testing.T) {
	const none = -1
	said := func(name string, n int) string {
		if n == none {
			return ""
		}
		return name + "=" + strconv.Itoa(n)
	}
	for lives := range 6 {
		for age := range 7 {
			for most := none; most < 7; most++ {
				for least := none; least < 7; least++ {
					q := getOf(caching, said("max-age", most), caching, said("min-fresh", least))
					want := lives <= age || most != none && age > most || least != none && lives < age+least
					if got := impl.MustCheck(q, statusOf(200, caching, said("max-age", lives)), 50, 50, 50+age); got != want {
						t.Errorf("MustCheck where %q is asked is %v with a lifetime of %d at an age of %d", q.Fields, got, lives, age)
					}
				}
			}
		}
	}
}

// mustCheckBy reads the chapter's words once more, in great numbers.
func mustCheckBy(q impl.Request, r impl.Response, asked, came, now int) bool {
	if hasBy(q.Fields, "no-cache") || hasBy(r.Fields, "no-cache") {
		return true
	}
	said := directivesBy(q.Fields)
	age, lives := big.NewInt(int64(ageBy(r, asked, came, now))), big.NewInt(int64(lifetimeBy(r)))
	if most, is := leastBy(said, "max-age"); is && age.Cmp(big.NewInt(int64(most))) > 0 {
		return true
	}
	if least, is := leastBy(said, "min-fresh"); is && lives.Cmp(secBy(new(big.Int).Add(age, big.NewInt(int64(least))))) < 0 {
		return true
	}
	return lives.Cmp(age) <= 0
}

func TestMustCheckAsReadAgain(t *testing.T) {
	times := append(manyNumbers(), 95, 100, 101, 102, 103, 104, 105, 106, 110)
	requests, turn, checked, told := someRequests(), 0, 0, 0
	for _, r := range someAnswers() {
		if turn%9 == 0 {
			r.Fields = append(r.Fields, impl.Field{Name: caching, Value: `x="no-cache", No-Cache`})
		}
		for range 13 {
			turn++
			asked, came := times[turn*7%len(times)], times[turn*11%len(times)]
			if turn%3 > 0 {
				asked, came = 100, 100+turn%4
			}
			now := times[turn*13%len(times)]
			if turn%5 > 0 {
				now = came + turn%7
			}
			q := requests[turn%len(requests)]
			want := mustCheckBy(q, r, asked, came, now)
			if got := impl.MustCheck(q, r, asked, came, now); got != want {
				t.Fatalf("MustCheck of %q where %q is asked, asked for at %d, that came at %d, is %v at %d", r.Fields, q.Fields, asked, came, got, now)
			}
			if want {
				checked++
			} else {
				told++
			}
		}
	}
	if checked < 1000 || told < 1000 {
		t.Errorf("only %d had to be checked, and %d not", checked, told)
	}
}

// waysToSay tells values in which that word is said, alone and among others.
func waysToSay(word string) []string {
	great := strings.ToUpper(word)
	return []string{
		word, great, word[:1] + great[1:], word + "=", word + "=0", word + "=5", word + `="x, y"`, word + "," + word, "public, " + word, word + ", max-age=9", ",, " + word + " ,", `x="y, z", ` + word, "a b, " + word, "=," + word, "s-maxage=9," + word + ",b",
	}
}

// withSaid tells these fields, and cache-control of that value at each place
// among them.
func withSaid(l []impl.Field, value string) [][]impl.Field {
	var out [][]impl.Field
	for i := range len(l) + 1 {
		out = append(out, slices.Insert(slices.Clone(l), i, impl.Field{Name: caching, Value: value}))
	}
	return out
}

func storableAnswers() []impl.Response {
	return []impl.Response{
		statusOf(200), statusOf(410), statusOf(204, "vary", "a", "etag", `"a"`), statusOf(500, "expires", "0"), statusOf(302, caching, "public"),
		statusOf(200, caching, "public, max-age=9", "expires", someDate), statusOf(404, caching, "s-maxage=9", caching, "must-revalidate", "vary", `"*"`),
		{Status: 200, Fields: slices.Concat(fieldsOf(caching, "public, s-maxage=5"), numbered(9)), Body: strings.Repeat("b", 60)},
	}
}

func TestWithNoStoreNothingIsStorable(t *testing.T) {
	asks := []impl.Request{getOf(), getOf("a", "b"), getOf(caching, "max-age=5", "vary", "*"), getOf(caching, "public", caching, "no-cache"), {Method: "GET"}}
	for _, r := range storableAnswers() {
		for _, q := range asks {
			if !impl.Storable(q, r) {
				t.Fatalf("Storable of %q and %d with %q is false", q, r.Status, r.Fields)
			}
			for _, value := range waysToSay("no-store") {
				for _, l := range withSaid(q.Fields, value) {
					if impl.Storable(impl.Request{Method: q.Method, Uri: q.Uri, Fields: l}, r) {
						t.Errorf("Storable of %d with %q is true where %q is asked", r.Status, r.Fields, l)
					}
				}
				for _, l := range withSaid(r.Fields, value) {
					told := impl.Response{Status: r.Status, Fields: l, Body: r.Body}
					if !impl.ResponseOk(told) || impl.Storable(q, told) {
						t.Errorf("Storable of %d with %q is true, or it is not right", r.Status, l)
					}
					if both := (impl.Request{Method: "GET", Uri: "/", Fields: l}); impl.Storable(both, told) {
						t.Errorf("Storable of %q on both sides is true", l)
					}
				}
			}
		}
	}
}

// What private says is not taken back by a public beside it.
func TestWithPrivateNothingIsStorable(t *testing.T) {
	for _, r := range storableAnswers() {
		for _, value := range waysToSay("private") {
			for _, l := range withSaid(r.Fields, value) {
				told := impl.Response{Status: r.Status, Fields: l, Body: r.Body}
				if !impl.ResponseOk(told) || impl.Storable(getOf(), told) {
					t.Errorf("Storable of %d with %q is true, or it is not right", r.Status, l)
				}
				if !impl.Storable(impl.Request{Method: "GET", Uri: "/", Fields: l}, r) {
					t.Errorf("Storable of %d with %q is false where %q is asked", r.Status, r.Fields, l)
				}
			}
		}
	}
}

func TestWithNoCacheAllMustBeChecked(t *testing.T) {
	answers := []impl.Response{statusOf(200, caching, "max-age=9"), statusOf(500, "date", impl.ShowDate(100), "expires", impl.ShowDate(200), "age", "3"), statusOf(0, caching, "s-maxage=9, public", "vary", "*")}
	whens := []int{math.MinInt, -1, 0, 99, 100, 101, 108, 109, maxSec, math.MaxInt}
	for _, r := range answers {
		for _, q := range []impl.Request{{}, getOf(), getOf("a", "b"), getOf(caching, "max-age=9, min-fresh=1"), {Method: "PUT", Fields: fieldsOf(caching, "only-if-cached")}} {
			if impl.MustCheck(q, r, 100, 100, 100) {
				t.Fatalf("MustCheck of %q where %q is asked is true at once", r.Fields, q.Fields)
			}
			for _, value := range waysToSay("no-cache") {
				for _, now := range whens {
					for _, l := range withSaid(q.Fields, value) {
						if !impl.MustCheck(impl.Request{Method: q.Method, Fields: l}, r, 100, 100, now) {
							t.Errorf("MustCheck of %q where %q is asked is false at %d", r.Fields, l, now)
						}
					}
					for _, l := range withSaid(r.Fields, value) {
						if !impl.MustCheck(q, impl.Response{Status: r.Status, Fields: l}, 100, 100, now) {
							t.Errorf("MustCheck of %q where %q is asked is false at %d", l, q.Fields, now)
						}
					}
				}
			}
		}
	}
}

func TestWhatMustBeCheckedMustBeLater(t *testing.T) {
	requests, comings := someRequests(), []int{0, 1, 98, 100, 104, 2000000000 - 1, maxSec - 5, maxSec + 5, math.MaxInt - 4*maxSec, -1, math.MinInt}
	turned, never := 0, 0
	for i, r := range someAnswers() {
		for j := range 4 {
			q, came := requests[(i*4+j)%len(requests)], comings[(i*7+j)%len(comings)]
			asked := max(came, math.MinInt+9) - i%4 + 1
			moments := []int{math.MinInt, -1, 0, 1, maxSec, math.MaxInt}
			if came >= 0 {
				moments = walkOf(came)
			}
			must := false
			for k, now := range moments {
				before := must
				must = impl.MustCheck(q, r, asked, came, now)
				if before && !must {
					t.Fatalf("%q where %q is asked, asked for at %d, that came at %d, must not be checked any more at %d", r.Fields, q.Fields, asked, came, now)
				}
				if k > 0 && must && !before {
					turned++
				}
			}
			if came >= 0 && !must {
				t.Fatalf("%q where %q is asked, that came at %d, never must be checked", r.Fields, q.Fields, came)
			}
			if !must {
				never++
			}
		}
	}
	if turned < 500 || never < 50 {
		t.Errorf("only %d had to be checked after a while, and %d never", turned, never)
	}
}

// What is not fresh must be checked; and what is fresh only where something
// else asks for it.
func TestMustCheckWithoutAWordIsNotFresh(t *testing.T) {
	for i, r := range someAnswers() {
		for _, now := range []int{0, 100, 103, 104, 105, 300, maxSec, math.MaxInt} {
			asked, came := 100-i%3, 100+i%4
			if got := impl.MustCheck(getOf("a", "b"), r, asked, came, now); got == impl.IsFresh(r, asked, came, now) {
				t.Fatalf("MustCheck of %q that came at %d is %v at %d", r.Fields, came, got, now)
			}
			if !impl.IsFresh(r, asked, came, now) && !impl.MustCheck(getOf(caching, "max-age=99999999999, min-fresh=0, max-stale"), r, asked, came, now) {
				t.Fatalf("MustCheck of %q that came at %d is false at %d", r.Fields, came, now)
			}
		}
	}
}

func TestOnlyStoredTable(t *testing.T) {
	for _, value := range waysToSay("only-if-cached") {
		for _, l := range withSaid(fieldsOf("a", "b", caching, "max-age=5"), value) {
			for _, method := range []string{"GET", "PUT", ""} {
				if !impl.OnlyStored(impl.Request{Method: method, Uri: "/", Fields: l}) {
					t.Errorf("OnlyStored of %q is false", l)
				}
			}
		}
	}
	for _, l := range [][]impl.Field{
		nil, {}, numbered(20), fieldsOf(caching, ""), fieldsOf(caching, "no-store, no-cache, max-age=0"), fieldsOf(caching, `"only-if-cached"`), fieldsOf(caching, `x="only-if-cached"`), fieldsOf(caching, "x=only-if-cached"),
		fieldsOf(caching, "only-if-cached =1"), fieldsOf(caching, "only-if-cached x"), fieldsOf(caching, "only-if-cache, only-if-cacheds, only-if, cached"), fieldsOf(caching, `x="`, caching, `only-if-cached"`),
		fieldsOf("Cache-Control", "only-if-cached"), fieldsOf("pragma", "only-if-cached"), fieldsOf("only-if-cached", "1"), fieldsOf("", "only-if-cached"),
	} {
		if impl.OnlyStored(impl.Request{Method: "GET", Uri: "/", Fields: l}) {
			t.Errorf("OnlyStored of %q is true", l)
		}
	}
	if impl.OnlyStored(impl.Request{}) || impl.OnlyStored(impl.Request{Method: "only-if-cached", Uri: "only-if-cached", Body: "cache-control: only-if-cached"}) {
		t.Error("OnlyStored of what is no field is true")
	}
}

// spared tells these fields with others in the spare room behind them, and all
// of that room.
func spared(l []impl.Field) ([]impl.Field, []impl.Field) {
	room := append(slices.Clone(l), fieldsOf(caching, "no-store, no-cache, private, only-if-cached, max-age=0", "vary", "*", allowed, "x", "expires", "0", "age", "9", "etag", "x", "last-modified", someDate, "if-none-match", "*", "if-modified-since", someDate)...)
	return room[:len(l)], room
}

func TestPolicyLeavesWhatItIsGiven(t *testing.T) {
	for _, r := range storableAnswers() {
		for _, q := range someRequests() {
			var asked, told []impl.Field
			ask, tell := q, r
			ask.Fields, asked = spared(q.Fields)
			tell.Fields, told = spared(r.Fields)
			askedBefore, toldBefore := slices.Clone(asked), slices.Clone(told)
			if impl.Storable(ask, tell) != impl.Storable(q, r) || impl.MustCheck(ask, tell, 100, 100, 102) != impl.MustCheck(q, r, 100, 100, 102) || impl.OnlyStored(ask) != impl.OnlyStored(q) {
				t.Errorf("what stands behind %q or %q counts", q.Fields, r.Fields)
			}
			if !slices.Equal(asked, askedBefore) || !slices.Equal(told, toldBefore) {
				t.Errorf("%q and %q are %q and %q behind", askedBefore, toldBefore, asked, told)
			}
		}
	}
}

// A long field must not cost its square.
func TestPolicyOfMuch(t *testing.T) {
	many := 1 << 16
	long := func(piece string) string { return strings.Repeat(piece, many) }
	for _, piece := range []string{"a,", "a=1,", "=", ",", " ", `\`, "max-age=7,", `"x",`} {
		q := getOf(caching, long(piece)+",only-if-cached", allowed, long("x"))
		if !impl.Storable(q, statusOf(200, caching, "public")) || impl.Storable(q, statusOf(200)) || !impl.OnlyStored(q) {
			t.Errorf("many %q are not read to their end", piece)
		}
		if r := statusOf(200, caching, long(piece)+",max-age=7"); impl.MustCheck(q, r, 100, 100, 106) || !impl.MustCheck(q, r, 100, 100, 108) {
			t.Errorf("MustCheck of many %q is not as of one", piece)
		}
		if impl.Storable(getOf(), statusOf(200, caching, "public", "vary", long(piece))) {
			t.Errorf("Storable of a vary of many %q is true", piece)
		}
	}
	q := getOf()
	for range 1 << 12 {
		q.Fields = append(q.Fields, impl.Field{Name: caching, Value: "max-age=7"})
	}
	if impl.MustCheck(q, statusOf(200, caching, "max-age=9"), 0, 0, 7) || !impl.MustCheck(q, statusOf(200, caching, "max-age=9"), 0, 0, 8) || impl.OnlyStored(q) {
		t.Error("many fields are not read as one")
	}
	if impl.IsSafe(long("GET")) || impl.Storable(impl.Request{Method: long("GET")}, statusOf(200)) {
		t.Error("a long method is one that is named")
	}
}
