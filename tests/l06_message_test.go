package tests

import (
	"math"
	"regexp"
	"slices"
	"strconv"
	"strings"
	"testing"

	"loop.example/g01402/impl"
)

const (
	coded   = "transfer-encoding"
	counted = "content-length"
)

func sameRequest(a, b impl.Request) bool {
	return a.Method == b.Method && a.Uri == b.Uri && slices.Equal(a.Fields, b.Fields) && a.Body == b.Body
}

func sameResponse(a, b impl.Response) bool {
	return a.Status == b.Status && slices.Equal(a.Fields, b.Fields) && a.Body == b.Body
}

func readsRequest(t *testing.T, s string, want impl.Request, many, is int) {
	t.Helper()
	if got, used, code := impl.ReadRequest(s); !sameRequest(got, want) || used != many || code != is {
		t.Fatalf("ReadRequest(%.300q) is %q, %d, %d, not %q, %d, %d", s, got, used, code, want, many, is)
	}
}

func readsResponse(t *testing.T, s string, want impl.Response, many, is int) {
	t.Helper()
	if got, used, code := impl.ReadResponse(s); !sameResponse(got, want) || used != many || code != is {
		t.Fatalf("ReadResponse(%.300q) is %v, %d, %d, not %v, %d, %d", s, got, used, code, want, many, is)
	}
}

func noRequest(t *testing.T, s string, is int) {
	t.Helper()
	readsRequest(t, s, impl.Request{}, 0, is)
}

func noResponse(t *testing.T, s string, is int) {
	t.Helper()
	readsResponse(t, s, impl.Response{}, 0, is)
}

func TestUriOkTable(t *testing.T) {
	for _, c := range []struct {
		s    string
		want bool
	}{
		{"/", true}, {"//", true}, {"/a", true}, {"/a?b=c#d", true}, {"/a,b;c", true}, {"/%20", true}, {`/"\`, true},
		{"/" + strings.Repeat("u", 18), true}, {"/" + strings.Repeat("u", 19), true}, {"/" + strings.Repeat("u", 20), false}, {"/" + strings.Repeat("u", 1000), false},
		{strings.Repeat("/", 20), true}, {strings.Repeat("/", 21), false}, {"/" + strings.Repeat("\u00e9", 9), false},
		{"", false}, {"a", false}, {"*", false}, {"a/", false}, {" /", false}, {"/ ", false}, {"/a b", false}, {"/a\tb", false},
		{"http://a/", false}, {"/\r\n", false}, {"\\", false},
	} {
		if got := impl.UriOk(c.s); got != c.want {
			t.Errorf("UriOk(%q) is %v", c.s, got)
		}
	}
}

func TestUriOkEveryByte(t *testing.T) {
	for b := range 256 {
		sign, is := string([]byte{byte(b)}), b >= 33 && b <= 126
		for _, s := range []string{"/" + sign, "/" + sign + "x", "/x" + sign, "/" + strings.Repeat("x", 18) + sign} {
			if got := impl.UriOk(s); got != is {
				t.Errorf("UriOk(%q) is %v", s, got)
			}
		}
		for _, s := range []string{sign, sign + "/", sign + "x"} {
			if got := impl.UriOk(s); got != (sign == "/") {
				t.Errorf("UriOk(%q) is %v", s, got)
			}
		}
	}
}

// ownFields says of lists whether a message may have them.
var ownFields = []struct {
	what string
	l    []impl.Field
	want bool
}{
	{"none", nil, true},
	{"the empty list", []impl.Field{}, true},
	{"one", fieldsOf("accept", "b"), true},
	{"one twice", fieldsOf("a", "1", "a", "1"), true},
	{"10", numbered(10), true},
	{"11", numbered(11), true},
	{"12", numbered(12), false},
	{"13", numbered(13), false},
	{"a name with a large letter", fieldsOf("Accept", "b"), false},
	{"a name of 24 bytes", fieldsOf(strings.Repeat("n", 24), "b"), true},
	{"a name of 25 bytes", fieldsOf(strings.Repeat("n", 25), "b"), false},
	{"a value of 60 bytes", fieldsOf("a", strings.Repeat("v", 60)), true},
	{"a value of 61 bytes", fieldsOf("a", strings.Repeat("v", 61)), false},
	{"a value with a line's end", fieldsOf("a", "b\r\nc: d"), false},
	{"a wrong one at last", append(numbered(10), impl.Field{Name: "a", Value: " "}), false},
	{"content-length", fieldsOf(counted, "0"), false},
	{"content-length at last", append(numbered(3), fieldsOf(counted, "2")...), false},
	{"content-length among others", fieldsOf("a", "1", counted, "2", "b", "3"), false},
	{"transfer-encoding", fieldsOf(coded, "chunked"), false},
	{"transfer-encoding at last", append(numbered(10), fieldsOf(coded, "")...), false},
	{"both", fieldsOf(coded, "chunked", counted, "2"), false},
	{"names that are near to them", fieldsOf("content-lengt", "1", "content-lengths", "1", "transfer-encodin", "1", "transfer-encoding2", "1"), true},
	{"content-length with large letters", fieldsOf("Content-Length", "0"), false},
}

func TestRequestOkTable(t *testing.T) {
	right := impl.Request{Method: "GET", Uri: "/a"}
	for _, c := range []struct {
		method string
		want   bool
	}{
		{"GET", true}, {"get", true}, {"X", true}, {"POSTPOSTPO", true}, {"POSTPOSTPOS", false}, {strings.Repeat("M", 1000), false},
		{tokenText[len(tokenText)-10:], true}, {"", false}, {"G T", false}, {"G@T", false}, {"GET ", false}, {" GET", false}, {"GET\r\n", false}, {"G\xc9T", false}, {"/", false},
	} {
		r := right
		r.Method = c.method
		if got := impl.RequestOk(r); got != c.want {
			t.Errorf("RequestOk with the method %q is %v", c.method, got)
		}
	}
	for _, uri := range []string{"/", "/a?b", strings.Repeat("/", 20), strings.Repeat("/", 21), "", "a", "/a b", "/\x7f", "/~", "/!"} {
		r := right
		r.Uri = uri
		if got := impl.RequestOk(r); got != impl.UriOk(uri) {
			t.Errorf("RequestOk with the Uri %q is %v", uri, got)
		}
	}
	for _, c := range ownFields {
		r := right
		r.Fields = c.l
		if got := impl.RequestOk(r); got != c.want {
			t.Errorf("RequestOk with these fields, %s, is %v", c.what, got)
		}
	}
	for _, n := range []int{0, 1, 59, 60, 61, 62, 1000} {
		r := right
		r.Body = bodyOfBytes(n)
		if got := impl.RequestOk(r); got != (n <= 60) {
			t.Errorf("RequestOk with a body of %d bytes is %v", n, got)
		}
	}
	if impl.RequestOk(impl.Request{}) {
		t.Error("RequestOk of the zero one")
	}
}

func TestShowRequestTable(t *testing.T) {
	full := strings.Repeat("w", 60)
	for _, c := range []struct {
		r    impl.Request
		want string
	}{
		{impl.Request{Method: "GET", Uri: "/"}, "GET / HTTP/1.1\r\ncontent-length: 0\r\n\r\n"},
		{impl.Request{Method: "get", Uri: "/a?b", Fields: []impl.Field{}}, "get /a?b HTTP/1.1\r\ncontent-length: 0\r\n\r\n"},
		{impl.Request{Method: "PUT", Uri: "/a", Fields: fieldsOf("accept", "b"), Body: "xy"}, "PUT /a HTTP/1.1\r\naccept: b\r\ncontent-length: 2\r\n\r\nxy"},
		{impl.Request{Method: "PUT", Uri: "/a", Fields: fieldsOf("b", "", "a", "1", "b", "2")}, "PUT /a HTTP/1.1\r\nb: \r\na: 1\r\nb: 2\r\ncontent-length: 0\r\n\r\n"},
		{impl.Request{Method: "POSTPOSTPO", Uri: "/", Body: full}, "POSTPOSTPO / HTTP/1.1\r\ncontent-length: 60\r\n\r\n" + full},
		{impl.Request{Method: "POST", Uri: "/", Body: "\r\n\r\nGET / HTTP/1.1\r\n\r\n"}, "POST / HTTP/1.1\r\ncontent-length: 22\r\n\r\n\r\n\r\nGET / HTTP/1.1\r\n\r\n"},
		{impl.Request{Method: "POST", Uri: "/", Body: full + "w"}, ""},
		{impl.Request{Method: "POSTPOSTPOS", Uri: "/"}, ""},
		{impl.Request{Method: "", Uri: "/"}, ""},
		{impl.Request{Method: "GET", Uri: ""}, ""},
		{impl.Request{Method: "GET", Uri: "/a b"}, ""},
		{impl.Request{Method: "GET", Uri: strings.Repeat("/", 21)}, ""},
		{impl.Request{}, ""},
	} {
		if got := impl.ShowRequest(c.r); got != c.want {
			t.Errorf("ShowRequest(%q) is %q, not %q", c.r, got, c.want)
		}
	}
	for _, c := range ownFields {
		got := impl.ShowRequest(impl.Request{Method: "GET", Uri: "/a", Fields: c.l})
		if (got != "") != c.want {
			t.Errorf("ShowRequest with these fields, %s, is %q", c.what, got)
		}
		lines := 3 + len(c.l)
		if c.want && strings.Count(got, "\r\n") != lines {
			t.Errorf("ShowRequest with these fields, %s, has not %d lines: %q", c.what, lines, got)
		}
	}
}

// messageFields tells lists of fields that a message may have.
func messageFields() [][]impl.Field {
	return slices.DeleteFunc(rightLists(), func(l []impl.Field) bool { return len(l) > 11 })
}

// messageBodies tells bodies of every length, also such as look like a message.
func messageBodies() []string {
	bodies := []string{"\r\n\r\n", "GET / HTTP/1.1\r\n\r\n", "HTTP/1.1 200 OK\r\n\r\n", "0\r\n\r\n", "3\r\nabc\r\n0\r\n\r\n", strings.Repeat("\r\n", 30)}
	for n := range 61 {
		bodies = append(bodies, bodyOfBytes(n))
	}
	return bodies
}

func rightRequests() []impl.Request {
	var out []impl.Request
	for i, l := range messageFields() {
		out = append(out, impl.Request{Method: []string{"GET", "PUT", "x"}[i%3], Uri: []string{"/", "/a", "/a?b=!~"}[i/3%3], Fields: l, Body: bodyOfBytes(i % 61)})
	}
	for _, body := range messageBodies() {
		out = append(out, impl.Request{Method: "POST", Uri: "/a", Body: body})
	}
	for i := range len(tokenText) {
		out = append(out, impl.Request{Method: roundOf(tokenText[i:]+tokenText, i%10+1), Uri: "/"})
	}
	for b := 33; b <= 126; b++ {
		out = append(out, impl.Request{Method: "GET", Uri: "/" + roundOf(string([]byte{byte(b), '/'}), b%20)})
	}
	wide := impl.Request{Method: "DELETEALLO", Uri: strings.Repeat("/", 20), Body: strings.Repeat("w", 60)}
	for range 11 {
		wide.Fields = append(wide.Fields, impl.Field{Name: strings.Repeat("n", 24), Value: strings.Repeat("v", 60)})
	}
	return append(out, wide)
}

// behindRequests tells what may stand behind a message, whole requests among it.
func behindRequests() []string {
	next := impl.ShowRequest(impl.Request{Method: "PUT", Uri: "/next", Body: "next"})
	return append(slices.Clone(behinds), next, next[:20], next+next, "GET / HTTP/1.1\r\n\r\n", "\r\n\r\n", "HTTP/1.1 200 OK\r\n\r\n", "a: b\r\n\r\n", strings.Repeat("x", 2000))
}

func TestReadRequestTakesWhatIsShown(t *testing.T) {
	for _, r := range rightRequests() {
		shown := impl.ShowRequest(r)
		if shown == "" {
			t.Fatalf("ShowRequest(%q) is empty", r)
		}
		for _, behind := range behindRequests() {
			readsRequest(t, shown+behind, r, len(shown), impl.RqOk)
		}
	}
}

func TestReadRequestWantsMoreOfABeginning(t *testing.T) {
	for _, r := range rightRequests() {
		shown := impl.ShowRequest(r)
		for k := range len(shown) {
			noRequest(t, shown[:k], impl.RqMore)
		}
	}
}

// Requests behind each other are read off one by one, however each of them
// says where its body ends.
func TestReadRequestBehindARequest(t *testing.T) {
	texts := []string{
		"GET /a HTTP/1.1\r\n\r\n",
		"GET /b HTTP/1.1\r\ncontent-length: 0\r\n\r\n",
		"PUT /c HTTP/1.1\r\nContent-Length: 4\r\n\r\n\r\n\r\n",
		"PUT /d HTTP/1.1\r\ntransfer-encoding: chunked\r\n\r\n2\r\nab\r\n0\r\n\r\n",
		"PUT /e HTTP/1.1\r\ncontent-length: 18\r\n\r\nGET / HTTP/1.1\r\n\r\n",
		"PUT /f HTTP/1.1\r\na: b\r\ntransfer-encoding: Chunked\r\n\r\n0\r\n\r\n",
	}
	wants := []impl.Request{
		{Method: "GET", Uri: "/a"}, {Method: "GET", Uri: "/b"}, {Method: "PUT", Uri: "/c", Body: "\r\n\r\n"}, {Method: "PUT", Uri: "/d", Body: "ab"},
		{Method: "PUT", Uri: "/e", Body: "GET / HTTP/1.1\r\n\r\n"}, {Method: "PUT", Uri: "/f", Fields: fieldsOf("a", "b")},
	}
	for i, first := range texts {
		for j, second := range texts {
			readsRequest(t, first+second, wants[i], len(first), impl.RqOk)
			_, used, _ := impl.ReadRequest(first + second)
			readsRequest(t, (first + second)[used:], wants[j], len(second), impl.RqOk)
		}
	}
}

// A head that ends in what stands behind is no end of the first one.
func TestReadRequestCutAheadOfARequest(t *testing.T) {
	next := "GET / HTTP/1.1\r\n\r\n"
	noRequest(t, "GET / HTTP/1.1\r\n"+next, impl.RqBad)
	noRequest(t, "GET / HTTP/1.1"+next, impl.RqBad)
	noRequest(t, "GET /"+next, impl.RqBad)
	noRequest(t, "\r\n"+next, impl.RqBad)
	noRequest(t, "PUT / HTTP/1.1\r\ncontent-length: 19\r\n\r\n"+next, impl.RqMore)
	noRequest(t, "PUT / HTTP/1.1\r\ntransfer-encoding: chunked\r\n\r\n"+next, impl.RqBad)
}

func TestReadRequestTable(t *testing.T) {
	full := strings.Repeat("w", 60)
	wide := "GET / HTTP/1.1\r\na:" + strings.Repeat(" ", 2000) + "b\r\n\r\n"
	for _, c := range []struct {
		s    string
		want impl.Request
		used int
	}{
		{"GET / HTTP/1.1\r\n\r\n", impl.Request{Method: "GET", Uri: "/"}, 18},
		{"GET / HTTP/1.1\r\n\r\nrest", impl.Request{Method: "GET", Uri: "/"}, 18},
		{"GET / HTTP/1.1\r\nA-B:\tc \r\n\r\n", impl.Request{Method: "GET", Uri: "/", Fields: fieldsOf("a-b", "c")}, 27},
		{"PUT /a HTTP/1.1\r\nContent-Length: 03\r\nx:y\r\n\r\nabcd", impl.Request{Method: "PUT", Uri: "/a", Fields: fieldsOf("x", "y"), Body: "abc"}, 47},
		{"PUT / HTTP/1.1\r\na: 1\r\nTransfer-Encoding: CHUNKED\r\nb: 2\r\n\r\n2\r\nab\r\n1\r\nc\r\n0\r\n\r\n!", impl.Request{Method: "PUT", Uri: "/", Fields: fieldsOf("a", "1", "b", "2"), Body: "abc"}, 76},
		{"PUT / HTTP/1.1\r\ntransfer-encoding: chunked\r\n\r\n3c\r\n" + full + "\r\n0\r\n\r\n", impl.Request{Method: "PUT", Uri: "/", Body: full}, 117},
		{"PUT / HTTP/1.1\r\ncontent-length: 60\r\n\r\n" + full + "w", impl.Request{Method: "PUT", Uri: "/", Body: full}, 98},
		{wide, impl.Request{Method: "GET", Uri: "/", Fields: fieldsOf("a", "b")}, len(wide)},
		{"POSTPOSTPO " + strings.Repeat("/", 20) + " HTTP/1.1\r\n\r\n", impl.Request{Method: "POSTPOSTPO", Uri: strings.Repeat("/", 20)}, 44},
		{"get /!~ HTTP/1.1\r\n\r\n\r\n", impl.Request{Method: "get", Uri: "/!~"}, 20},
	} {
		readsRequest(t, c.s, c.want, c.used, impl.RqOk)
	}
}

func TestReadRequestWrong(t *testing.T) {
	for _, line := range []string{
		"", "GET", "GET /", "GET/ HTTP/1.1", "GET /HTTP/1.1", "GET/HTTP/1.1", " ", "  ", "   ",
		"GET / HTTP/1.1 ", "GET / HTTP/1.1 x", "GET  / HTTP/1.1", "GET /  HTTP/1.1", " GET / HTTP/1.1", "GET / a HTTP/1.1",
		"GET\t/\tHTTP/1.1", "GET\t/ HTTP/1.1", "GET /\tHTTP/1.1", "GET / HTTP/1.1\t",
		"GET / ", "GET / HTTP/1.0", "GET / HTTP/1.10", "GET / HTTP/1", "GET / HTTP/2", "GET / http/1.1", "GET / HTTP/1.1\r", "GET / HTTP/1.1\n", "GET / HTTPS/1.1",
		"G@T / HTTP/1.1", "POSTPOSTPOS / HTTP/1.1", " / HTTP/1.1", "GET: / HTTP/1.1", "\xff / HTTP/1.1",
		"GET  HTTP/1.1", "GET a HTTP/1.1", "GET * HTTP/1.1", "GET /\x7f HTTP/1.1", "GET /\x1f HTTP/1.1", "GET /\xe9 HTTP/1.1", "GET " + strings.Repeat("/", 21) + " HTTP/1.1", "GET http://a/ HTTP/1.1",
		"HTTP/1.1 200 OK", "HTTP/1.1 / GET",
	} {
		// Bodies that are lacking do not help: the head is refused ahead of them.
		for _, behind := range []string{"\r\n\r\n", "\r\na: b\r\n\r\nrest", "\r\ncontent-length: 5\r\n\r\n", "\r\ntransfer-encoding: chunked\r\n\r\n"} {
			noRequest(t, line+behind, impl.RqBad)
		}
	}
	for _, head := range []string{
		"bad", ":", ": b", "a b: c", "a : c", " a: b", "a: b\r\nbad", "a: \x7f", "a: b\rc", "a: b\nc", "a: \x00",
		strings.Repeat("n", 25) + ": b", "a: " + strings.Repeat("v", 61),
		"content-length: x", "content-length:", "content-length: -1", "content-length: +1", "content-length: 1 1", "content-length: 0x1", "content-length: 61", "content-length: 99999999999999999999",
		"content-length: 1\r\ncontent-length: 1", "content-length: 5, 5", "bad\r\ncontent-length: 5",
		"transfer-encoding: gzip", "transfer-encoding:", "transfer-encoding: gzip, chunked", "transfer-encoding: chunked\r\ntransfer-encoding: chunked",
		"content-length: 0\r\ntransfer-encoding: chunked", "Transfer-Encoding: chunked\r\nContent-Length: 5", "content-length: 3\r\ntransfer-encoding: gzip",
	} {
		for _, behind := range []string{"", "abc", "0\r\n\r\n", "3\r\nabc\r\n0\r\n\r\n"} {
			noRequest(t, "GET / HTTP/1.1\r\n"+head+"\r\n\r\n"+behind, impl.RqBad)
		}
	}
	for _, behind := range []string{"x\r\n", "3d\r\n", "123456789", "2\r\nabcd", "0\r\nxx", "-1\r\n", "\r\n"} {
		noRequest(t, "PUT / HTTP/1.1\r\ntransfer-encoding: chunked\r\n\r\n"+behind, impl.RqBad)
	}
}

func TestReadRequestWantsMore(t *testing.T) {
	for _, s := range []string{
		"", "\r\n", "\r\n\r", "\n\n", "x", "x\r\n", "GET", "GET / HTTP/1.1\r\n", "GET / HTTP/1.1\r\n\r", "GET / HTTP/1.1\n\n", "GET / HTTP/1.1\r\n\n\r\n", "bad\r\nbad\r\n", "\x00\xff",
		"GET / HTTP/9\r\na: b\r\n", "PUT / HTTP/1.1\r\ncontent-length: 3\r\n\r\nab", "PUT / HTTP/1.1\r\ncontent-length: 60\r\n\r\n",
		"PUT / HTTP/1.1\r\ntransfer-encoding: chunked\r\n\r\n", "PUT / HTTP/1.1\r\ntransfer-encoding: chunked\r\n\r\n2\r\nab\r\n", "PUT / HTTP/1.1\r\ntransfer-encoding: chunked\r\n\r\n0\r\n",
		"PUT / HTTP/1.1\r\ntransfer-encoding: chunked\r\n\r\n12345678",
	} {
		noRequest(t, s, impl.RqMore)
	}
}

// How many fields there may be is asked of all at first, and then of those
// that are left.
func TestReadMessageHowManyFields(t *testing.T) {
	for n := range 16 {
		l := numbered(n)
		lines := ""
		for _, f := range l {
			lines += f.Name + ": " + f.Value + "\r\n"
		}
		for _, c := range []struct {
			framing string
			many    int
			body    string
		}{
			{"", 0, ""}, {counted + ": 2\r\n", 1, "ab"}, {coded + ": chunked\r\n", 1, "2\r\nab\r\n0\r\n\r\n"},
		} {
			for _, fields := range []string{lines + c.framing, c.framing + lines} {
				request, response := "GET / HTTP/1.1\r\n"+fields+"\r\n"+c.body, "HTTP/1.1 200 OK\r\n"+fields+"\r\n"+c.body
				if n > 11 || n+c.many > 12 {
					noRequest(t, request, impl.RqBad)
					noResponse(t, response, impl.RqBad)
					continue
				}
				body := strings.Repeat("ab", c.many)
				readsRequest(t, request, impl.Request{Method: "GET", Uri: "/", Fields: l, Body: body}, len(request), impl.RqOk)
				readsResponse(t, response, impl.Response{Status: 200, Fields: l, Body: body}, len(response), impl.RqOk)
			}
		}
	}
}

func TestReadMessageWithoutAnEndOfItsHead(t *testing.T) {
	for _, ahead := range []string{"", "GET / HTTP/1.1\r\n", "HTTP/1.1 200 OK\r\na: b\r\n"} {
		for _, signs := range []string{"x", "\r", "\n", "\n\r\r", "\n\r\n", "a: b\r\n", " ", "\x00"} {
			for _, c := range []struct{ n, want int }{
				{100, impl.RqMore}, {1499, impl.RqMore}, {1500, impl.RqMore}, {1501, impl.RqBad}, {1502, impl.RqBad}, {5000, impl.RqBad},
			} {
				s := ahead + roundOf(signs, c.n-len(ahead))
				if strings.Contains(s, "\r\n\r\n") {
					t.Fatalf("%.300q has an end", s)
				}
				noRequest(t, s, c.want)
				noResponse(t, s, c.want)
			}
		}
	}
}

// However long a text is: where there is an end of a head it is read.
func TestReadMessageLong(t *testing.T) {
	for _, n := range []int{1480, 1482, 1483, 1500, 1501, 1 << 20} {
		for _, signs := range []string{"x", "\r\n", "\n", "\r\n\r\n", "GET / HTTP/1.1\r\n\r\n"} {
			rest := roundOf(signs, n)
			readsRequest(t, "GET / HTTP/1.1\r\n\r\n"+rest, impl.Request{Method: "GET", Uri: "/"}, 18, impl.RqOk)
			readsResponse(t, "HTTP/1.1 304 \r\n\r\n"+rest, impl.Response{Status: 304}, 17, impl.RqOk)
			noResponse(t, "HTTP/1.1 200 OK\r\n\r\n"+rest, impl.RqBad)
		}
	}
	for _, piece := range []string{"x", "\r", "\n", "\r\n", " ", "a: b\r\n", "a: b\r\n\r\n"} {
		long := strings.Repeat(piece, 1<<20)
		noRequest(t, long, impl.RqBad)
		noResponse(t, long, impl.RqBad)
	}
	// A value, a name, and a row of fields, that are too long or too many.
	for _, long := range []string{"a: " + strings.Repeat("v", 1<<20), strings.Repeat("n", 1<<20) + ": b", strings.Repeat("a: b\r\n", 1<<18) + "a: b"} {
		noRequest(t, "GET / HTTP/1.1\r\n"+long+"\r\n\r\n", impl.RqBad)
		noResponse(t, "HTTP/1.1 304 x\r\n"+long+"\r\n\r\n", impl.RqBad)
	}
}

func TestReason(t *testing.T) {
	named := map[int]string{
		200: "OK", 203: "Non-Authoritative Information", 204: "No Content", 300: "Multiple Choices", 301: "Moved Permanently", 304: "Not Modified",
		400: "Bad Request", 404: "Not Found", 410: "Gone", 502: "Bad Gateway", 504: "Gateway Timeout",
	}
	for status := -1000; status <= 1000; status++ {
		want := named[status]
		if want == "" {
			want = "Status"
		}
		if got := impl.Reason(status); got != want {
			t.Errorf("Reason(%d) is %q, not %q", status, got, want)
		}
	}
	for _, status := range []int{math.MinInt, math.MaxInt, 200 + 1<<32, 200 - 1<<32, 2000} {
		if got := impl.Reason(status); got != "Status" {
			t.Errorf("Reason(%d) is %q", status, got)
		}
	}
}

func TestResponseOkTable(t *testing.T) {
	for status := -700; status <= 1700; status++ {
		right := status >= 200 && status <= 599
		bare := status == 204 || status == 304
		for _, n := range []int{0, 1, 59, 60, 61, 62, 1000} {
			want := right && n <= 60 && (n == 0 || !bare)
			if got := impl.ResponseOk(impl.Response{Status: status, Body: bodyOfBytes(n)}); got != want {
				t.Errorf("ResponseOk of %d with a body of %d bytes is %v", status, n, got)
			}
		}
	}
	for _, status := range []int{math.MinInt, math.MaxInt, 200 + 1<<32} {
		if impl.ResponseOk(impl.Response{Status: status}) {
			t.Errorf("ResponseOk of %d", status)
		}
	}
	for _, c := range ownFields {
		for _, status := range []int{200, 204, 304, 599} {
			if got := impl.ResponseOk(impl.Response{Status: status, Fields: c.l}); got != c.want {
				t.Errorf("ResponseOk of %d with these fields, %s, is %v", status, c.what, got)
			}
		}
	}
}

func TestShowResponseTable(t *testing.T) {
	full := strings.Repeat("w", 60)
	for _, c := range []struct {
		r    impl.Response
		want string
	}{
		{impl.Response{Status: 200}, "HTTP/1.1 200 OK\r\ncontent-length: 0\r\n\r\n"},
		{impl.Response{Status: 404, Body: "no"}, "HTTP/1.1 404 Not Found\r\ncontent-length: 2\r\n\r\nno"},
		{impl.Response{Status: 200, Fields: fieldsOf("b", "2", "a", ""), Body: full}, "HTTP/1.1 200 OK\r\nb: 2\r\na: \r\ncontent-length: 60\r\n\r\n" + full},
		{impl.Response{Status: 204}, "HTTP/1.1 204 No Content\r\n\r\n"},
		{impl.Response{Status: 304}, "HTTP/1.1 304 Not Modified\r\n\r\n"},
		{impl.Response{Status: 304, Fields: fieldsOf("etag", `"v1"`)}, "HTTP/1.1 304 Not Modified\r\netag: \"v1\"\r\n\r\n"},
		{impl.Response{Status: 205}, "HTTP/1.1 205 Status\r\ncontent-length: 0\r\n\r\n"},
		{impl.Response{Status: 599, Body: "\r\n"}, "HTTP/1.1 599 Status\r\ncontent-length: 2\r\n\r\n\r\n"},
		{impl.Response{Status: 203, Body: "x"}, "HTTP/1.1 203 Non-Authoritative Information\r\ncontent-length: 1\r\n\r\nx"},
		{impl.Response{Status: 204, Body: "x"}, ""},
		{impl.Response{Status: 304, Body: "x"}, ""},
		{impl.Response{Status: 200, Body: full + "w"}, ""},
		{impl.Response{Status: 199}, ""}, {impl.Response{Status: 600}, ""}, {impl.Response{Status: -200}, ""}, {impl.Response{}, ""},
	} {
		if got := impl.ShowResponse(c.r); got != c.want {
			t.Errorf("ShowResponse(%v) is %q, not %q", c.r, got, c.want)
		}
	}
	for _, c := range ownFields {
		for _, status := range []int{200, 204, 304} {
			got := impl.ShowResponse(impl.Response{Status: status, Fields: c.l})
			if (got != "") != c.want || strings.Contains(got, "\r\n"+counted+": 0\r\n") != (c.want && status == 200) {
				t.Errorf("ShowResponse of %d with these fields, %s, is %q", status, c.what, got)
			}
		}
	}
}

func rightResponses() []impl.Response {
	var out []impl.Response
	for status := 200; status <= 599; status++ {
		out = append(out, impl.Response{Status: status, Fields: numbered(status % 12)})
	}
	for i, l := range messageFields() {
		out = append(out, impl.Response{Status: 200 + i%2*204, Fields: l, Body: bodyOfBytes(i % 61)}, impl.Response{Status: 204 + i%2*100, Fields: l})
	}
	for _, body := range messageBodies() {
		out = append(out, impl.Response{Status: 200, Body: body}, impl.Response{Status: 502, Fields: fieldsOf("a", "b"), Body: body})
	}
	return out
}

func TestReadResponseTakesWhatIsShown(t *testing.T) {
	for _, r := range rightResponses() {
		shown := impl.ShowResponse(r)
		if shown == "" {
			t.Fatalf("ShowResponse(%v) is empty", r)
		}
		for _, behind := range behindRequests() {
			readsResponse(t, shown+behind, r, len(shown), impl.RqOk)
		}
		for k := range len(shown) {
			noResponse(t, shown[:k], impl.RqMore)
		}
	}
}

func TestReadResponseTable(t *testing.T) {
	full := strings.Repeat("w", 60)
	for _, c := range []struct {
		s    string
		want impl.Response
		used int
	}{
		{"HTTP/1.1 200 OK\r\n\r\n", impl.Response{Status: 200}, 19},
		{"HTTP/1.1 200 \r\n\r\n", impl.Response{Status: 200}, 17},
		{"HTTP/1.1 200  \r\n\r\n", impl.Response{Status: 200}, 18},
		{"HTTP/1.1 200 Fine by me\r\nA: b\r\n\r\nto the end", impl.Response{Status: 200, Fields: fieldsOf("a", "b"), Body: "to the end"}, 43},
		{"HTTP/1.1 200 \x00\xff\r\t\n:\r\n\r\n", impl.Response{Status: 200}, 23},
		{"HTTP/1.1 404 HTTP/1.1 200 OK\r\n\r\n", impl.Response{Status: 404}, 32},
		{"HTTP/1.1 200 OK\r\n\r\nHTTP/1.1 404 Gone\r\n\r\n", impl.Response{Status: 200, Body: "HTTP/1.1 404 Gone\r\n\r\n"}, 40},
		{"HTTP/1.1 200 OK\r\n\r\n" + full, impl.Response{Status: 200, Body: full}, 79},
		{"HTTP/1.1 599 x\r\ncontent-length: 2\r\n\r\nabc", impl.Response{Status: 599, Body: "ab"}, 39},
		{"HTTP/1.1 200 x\r\nContent-Length: 0\r\na: b\r\n\r\nabc", impl.Response{Status: 200, Fields: fieldsOf("a", "b")}, 43},
		{"HTTP/1.1 200 x\r\nTransfer-Encoding: Chunked\r\n\r\n2\r\nab\r\n1\r\nc\r\n0\r\n\r\nd", impl.Response{Status: 200, Body: "abc"}, 64},
	} {
		readsResponse(t, c.s, c.want, c.used, impl.RqOk)
	}
}

// With 204 and 304 nothing is asked of where a body would end.
func TestReadResponseWithoutABody(t *testing.T) {
	for _, status := range []string{"204", "304"} {
		want := impl.Response{Fields: fieldsOf("a", "b")}
		want.Status, _ = strconv.Atoi(status)
		for _, framing := range []string{"", "content-length: 0\r\n", "content-length: 5\r\n", "content-length: 61\r\n", "content-length: x\r\n", "transfer-encoding: chunked\r\n", "Transfer-Encoding: gzip\r\nContent-Length: 5\r\n", "content-length: 5\r\ncontent-length:\r\n"} {
			head := "HTTP/1.1 " + status + " x\r\n" + framing + "a: b\r\n\r\n"
			for _, behind := range append(behindRequests(), "2\r\nab\r\n0\r\n\r\n", strings.Repeat("w", 61)) {
				readsResponse(t, head+behind, want, len(head), impl.RqOk)
			}
		}
	}
}

func TestReadResponseWrong(t *testing.T) {
	for _, line := range []string{
		"", " ", "  ", "HTTP/1.1", "HTTP/1.1 ", "HTTP/1.1 200", "HTTP/1.1  ", "HTTP/1.1200 OK", "200 OK", "200 HTTP/1.1 OK",
		"HTTP/1.1  200 OK", " HTTP/1.1 200 OK", "HTTP/1.1\t200\tOK", "HTTP/1.1\t200 OK", "HTTP/1.1 200\tOK", "HTTP/1.1 200\tOK ",
		"HTTP/1.0 200 OK", "HTTP/1.10 200 OK", "http/1.1 200 OK", "HTTP/2 200 OK", "HTTP/1.1x 200 OK", "TTP/1.1 200 OK",
		"HTTP/1.1 20 OK", "HTTP/1.1 2000 OK", "HTTP/1.1 0200 OK", "HTTP/1.1 2 OK", "HTTP/1.1 020 OK", "HTTP/1.1 +200 OK", "HTTP/1.1 -200 OK", "HTTP/1.1 +20 OK", "HTTP/1.1 -20 OK", "HTTP/1.1 -99 OK",
		"HTTP/1.1 2x0 OK", "HTTP/1.1 OK OK", "HTTP/1.1 0xc8 OK", "HTTP/1.1 2e2 OK", "HTTP/1.1 200. OK", "HTTP/1.1 2\x000 OK", "HTTP/1.1 \u0662\u0660\u0660 OK",
		"HTTP/1.1 199 OK", "HTTP/1.1 100 Go on", "HTTP/1.1 600 OK", "HTTP/1.1 999 OK", "HTTP/1.1 000 OK", "HTTP/1.1 4294967496 OK",
		"GET / HTTP/1.1",
	} {
		for _, behind := range []string{"\r\n\r\n", "\r\na: b\r\n\r\nrest", "\r\ncontent-length: 5\r\n\r\n", "\r\ntransfer-encoding: chunked\r\n\r\n"} {
			noResponse(t, line+behind, impl.RqBad)
		}
	}
	for _, head := range []string{"bad", ":", "a b: c", "a: \x7f", "bad\r\ncontent-length: 5"} {
		for _, status := range []string{"200", "204", "304"} {
			noResponse(t, "HTTP/1.1 "+status+" OK\r\n"+head+"\r\n\r\n", impl.RqBad)
		}
	}
	for _, head := range []string{"content-length: x", "content-length: -1", "content-length: 61", "transfer-encoding: gzip", "transfer-encoding: chunked\r\ncontent-length: 2"} {
		for _, behind := range []string{"", "ab", "0\r\n\r\n"} {
			noResponse(t, "HTTP/1.1 200 OK\r\n"+head+"\r\n\r\n"+behind, impl.RqBad)
		}
	}
	noResponse(t, "HTTP/1.1 200 OK\r\n\r\n"+strings.Repeat("w", 61), impl.RqBad)
	noResponse(t, "HTTP/1.1 200 OK\r\ntransfer-encoding: chunked\r\n\r\nx\r\n", impl.RqBad)
	for _, s := range []string{"", "HTTP/1.1 20", "HTTP/1.1 99 x\r\n", "HTTP/1.1 200 OK\r\n", "HTTP/1.1 304 x\r\na: b\r\n", "HTTP/1.1 200 OK\r\ncontent-length: 2\r\n\r\na", "HTTP/1.1 200 OK\r\ntransfer-encoding: chunked\r\n\r\n1\r\na"} {
		noResponse(t, s, impl.RqMore)
	}
}

var (
	requestLine  = regexp.MustCompile("(?s)\\A([!#$%&'*+.^_|~`0-9A-Za-z-]{1,10}) (/[!-~]{0,19}) HTTP/1\\.1\r\n")
	responseLine = regexp.MustCompile("(?s)\\AHTTP/1\\.1 ([2-5][0-9][0-9]) (.*?)\r\n")
)

// valuesBy tells the values of a name, and whether there are any.
func valuesBy(l []impl.Field, name string) (string, bool) {
	var values []string
	for _, f := range l {
		if f.Name == name {
			values = append(values, f.Value)
		}
	}
	return strings.Join(values, ", "), values != nil
}

func bodyBy(l []impl.Field, s string, closing bool) (string, int, int) {
	coding, isCoded := valuesBy(l, coded)
	length, isCounted := valuesBy(l, counted)
	switch {
	case isCoded && (isCounted || strings.ToLower(coding) != "chunked"):
		return "", 0, impl.BoBad
	case isCoded:
		return unchunkBy(s, "", 0)
	case isCounted && !regexp.MustCompile(`\A0*[0-9]{1,2}\z`).MatchString(length):
		return "", 0, impl.BoBad
	case isCounted:
		many, _ := strconv.Atoi(length)
		if many > 60 {
			return "", 0, impl.BoBad
		}
		if len(s) < many {
			return "", 0, impl.BoMore
		}
		return s[:many], many, impl.BoOk
	case closing && len(s) > 60:
		return "", 0, impl.BoBad
	case closing:
		return s, len(s), impl.BoOk
	}
	return "", 0, impl.BoOk
}

// messageBy reads as the document says it, of a text with few fields, all of
// them far below their limits: what the pattern finds in the first line, the
// fields, the body, how many bytes, and the code.
func messageBy(s string, line *regexp.Regexp) (found []string, l []impl.Field, body string, used, code int) {
	if !strings.Contains(s, "\r\n\r\n") {
		if len(s) > 1500 {
			return nil, nil, "", 0, impl.RqBad
		}
		return nil, nil, "", 0, impl.RqMore
	}
	found = line.FindStringSubmatch(s)
	if found == nil {
		return nil, nil, "", 0, impl.RqBad
	}
	all, many, ok := headOf(s[len(found[0]):])
	if !ok {
		return nil, nil, "", 0, impl.RqBad
	}
	for _, f := range all {
		if f.Name != coded && f.Name != counted {
			l = append(l, f)
		}
	}
	used = len(found[0]) + many
	if found[1] == "204" || found[1] == "304" {
		return found, l, "", used, impl.RqOk
	}
	body, many, code = bodyBy(all, s[used:], line == responseLine)
	if code != impl.BoOk {
		return nil, nil, "", 0, code
	}
	return found, l, body, used + many, impl.RqOk
}

func requestBy(s string) (impl.Request, int, int) {
	found, l, body, used, code := messageBy(s, requestLine)
	if found == nil {
		return impl.Request{}, 0, code
	}
	return impl.Request{Method: found[1], Uri: found[2], Fields: l, Body: body}, used, code
}

func responseBy(s string) (impl.Response, int, int) {
	found, l, body, used, code := messageBy(s, responseLine)
	if found == nil {
		return impl.Response{}, 0, code
	}
	status, _ := strconv.Atoi(found[1])
	return impl.Response{Status: status, Fields: l, Body: body}, used, code
}

// changesOf tells a text with each byte changed to, or led by, every other
// one, and without it.
func changesOf(right string) []string {
	var texts []string
	for i := range len(right) {
		for b := range 256 {
			sign := string([]byte{byte(b)})
			texts = append(texts, right[:i]+sign+right[i+1:], right[:i]+sign+right[i:])
		}
		texts = append(texts, right[:i]+right[i+1:], right[:i])
	}
	return texts
}

func manyMessages() []string {
	var texts []string
	for n := range 6 {
		texts = append(texts, textsOf([]string{"GET / HTTP/1.1", "HTTP/1.1 200 ", "\r\n", "\r\n\r\n", "a: b", "content-length: 2\r\n", "transfer-encoding: chunked\r\n", "2\r\n", "0\r\n\r\n"}, n)...)
	}
	for n := range 7 {
		for _, line := range textsOf([]string{"GET", "/", " ", "\t", "HTTP/1.1", "200", "304"}, n) {
			texts = append(texts, line+"\r\n\r\n")
		}
	}
	for _, right := range []string{
		"GET /a HTTP/1.1\r\na: b\r\n\r\nGET / HTTP/1.1\r\n\r\n",
		"PUT /a HTTP/1.1\r\nA: b\r\ncontent-length: 2\r\n\r\nabc",
		"PUT / HTTP/1.1\r\ntransfer-encoding: chunked\r\n\r\n2\r\nab\r\n0\r\n\r\nx",
		"HTTP/1.1 200 OK\r\na: b\r\n\r\nbody",
		"HTTP/1.1 404 Not Found\r\ncontent-length: 2\r\n\r\nabc",
		"HTTP/1.1 502 \r\ntransfer-encoding: chunked\r\n\r\n2\r\nab\r\n0\r\n\r\n",
		"HTTP/1.1 304 Not Modified\r\ncontent-length: 5\r\n\r\nab",
	} {
		texts = append(texts, changesOf(right)...)
	}
	return texts
}

func TestReadMessageAsTheDocumentSays(t *testing.T) {
	var requests, responses [3]int
	for _, s := range manyMessages() {
		q, used, code := requestBy(s)
		readsRequest(t, s, q, used, code)
		requests[code]++
		r, used, code := responseBy(s)
		readsResponse(t, s, r, used, code)
		responses[code]++
	}
	if slices.Min(requests[:]) < 1000 || slices.Min(responses[:]) < 1000 {
		t.Errorf("only so many texts of each code: %d, %d", requests, responses)
	}
}

// Of what is read the next text that is shown tells the same, and it is right.
func TestWhatIsReadCanBeShown(t *testing.T) {
	for _, s := range manyMessages() {
		if q, _, code := impl.ReadRequest(s); code == impl.RqOk {
			shown := impl.ShowRequest(q)
			if !impl.RequestOk(q) {
				t.Fatalf("ReadRequest(%q) is %q, which is not right", s, q)
			}
			readsRequest(t, shown, q, len(shown), impl.RqOk)
		}
		if r, _, code := impl.ReadResponse(s); code == impl.RqOk {
			shown := impl.ShowResponse(r)
			if !impl.ResponseOk(r) {
				t.Fatalf("ReadResponse(%q) is %v, which is not right", s, r)
			}
			readsResponse(t, shown, r, len(shown), impl.RqOk)
		}
	}
}

func TestSameResponseTable(t *testing.T) {
	right := impl.Response{Status: 200, Fields: fieldsOf("a", "1", "b", "2"), Body: "x"}
	others := []impl.Response{
		{}, {Status: 200}, {Status: 200, Body: "x"}, {Status: 201, Fields: right.Fields, Body: "x"}, {Status: 200, Fields: right.Fields}, {Status: 200, Fields: right.Fields, Body: "X"}, {Status: 200, Fields: right.Fields, Body: "xx"},
		{Status: 200, Fields: fieldsOf("b", "2", "a", "1"), Body: "x"}, {Status: 200, Fields: fieldsOf("a", "1"), Body: "x"}, {Status: 200, Fields: fieldsOf("a", "1", "b", "2", "b", "2"), Body: "x"},
		{Status: 200, Fields: fieldsOf("a", "1", "b", "3"), Body: "x"}, {Status: 200, Fields: fieldsOf("A", "1", "b", "2"), Body: "x"},
		{Status: -1}, {Status: math.MaxInt, Fields: fieldsOf("", " \r\n"), Body: strings.Repeat("w", 100)}, {Status: 304, Fields: fieldsOf(counted, "5"), Body: "x"}, {Fields: numbered(20)},
	}
	all := append(others, right)
	for i, a := range all {
		for j, b := range all {
			b.Fields = append([]impl.Field{}, b.Fields...)
			if got := impl.SameResponse(a, b); got != (i == j) {
				t.Errorf("SameResponse(%v, %v) is %v", a, b, got)
			}
		}
	}
}

// textsIn tells all texts that a message is made of.
func textsIn(l []impl.Field, more ...string) []string {
	for _, f := range l {
		more = append(more, f.Name, f.Value)
	}
	return more
}

func TestMessagesAreNewMemory(t *testing.T) {
	for _, behind := range []string{"content-length: 4\r\n\r\nbody", "transfer-encoding: chunked\r\n\r\n4\r\nbody\r\n0\r\n\r\n", "\r\nbody"} {
		request, response := "PUT /uri HTTP/1.1\r\nname: value\r\n"+behind, "HTTP/1.1 200 OK\r\nname: value\r\n"+behind
		q, _, _ := impl.ReadRequest(request)
		for _, made := range textsIn(q.Fields, q.Method, q.Uri, q.Body) {
			if liesWithin(made, request) {
				t.Errorf("%q shares memory with the request", made)
			}
		}
		r, _, _ := impl.ReadResponse(response)
		for _, made := range textsIn(r.Fields, r.Body) {
			if liesWithin(made, response) {
				t.Errorf("%q shares memory with the response", made)
			}
		}
	}
}

func TestMessagesStayAsTheyAre(t *testing.T) {
	for _, l := range [][]impl.Field{fieldsOf("a", "b"), fieldsOf("a", "b", counted, "1", "c", "d"), numbered(11), numbered(12), {}} {
		room := append(slices.Clone(l), fieldsOf("spare", "1", "room", "2")...)
		before := slices.Clone(room)
		l = room[:len(l)]
		q, r := impl.Request{Method: "GET", Uri: "/", Fields: l}, impl.Response{Status: 200, Fields: l}
		impl.RequestOk(q)
		impl.ShowRequest(q)
		impl.ResponseOk(r)
		impl.ShowResponse(r)
		impl.SameResponse(r, r)
		if !slices.Equal(room, before) {
			t.Errorf("%q are %q behind", before, room)
		}
	}
}
