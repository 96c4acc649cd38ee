package tests

import (
	"math"
	"slices"
	"strconv"
	"strings"
	"testing"

	"loop.example/g01402/impl"
)

const varying = "vary"

// variesIn tells an answer with a field of vary for each value, with others
// around.
func variesIn(values ...string) impl.Response {
	r := statusOf(200, "date", "d", "Vary", "x-great", "varies", "x-more")
	for _, value := range values {
		r.Fields = append(r.Fields, fieldsOf(varying, value, "accept", "x-other")...)
	}
	return r
}

func TestVaryNamesTable(t *testing.T) {
	for _, c := range []struct {
		vary string
		want []string
	}{
		{"", nil},
		{" ", nil},
		{"\t \t", nil},
		{",", nil},
		{" ,\t,, , \t", nil},
		{"accept", []string{"accept"}},
		{" accept\t", []string{"accept"}},
		{",accept,", []string{"accept"}},
		{"accept, x-a", []string{"accept", "x-a"}},
		{"x-a,accept", []string{"x-a", "accept"}},
		{"b, c ,\ta\t,,d", []string{"b", "c", "a", "d"}},
		{"accept, accept", []string{"accept"}},
		{"accept,accept,accept", []string{"accept"}},
		{"a, b, a, c, b, a", []string{"a", "b", "c"}},
		{"b, a, b", []string{"b", "a"}},
		{"a, a-a, aa, a, aa", []string{"a", "a-a", "aa"}},

		{"Accept", []string{"accept"}},
		{"ACCEPT", []string{"accept"}},
		{"accept, Accept, ACCEPT", []string{"accept"}},
		{"ACCEPT, accept", []string{"accept"}},
		{"B, a, b, A, C, c", []string{"b", "a", "c"}},
		{letters, []string{strings.ToLower(letters)}},
		{"AZ[, @az{", []string{"az[", "@az{"}},

		{"*", []string{"*"}},
		{"*, *", []string{"*"}},
		{"a, *, b", []string{"a", "*", "b"}},
		{"*, A", []string{"*", "a"}},
		{"**, *a, a*", []string{"**", "*a", "a*"}},

		{`"a"`, []string{`"a"`}},
		{`"A", a, "a", A`, []string{`"a"`, "a"}},
		{`"*"`, []string{`"*"`}},
		{`"a, b", c`, []string{`"a, b"`, "c"}},
		{`"A,B", "a,b", "a, b"`, []string{`"a,b"`, `"a, b"`}},
		{`","`, []string{`","`}},
		{`"a\",b", c`, []string{`"a\",b"`, "c"}},
		{`"a\\", c`, []string{`"a\\"`, "c"}},
		{`a, "B, c`, []string{"a", `"b, c`}},
		{`a, "`, []string{"a", `"`}},
		{`""`, []string{`""`}},

		{"a b, a  b", []string{"a b", "a  b"}},
		{"a;b, a=1, A=1", []string{"a;b", "a=1"}},
		{"\xff, \x80A, \xff", []string{"\xff", "\x80a"}},
		{"\xc3,\xa9,\xc3", []string{"\xc3", "\xa9"}},
		{"\u00c9, \u00e9, \u212a, k, K", []string{"\u00c9", "\u00e9", "\u212a", "k"}},
		{"a\r\n, \x00, a\r\n", []string{"a\r\n", "\x00"}},
	} {
		if got := impl.VaryNames(variesIn(c.vary)); !slices.Equal(got, c.want) {
			t.Errorf("VaryNames of %q is %q, not %q", c.vary, got, c.want)
		}
	}
}

func TestVaryNamesOfSeveralFields(t *testing.T) {
	for _, c := range []struct {
		what string
		l    []impl.Field
		want []string
	}{
		{"nil", nil, nil},
		{"the empty list", []impl.Field{}, nil},
		{"no vary", variesIn().Fields, nil},
		{"names that are near to it", fieldsOf("Vary", "a", "VARY", "b", "var", "c", "varys", "d", "vary ", "e", " vary", "f", "", "g", "x-vary", "h"), nil},
		{"one that stands alone", fieldsOf(varying, "a"), []string{"a"}},
		{"two", variesIn("b, a", "c").Fields, []string{"b", "a", "c"}},
		{"three, in order", variesIn("c", "b", "a").Fields, []string{"c", "b", "a"}},
		{"empty ones", variesIn("", "", "").Fields, nil},
		{"empty ones among others", variesIn("", "a", ",", "b", "").Fields, []string{"a", "b"}},
		{"the same twice", variesIn("a", "a").Fields, []string{"a"}},
		{"the same in capitals", variesIn("Accept, x-a", "accept", "X-A, b").Fields, []string{"accept", "x-a", "b"}},
		{"quotes that go on in the next", variesIn(`"A`, `b", c`).Fields, []string{`"a, b"`, "c"}},
		{"quotes that do not end", variesIn(`a, "b`, "c", "A").Fields, []string{"a", `"b, c, a`}},
		{"one behind more fields than are right", append(numbered(40), fieldsOf(varying, "a")...), []string{"a"}},
		{"fields that are not right", append(variesIn(" a,\r\n").Fields, numbered(20)...), []string{"a", "\r\n"}},
	} {
		for _, status := range []int{200, 204, 304, 500, 199, 600, 0, -1, math.MinInt, math.MaxInt} {
			if got := impl.VaryNames(impl.Response{Status: status, Fields: c.l, Body: "vary: x"}); !slices.Equal(got, c.want) {
				t.Errorf("VaryNames of %d with %s is %q, not %q", status, c.what, got, c.want)
			}
		}
	}
}

// smallOf changes A to Z alone, byte by byte.
func smallOf(s string) string {
	var pairs []string
	for b := 'A'; b <= 'Z'; b++ {
		pairs = append(pairs, string(b), strings.ToLower(string(b)))
	}
	return strings.NewReplacer(pairs...).Replace(s)
}

// namesBy reads the parts of vary by a pattern.
func namesBy(r impl.Response) []string {
	value, _ := valuesBy(r.Fields, varying)
	var names []string
	for _, part := range partsOf(smallOf(value)) {
		if !slices.Contains(names, part) {
			names = append(names, part)
		}
	}
	return names
}

func normalBy(s string) string { return strings.Join(partsOf(s), ", ") }

func pickedBy(q impl.Request, r impl.Response) []impl.Field {
	var picked []impl.Field
	for _, name := range namesBy(r) {
		if value, is := valuesBy(q.Fields, name); is {
			picked = append(picked, impl.Field{Name: name, Value: normalBy(value)})
		}
	}
	return picked
}

func manyVaries() []string {
	texts := bytesOf(allBytes(), 1)
	for n := range 6 {
		texts = append(texts, textsOf([]string{"a", "A", "bc", ",", ", ", " ", `"`, `\`, "*"}, n)...)
	}
	for _, right := range []string{`Accept, "b, \"c", accept`, "a,\tA, *"} {
		texts = append(texts, changesOf(right)...)
	}
	return texts
}

func TestVaryNamesAsPatternsReadIt(t *testing.T) {
	several, doubled := 0, 0
	for i, s := range manyVaries() {
		r := variesIn(s)
		if i%3 == 0 {
			r = variesIn(s[:len(s)/2], s[len(s)/2:])
		}
		want := namesBy(r)
		got := impl.VaryNames(r)
		if !slices.Equal(got, want) {
			t.Fatalf("VaryNames of %q is %q, not %q", s, got, want)
		}
		for j, name := range got {
			if name == "" || !isTrimmed(name) || smallOf(name) != name || slices.Contains(got[:j], name) {
				t.Fatalf("VaryNames of %q is %q", s, got)
			}
		}
		value, _ := valuesBy(r.Fields, varying)
		if len(partsOf(value)) > len(got) {
			doubled++
		}
		if len(got) > 1 {
			several++
		}
	}
	if several < 1000 || doubled < 1000 {
		t.Errorf("only %d texts have several names, and %d one name more than once", several, doubled)
	}
}

func TestNormalTable(t *testing.T) {
	for _, c := range []struct {
		s, want string
	}{
		{"", ""},
		{" ", ""},
		{"\t \t", ""},
		{",", ""},
		{" , ,,\t", ""},
		{"a", "a"},
		{" \ta \t", "a"},
		{"a,b", "a, b"},
		{"a, b", "a, b"},
		{"a , b", "a, b"},
		{"a\t,\tb", "a, b"},
		{" a,, b ", "a, b"},
		{",a,,,b,", "a, b"},
		{"a,b,c,d", "a, b, c, d"},
		{"b, a", "b, a"},
		{"a, a", "a, a"},
		{"A, a", "A, a"},
		{"Gzip;Q=1 ,BR", "Gzip;Q=1, BR"},
		{"a  b,c\t d", "a  b, c\t d"},
		{`"a,b" ,c`, `"a,b", c`},
		{`"a , b",c`, `"a , b", c`},
		{`" a ",b`, `" a ", b`},
		{`a","b,c`, `a","b, c`},
		{`"a\",b",c`, `"a\",b", c`},
		{`"a\\",b`, `"a\\", b`},
		{`a\,b`, `a\, b`},
		{`a,"b,c`, `a, "b,c`},
		{`a,"b, `, `a, "b,`},
		{`a,"b\`, `a, "b\`},
		{`a,"b\ `, `a, "b\`},
		{`a,"`, `a, "`},
		{`"`, `"`},
		{`"",`, `""`},
		{"\xff,\x80", "\xff, \x80"},
		{"\xc3,\xa9", "\xc3, \xa9"},
		{"\"\\\xf0\x9f\x98\",b", "\"\\\xf0\x9f\x98\", b"},
		{"\u00c9,\u00a0,\u3000", "\u00c9, \u00a0, \u3000"},
		{"a\r\n,\x00", "a\r\n, \x00"},
	} {
		if got := impl.Normal(c.s); got != c.want {
			t.Errorf("Normal of %q is %q, not %q", c.s, got, c.want)
		}
	}
}

func TestNormalOfWhatItMade(t *testing.T) {
	texts := append(manyVaries(), bytesOf(allBytes(), 2)...)
	for size := range 8 {
		texts = append(texts, bytesOf("a,\"\\ ", size)...)
	}
	changed := 0
	for _, s := range texts {
		got := impl.Normal(s)
		if want := normalBy(s); got != want {
			t.Fatalf("Normal of %q is %q, not %q", s, got, want)
		}
		if again := impl.Normal(got); again != got {
			t.Fatalf("Normal of %q is %q, and %q of that", s, got, again)
		}
		if !slices.Equal(impl.SplitList(got), impl.SplitList(s)) {
			t.Fatalf("Normal of %q is %q, with other parts", s, got)
		}
		if got != s {
			changed++
		}
	}
	if changed < 10000 {
		t.Errorf("only %d texts were changed", changed)
	}
}

func TestPickedTable(t *testing.T) {
	q := getOf("accept", "a ,b", "x-b", "1", "accept", "c", "empty", "", "commas", " ,, ", "x-Great", "2", "*", "star", `"q"`, "quoted", "vary", "own", "x-a", "Value", "open", `"x, `, "open", "y", "empties", "", "empties", "")
	for _, c := range []struct {
		vary []string
		want []impl.Field
	}{
		{nil, nil},
		{[]string{""}, nil},
		{[]string{" ,\t,"}, nil},
		{[]string{"accept"}, fieldsOf("accept", "a, b, c")},
		{[]string{"ACCEPT"}, fieldsOf("accept", "a, b, c")},
		{[]string{"Accept, x-a", "accept"}, fieldsOf("accept", "a, b, c", "x-a", "Value")},
		{[]string{"x-a, accept"}, fieldsOf("x-a", "Value", "accept", "a, b, c")},
		{[]string{"x-b, x-a, accept, x-b"}, fieldsOf("x-b", "1", "x-a", "Value", "accept", "a, b, c")},
		{[]string{"x-a", "x-b"}, fieldsOf("x-a", "Value", "x-b", "1")},
		{[]string{"x-b", "x-a"}, fieldsOf("x-b", "1", "x-a", "Value")},

		{[]string{"missing"}, nil},
		{[]string{"missing, none"}, nil},
		{[]string{"missing, x-a"}, fieldsOf("x-a", "Value")},
		{[]string{"x-a, missing, x-b"}, fieldsOf("x-a", "Value", "x-b", "1")},
		{[]string{"x-b, missing"}, fieldsOf("x-b", "1")},
		{[]string{"x, x-, x-aa, accep, accepts"}, nil},

		{[]string{"empty"}, fieldsOf("empty", "")},
		{[]string{"missing, Empty"}, fieldsOf("empty", "")},
		{[]string{"commas"}, fieldsOf("commas", "")},
		{[]string{"empties"}, fieldsOf("empties", "")},
		{[]string{"empty, commas, empties"}, fieldsOf("empty", "", "commas", "", "empties", "")},
		{[]string{"open"}, fieldsOf("open", `"x, , y`)},

		{[]string{"x-great"}, nil},
		{[]string{"x-Great"}, nil},
		{[]string{"*"}, fieldsOf("*", "star")},
		{[]string{"x-a, *"}, fieldsOf("x-a", "Value", "*", "star")},
		{[]string{"**"}, nil},
		{[]string{`"q"`}, fieldsOf(`"q"`, "quoted")},
		{[]string{`"Q", q`}, fieldsOf(`"q"`, "quoted")},
		{[]string{`"accept"`}, nil},
		{[]string{`"accept, x-a", x-b`}, fieldsOf("x-b", "1")},
		{[]string{`"accept`, `x-a", x-b`}, fieldsOf("x-b", "1")},
		{[]string{`x-b, "accept, x-a`}, fieldsOf("x-b", "1")},
		{[]string{"vary"}, fieldsOf("vary", "own")},
	} {
		if got := impl.Picked(q, variesIn(c.vary...)); !slices.Equal(got, c.want) {
			t.Errorf("Picked of vary %q is %q, not %q", c.vary, got, c.want)
		}
	}
	if got := impl.Picked(impl.Request{}, variesIn("accept, x-a, *, method, uri")); len(got) > 0 {
		t.Errorf("Picked of the zero request is %q", got)
	}
	if got := impl.Picked(q, impl.Response{}); len(got) > 0 {
		t.Errorf("Picked by the zero answer is %q", got)
	}
}

// someHeads tells lists in which two names that may be asked for, and one that
// is not, stand not at all, once or twice, with values that mean the same and
// others.
func someHeads() [][]impl.Field {
	values := [][]string{nil, {""}, {"x"}, {"x,y"}, {"x ,\t, y "}, {"y, x"}, {"x", "y"}, {"X, y"}, {`"x,y"`}, {`"x`, `y"`}, {" , "}}
	var heads [][]impl.Field
	for _, r := range answersOf([]string{"a", "b", "other"}, values, values, [][]string{nil, {"z"}}) {
		heads = append(heads, r.Fields)
	}
	return heads
}

func someVaries() []impl.Response {
	out := []impl.Response{{}, {Status: 304, Fields: numbered(20)}}
	for _, values := range [][]string{
		nil, {""}, {" ,, "}, {"a"}, {"A"}, {"a, b"}, {"b, a"}, {"B", "a"}, {"a, A, b, a"}, {"a, missing"}, {"missing, b"}, {"*"}, {"a, *"}, {`"a"`}, {`"a, b"`}, {`"a`, `b", b`}, {`b, "a`}, {"missing"}, {"a b"}, {"other2, b"},
	} {
		r := variesIn(values...)
		r.Status = []int{200, 404, 304, 0, -200}[len(out)%5]
		out = append(out, r)
	}
	return out
}

func TestPickedAsReadAgain(t *testing.T) {
	counts := map[int]int{}
	for i, l := range someHeads() {
		for _, r := range someVaries() {
			q := impl.Request{Method: []string{"GET", "PUT", "get", ""}[i%4], Uri: "/", Fields: l}
			want := pickedBy(q, r)
			if got := impl.Picked(q, r); !slices.Equal(got, want) {
				t.Fatalf("Picked of %q by %q is %q, not %q", q.Fields, r.Fields, got, want)
			}
			counts[len(want)]++
		}
	}
	for n := range 3 {
		if counts[n] < 500 {
			t.Errorf("only %d times are %d fields picked", counts[n], n)
		}
	}
}

// wrongHeads tells lists that are not right.
func wrongHeads() [][]impl.Field {
	return [][]impl.Field{
		numbered(12), numbered(40), fieldsOf("A", "x", "B", "y"), fieldsOf("a", " x ", "b", "\r\n"), fieldsOf("", "x", "a", ""), fieldsOf("a", strings.Repeat("x, ", 500)), fieldsOf("a", "\xff,\xc3", "\xff", "x"),
		fieldsOf(counted, "5", coded, "chunked", "a", "x"), fieldsOf(`"a"`, "x", "a b", "y", "*", "z"),
	}
}

func TestARequestFitsWhatWasPickedOfItself(t *testing.T) {
	varies := append(someVaries(), variesIn("", "\xff, A"), variesIn(counted+", "+coded), variesIn("*, a b,"), variesIn("n0, N1, n11, n39, n40"))
	for _, l := range slices.Concat(someHeads(), wrongHeads(), messageFields(), [][]impl.Field{nil}) {
		for _, r := range varies {
			for _, method := range []string{"GET", "", "\xff"} {
				q := impl.Request{Method: method, Uri: method, Fields: l}
				picked := impl.Picked(q, r)
				if !impl.VaryFits(q, r, picked) {
					t.Fatalf("%q do not fit what was picked of themselves by %q: %q", l, r.Fields, picked)
				}
				if len(picked) > 0 && (impl.VaryFits(q, r, picked[1:]) || impl.VaryFits(q, r, nil)) {
					t.Fatalf("%q fit less than what was picked of themselves by %q", l, r.Fields)
				}
			}
		}
	}
}

func TestWhatAnAnswerDoesNotHangOnIsNotPicked(t *testing.T) {
	loose, bound := 0, 0
	for _, l := range someHeads() {
		for _, r := range someVaries() {
			q := impl.Request{Method: "GET", Uri: "/", Fields: l}
			picked, names := impl.Picked(q, r), namesBy(r)
			for _, f := range picked {
				if !slices.Contains(names, f.Name) || placeOf(l, f.Name) < 0 {
					t.Fatalf("Picked of %q by %q is %q", l, r.Fields, picked)
				}
			}
			for _, name := range []string{"a", "b", "other", "new", "A", "vary", "accept", "*"} {
				hangs := slices.Contains(names, name)
				for _, value := range []string{"", "x", "new"} {
					other := q
					other.Fields = impl.FieldSet(l, name, value)
					before, had := valuesBy(l, name)
					differs := hangs && (!had || normalBy(before) != value)
					if impl.VaryFits(other, r, picked) == differs {
						t.Fatalf("%q fit %q by %q: %v", other.Fields, picked, r.Fields, !differs)
					}
					if hangs {
						bound++
					} else {
						loose++
					}
				}
				without := q
				without.Fields = othersOf(l, name)
				if differs := hangs && placeOf(l, name) >= 0; impl.VaryFits(without, r, picked) == differs {
					t.Fatalf("%q fit %q by %q: %v", without.Fields, picked, r.Fields, !differs)
				}
			}
		}
	}
	if loose < 10000 || bound < 10000 {
		t.Errorf("only %d changes were of what it hangs on, and %d of other names", bound, loose)
	}
}

func TestTwoRequestsTable(t *testing.T) {
	for _, c := range []struct {
		what     string
		vary     []string
		one, two []string
		want     bool
	}{
		{"nothing at all", nil, nil, nil, true},
		{"no vary", nil, []string{"a", "1"}, []string{"a", "2"}, true},
		{"an empty vary", []string{""}, []string{"a", "1"}, []string{"b", "2"}, true},
		{"a vary of commas and blanks", []string{" ,\t, "}, []string{"a", "1"}, nil, true},

		{"the same", []string{"a"}, []string{"a", "1"}, []string{"a", "1"}, true},
		{"another value of what is named", []string{"a"}, []string{"a", "1"}, []string{"a", "2"}, false},
		{"another value of what is not named", []string{"a"}, []string{"a", "1", "b", "1"}, []string{"a", "1", "b", "2"}, true},
		{"what is not named only in one", []string{"a"}, []string{"a", "1"}, []string{"b", "2", "a", "1"}, true},
		{"a longer value", []string{"a"}, []string{"a", "1"}, []string{"a", "11"}, false},
		{"the last of two names", []string{"a, b"}, []string{"a", "1", "b", "1"}, []string{"a", "1", "b", "2"}, false},
		{"the first of two names", []string{"a, b"}, []string{"a", "1", "b", "1"}, []string{"a", "2", "b", "1"}, false},
		{"values changed over", []string{"a, b"}, []string{"a", "1", "b", "2"}, []string{"a", "2", "b", "1"}, false},
		{"the order of the fields", []string{"a, b"}, []string{"a", "1", "b", "2"}, []string{"b", "2", "a", "1"}, true},
		{"what the second field names", []string{"a", "b"}, []string{"a", "1", "b", "1"}, []string{"a", "1", "b", "2"}, false},

		{"a name that neither has", []string{"a"}, []string{"b", "1"}, []string{"c", "2"}, true},
		{"a name that only the first has", []string{"a"}, []string{"a", "1"}, nil, false},
		{"a name that only the second has", []string{"a"}, nil, []string{"a", "1"}, false},
		{"a name that only the first has, empty", []string{"a"}, []string{"a", ""}, nil, false},
		{"a name that only the second has, empty", []string{"a"}, nil, []string{"a", ""}, false},
		{"a name that both have empty", []string{"a"}, []string{"a", ""}, []string{"a", ""}, true},
		{"a name that both have without a part", []string{"a"}, []string{"a", " , "}, []string{"a", "", "a", ","}, true},
		{"one name for another", []string{"a, b"}, []string{"a", "1"}, []string{"b", "1"}, false},
		{"one more of two names", []string{"a, b"}, []string{"b", "1"}, []string{"a", "1", "b", "1"}, false},
		{"one less of two names", []string{"a, b"}, []string{"a", "1", "b", "1"}, []string{"a", "1"}, false},
		{"an empty one more of two names", []string{"a, b"}, []string{"a", "1"}, []string{"a", "1", "b", ""}, false},

		{"blanks alone", []string{"a"}, []string{"a", "x,y"}, []string{"a", " x\t, y "}, true},
		{"commas alone", []string{"a"}, []string{"a", "x, y"}, []string{"a", ",x,,,y,"}, true},
		{"blanks within a part", []string{"a"}, []string{"a", "x y"}, []string{"a", "x  y"}, false},
		{"blanks within quotes", []string{"a"}, []string{"a", `"x,y"`}, []string{"a", `"x, y"`}, false},
		{"quotes", []string{"a"}, []string{"a", "x, y"}, []string{"a", `"x, y"`}, false},
		{"quotes around one part", []string{"a"}, []string{"a", "x"}, []string{"a", `"x"`}, false},
		{"one field and two", []string{"a"}, []string{"a", "x, y"}, []string{"a", "x", "b", "1", "a", "y"}, true},
		{"an empty field beside one", []string{"a"}, []string{"a", "x"}, []string{"a", "", "a", "x"}, true},
		{"quotes over two fields", []string{"a"}, []string{"a", `"x, y"`}, []string{"a", `"x`, "a", `y"`}, true},
		{"the order of the parts", []string{"a"}, []string{"a", "x, y"}, []string{"a", "y, x"}, false},
		{"the order of two fields", []string{"a"}, []string{"a", "x", "a", "y"}, []string{"a", "y", "a", "x"}, false},
		{"a part twice", []string{"a"}, []string{"a", "x"}, []string{"a", "x, x"}, false},
		{"capitals of the value", []string{"a"}, []string{"a", "x"}, []string{"a", "X"}, false},
		{"capitals of the name that is asked for", []string{"A"}, []string{"a", "x"}, []string{"a", "x"}, true},
		{"capitals of the name that is asked for, with another value", []string{"A"}, []string{"a", "x"}, []string{"a", "y"}, false},
		{"capitals of the name that the request has", []string{"a"}, []string{"a", "x"}, []string{"A", "x"}, false},
		{"capitals of the name that both have", []string{"a, A"}, []string{"A", "x"}, []string{"A", "y"}, true},

		{"a name of * that neither has", []string{"*"}, []string{"a", "1"}, []string{"a", "2"}, true},
		{"a name of * that both have", []string{"a, *"}, []string{"*", "1"}, []string{"*", "2"}, false},
		{"a name in quotes", []string{`"a"`}, []string{"a", "1"}, []string{"a", "2"}, true},
		{"names in one pair of quotes", []string{`"a, b"`}, []string{"a", "1"}, []string{"b", "2"}, true},
		{"bytes that are no UTF-8", []string{"a"}, []string{"a", "\xff"}, []string{"a", "\xfe"}, false},
		{"the same bytes that are no UTF-8", []string{"a, \xff"}, []string{"a", "\xff", "\xff", "\xfe"}, []string{"\xff", "\xfe", "a", "\xff"}, true},
	} {
		r := variesIn(c.vary...)
		for i, pair := range [][2]impl.Request{{getOf(c.one...), getOf(c.two...)}, {getOf(c.two...), getOf(c.one...)}} {
			// What is no field counts for nothing.
			pair[1].Method, pair[1].Uri, pair[1].Body = []string{"PUT", ""}[i], "/other", "a: 9"
			if got := impl.VaryFits(pair[1], r, impl.Picked(pair[0], r)); got != c.want {
				t.Errorf("%q fit what was picked of %q, with %s: %v", pair[1].Fields, pair[0].Fields, c.what, got)
			}
		}
	}
}

func TestTwoRequestsAsReadAgain(t *testing.T) {
	heads, fit, differ := someHeads(), 0, 0
	for _, r := range someVaries() {
		for i := 0; i < len(heads); i += 3 {
			picked := impl.Picked(getOf(textsIn(heads[i])...), r)
			for j := i % 5; j < len(heads); j += 5 {
				q := impl.Request{Method: "GET", Uri: "/", Fields: heads[j]}
				want := slices.Equal(pickedBy(q, r), picked)
				if got := impl.VaryFits(q, r, picked); got != want {
					t.Fatalf("%q fit %q by %q: %v", q.Fields, picked, r.Fields, got)
				}
				if want {
					fit++
				} else {
					differ++
				}
			}
		}
	}
	if fit < 1000 || differ < 1000 {
		t.Errorf("only %d requests fit, and %d do not", fit, differ)
	}
}

// What was picked is taken as it was handed in: nothing is put in order, made
// small or parted.
func TestVaryFitsOfOtherPicks(t *testing.T) {
	q, r := getOf("a", "x ,y", "b", "Z", "d", "", "e", "5"), variesIn("B, a, c, d")
	for _, c := range []struct {
		what   string
		picked []impl.Field
		want   bool
	}{
		{"what was picked", fieldsOf("b", "Z", "a", "x, y", "d", ""), true},
		{"nil", nil, false},
		{"the empty list", []impl.Field{}, false},
		{"a zero field", fieldsOf("", ""), false},
		{"one name less, the last", fieldsOf("b", "Z", "a", "x, y"), false},
		{"one name less, the first", fieldsOf("a", "x, y", "d", ""), false},
		{"one name less, between", fieldsOf("b", "Z", "d", ""), false},
		{"only the first", fieldsOf("b", "Z"), false},
		{"one name more", fieldsOf("b", "Z", "a", "x, y", "d", "", "e", "5"), false},
		{"one name more, that the request has not", fieldsOf("b", "Z", "a", "x, y", "c", "", "d", ""), false},
		{"one name more, that is not asked for", fieldsOf("e", "5", "b", "Z", "a", "x, y", "d", ""), false},
		{"a zero field more", fieldsOf("b", "Z", "a", "x, y", "d", "", "", ""), false},
		{"the last one twice", fieldsOf("b", "Z", "a", "x, y", "d", "", "d", ""), false},
		{"the first one twice", fieldsOf("b", "Z", "b", "Z", "a", "x, y", "d", ""), false},
		{"all of it twice", fieldsOf("b", "Z", "a", "x, y", "d", "", "b", "Z", "a", "x, y", "d", ""), false},
		{"another order", fieldsOf("a", "x, y", "b", "Z", "d", ""), false},
		{"the order turned round", fieldsOf("d", "", "a", "x, y", "b", "Z"), false},
		{"names changed over", fieldsOf("a", "Z", "b", "x, y", "d", ""), false},
		{"a name in capitals", fieldsOf("B", "Z", "a", "x, y", "d", ""), false},
		{"all names in capitals", fieldsOf("B", "Z", "A", "x, y", "D", ""), false},
		{"a value in small letters", fieldsOf("b", "z", "a", "x, y", "d", ""), false},
		{"a value without its blank", fieldsOf("b", "Z", "a", "x,y", "d", ""), false},
		{"a value as the request has it", fieldsOf("b", "Z", "a", "x ,y", "d", ""), false},
		{"a value that is not trimmed", fieldsOf("b", "Z ", "a", "x, y", "d", ""), false},
		{"an empty value that is not trimmed", fieldsOf("b", "Z", "a", "x, y", "d", " "), false},
		{"a value in two fields", fieldsOf("b", "Z", "a", "x", "a", "y", "d", ""), false},
		{"parts in another order", fieldsOf("b", "Z", "a", "y, x", "d", ""), false},
		{"bytes that are no UTF-8", fieldsOf("b", "Z\xff", "a", "x, y", "d", ""), false},
		{"other bytes that are no UTF-8", fieldsOf("\xff", "Z", "a", "x, y", "d", ""), false},
		{"more than is ever picked", numbered(1000), false},
		{"what was picked and much more", append(fieldsOf("b", "Z", "a", "x, y", "d", ""), numbered(1000)...), false},
	} {
		if got := impl.VaryFits(q, r, c.picked); got != c.want {
			t.Errorf("VaryFits of %s is %v", c.what, got)
		}
	}
	for _, none := range []impl.Response{{}, variesIn(), variesIn(""), variesIn("c"), variesIn("*")} {
		for _, picked := range [][]impl.Field{nil, {}, fieldsOf("", ""), fieldsOf("b", "Z"), fieldsOf("c", ""), fieldsOf("*", ""), numbered(1000)} {
			if got := impl.VaryFits(q, none, picked); got != (len(picked) == 0) {
				t.Errorf("VaryFits of %q by %q is %v", picked, none.Fields, got)
			}
		}
	}
}

func TestVaryFitsEveryByte(t *testing.T) {
	q, r := getOf("accept", "x,Yz"), variesIn("accept")
	for _, s := range changesOf("accept") {
		if got := impl.VaryFits(q, r, fieldsOf(s, "x, Yz")); got != (s == "accept") {
			t.Fatalf("VaryFits of the name %q is %v", s, got)
		}
	}
	for _, s := range changesOf("x, Yz") {
		if got := impl.VaryFits(q, r, fieldsOf("accept", s)); got != (s == "x, Yz") {
			t.Fatalf("VaryFits of the value %q is %v", s, got)
		}
	}
	for _, s := range changesOf("accept") {
		if got := impl.VaryFits(q, variesIn(s), fieldsOf("accept", "x, Yz")); got != slices.Contains(namesBy(variesIn(s)), "accept") {
			t.Fatalf("VaryFits by the vary %q is %v", s, got)
		}
		hasIt := s == "accept"
		if got := impl.VaryFits(getOf(s, "x,Yz"), r, fieldsOf("accept", "x, Yz")); got != hasIt {
			t.Fatalf("VaryFits of a request with the name %q is %v", s, got)
		}
	}
	for _, s := range changesOf("x,Yz") {
		if got := impl.VaryFits(getOf("accept", s), r, fieldsOf("accept", "x, Yz")); got != (normalBy(s) == "x, Yz") {
			t.Fatalf("VaryFits of a request with the value %q is %v", s, got)
		}
	}
}

func TestWhatItHangsOnIsNewMemory(t *testing.T) {
	for _, vary := range []string{"name", "NAME", "name, other", "Other,, name ", `"name"`} {
		for _, value := range []string{"value", "value, more", " value ,more", `"value"`} {
			q, r := getOf("name", value, "other", "one", `"name"`, value), statusOf(200, varying, vary)
			given := append(textsIn(q.Fields, q.Method, q.Uri), textsIn(r.Fields)...)
			names, picked := impl.VaryNames(r), impl.Picked(q, r)
			for _, made := range append(textsIn(picked, impl.Normal(value)), names...) {
				if slices.ContainsFunc(given, func(s string) bool { return liesWithin(made, s) }) || liesWithin(made, value) {
					t.Errorf("%q shares memory with an argument", made)
				}
			}
			clear(names[:cap(names)])
			clear(picked[:cap(picked)])
			if !slices.Equal(impl.VaryNames(r), namesBy(r)) || !slices.Equal(impl.Picked(q, r), pickedBy(q, r)) {
				t.Errorf("what %q hangs on is another thing the second time", vary)
			}
		}
	}
}

func TestWhatItHangsOnStaysAsItIs(t *testing.T) {
	for _, l := range append(wrongHeads(), someHeads()[:100]...) {
		for _, vary := range someVaries() {
			q, r := impl.Request{Method: "GET", Uri: "/"}, impl.Response{Status: 200}
			var asked, told []impl.Field
			q.Fields, asked = spared(l)
			r.Fields, told = spared(vary.Fields)
			picked, was := spared(pickedBy(q, r))
			askedBefore, toldBefore, wasBefore := slices.Clone(asked), slices.Clone(told), slices.Clone(was)
			if !slices.Equal(impl.VaryNames(r), namesBy(vary)) || !slices.Equal(impl.Picked(q, r), picked) || !impl.VaryFits(q, r, picked) {
				t.Fatalf("what stands behind %q or %q counts", l, vary.Fields)
			}
			if !slices.Equal(asked, askedBefore) || !slices.Equal(told, toldBefore) || !slices.Equal(was, wasBefore) {
				t.Fatalf("%q, %q and %q are %q, %q and %q behind", askedBefore, toldBefore, wasBefore, asked, told, was)
			}
		}
	}
}

// A long field must not cost its square.
func TestWhatItHangsOnLong(t *testing.T) {
	many := 1 << 18
	q := getOf("a", "x", "n9", "y")
	for _, piece := range []string{"b", "b,", "B, ", `"`, ",", " ", `\`, `"\`, "*,", `"b",`} {
		long := strings.Repeat(piece, many)
		if got, want := impl.Normal(long), normalBy(long); got != want {
			t.Errorf("Normal of many %q has %d bytes, not %d", piece, len(got), len(want))
		}
		r := statusOf(200, varying, "a,"+long)
		if got := impl.VaryNames(r); !slices.Equal(got, namesBy(r)) {
			t.Errorf("VaryNames of many %q are %d", piece, len(got))
		}
		if picked := impl.Picked(q, r); !slices.Equal(picked, fieldsOf("a", "x")) || !impl.VaryFits(q, r, picked) {
			t.Errorf("Picked by many %q is %.200q", piece, picked)
		}
	}
	var names []string
	for i := range many {
		names = append(names, "n"+strconv.Itoa(i))
	}
	r := statusOf(200, varying, strings.Join(append(names, names...), ","))
	if got := impl.VaryNames(r); !slices.Equal(got, names) {
		t.Errorf("VaryNames of many names are %d", len(got))
	}
	if picked := impl.Picked(q, r); !slices.Equal(picked, fieldsOf("n9", "y")) || !impl.VaryFits(q, r, picked) || impl.VaryFits(getOf("n9", "x"), r, picked) {
		t.Errorf("Picked by many names is %.200q", picked)
	}
}
