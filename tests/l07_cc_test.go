package tests

import (
	"math/big"
	"regexp"
	"slices"
	"strings"
	"testing"

	"loop.example/g01402/impl"
)

const caching = "cache-control"

// saidIn tells a field of cache-control for each value, with others around.
func saidIn(values ...string) []impl.Field {
	l := fieldsOf("date", "max-age=1", "vary", "no-store")
	for _, value := range values {
		l = append(l, fieldsOf(caching, value, "pragma", "no-cache")...)
	}
	return l
}

// saysOf makes directives of names and values in turn.
func saysOf(texts ...string) []impl.Directive {
	var l []impl.Directive
	for i := 0; i+1 < len(texts); i += 2 {
		l = append(l, impl.Directive{Name: texts[i], Value: texts[i+1]})
	}
	return l
}

func TestDirectivesTable(t *testing.T) {
	for _, c := range []struct {
		said string
		want []impl.Directive
	}{
		{"", nil},
		{" ", nil},
		{" ,\t,, ", nil},
		{"public", saysOf("public", "")},
		{"max-age=7", saysOf("max-age", "7")},
		{"public, max-age=7,no-cache", saysOf("public", "", "max-age", "7", "no-cache", "")},
		{",public,,private,", saysOf("public", "", "private", "")},
		{"MAX-Age=Seven", saysOf("max-age", "Seven")},
		{"AZ[=1, AZ=2", saysOf("az", "2")},
		{tokenText + "=1", saysOf(strings.ToLower(tokenText), "1")},

		{"a=", saysOf("a", "")},
		{"a=1=2", saysOf("a", "1=2")},
		{"a==", saysOf("a", "=")},
		{"a==1", saysOf("a", "=1")},
		{`a="="`, saysOf("a", "=")},

		{`a="7"`, saysOf("a", "7")},
		{`a=" 7 "`, saysOf("a", " 7 ")},
		{`a=""`, saysOf("a", "")},
		{`a="`, saysOf("a", `"`)},
		{`a="7`, saysOf("a", `"7`)},
		{`a=7"`, saysOf("a", `7"`)},
		{`a=7"8`, saysOf("a", `7"8`)},
		{`a=x"7"`, saysOf("a", `x"7"`)},
		{`a="7"x`, saysOf("a", `"7"x`)},
		{`a="7", b="8"`, saysOf("a", "7", "b", "8")},
		{`a="7, b=8"`, saysOf("a", "7, b=8")},
		{`a="7, b=8`, saysOf("a", `"7, b=8`)},
		{`a=7", b=8`, saysOf("a", `7", b=8`)},
		{`a="x,y", b`, saysOf("a", "x,y", "b", "")},
		{`a=",", b`, saysOf("a", ",", "b", "")},
		{`a="x\",y", b`, saysOf("a", `x\",y`, "b", "")},
		{`a="x\\", b`, saysOf("a", `x\\`, "b", "")},
		{`a="""`, saysOf("a", `"`)},
		{`a=""""`, saysOf("a", `""`)},
		{`a=""7""`, saysOf("a", `"7"`)},
		{`a="7" "8"`, saysOf("a", `7" "8`)},
		{`a='7'`, saysOf("a", `'7'`)},

		{" \tpublic\t , \tmax-age=7 ", saysOf("public", "", "max-age", "7")},
		{"a =7", nil},
		{"a\t=7, b", saysOf("b", "")},
		{"a = 7", nil},
		{"a= 7", saysOf("a", " 7")},
		{"a=\t7", saysOf("a", "\t7")},
		{"a= ", saysOf("a", "")},
		{`a= "7"`, saysOf("a", ` "7"`)},
		{`a="7" `, saysOf("a", "7")},
		{"a=7 8", saysOf("a", "7 8")},

		{"a=1, a=1", saysOf("a", "1", "a", "1")},
		{"a=1, b=2, A=3, b", saysOf("a", "1", "b", "2", "a", "3", "b", "")},
		{"b, a, b, a", saysOf("b", "", "a", "", "b", "", "a", "")},

		{"=7", nil},
		{"=", nil},
		{"==, a", saysOf("a", "")},
		{"a b", nil},
		{"a b=7, c=8", saysOf("c", "8")},
		{"a:b, c", saysOf("c", "")},
		{"a/b=1", nil},
		{"a;b", nil},
		{`"a"`, nil},
		{`"a"=7`, nil},
		{`"a=7", b`, saysOf("b", "")},
		{`"`, nil},
		{"\x80, a", saysOf("a", "")},
		{"\u00c9=1, \u212a=2, k=3", saysOf("k", "3")},
		{"a=\u00c9\x80", saysOf("a", "\u00c9\x80")},
		{"a\r\n=1", nil},
		{"a=\r\n1\x00", saysOf("a", "\r\n1\x00")},
	} {
		if got := impl.Directives(saidIn(c.said)); !slices.Equal(got, c.want) {
			t.Errorf("Directives of %q is %q, not %q", c.said, got, c.want)
		}
	}
}

func TestDirectivesOfSeveralFields(t *testing.T) {
	for _, c := range []struct {
		what string
		l    []impl.Field
		want []impl.Directive
	}{
		{"nil", nil, nil},
		{"the empty list", []impl.Field{}, nil},
		{"no cache-control", saidIn(), nil},
		{"names that are near to it", fieldsOf("Cache-Control", "a", "cache-contro", "b", "cache-controls", "c", "cache-control ", "d", "", "e"), nil},
		{"one that stands alone", fieldsOf(caching, "a=1"), saysOf("a", "1")},
		{"two", saidIn("a=1, b", "c=2"), saysOf("a", "1", "b", "", "c", "2")},
		{"three, in order", saidIn("c", "b", "a"), saysOf("c", "", "b", "", "a", "")},
		{"empty ones", saidIn("", "", ""), nil},
		{"empty ones among others", saidIn("", "a", "", "b", ""), saysOf("a", "", "b", "")},
		{"the same twice", saidIn("a=1", "a=1"), saysOf("a", "1", "a", "1")},
		{"quotes that go on in the next", saidIn(`a="x`, `y", b`), saysOf("a", "x, y", "b", "")},
		{"quotes that do not end", saidIn(`a="x`, "b=1", "c"), saysOf("a", `"x, b=1, c`)},
		{"one whose name has no end", saidIn("a", "=1"), saysOf("a", "")},
		{"fields that are not right", append(saidIn(" a=1,\r\n"), numbered(20)...), saysOf("a", "1")},
	} {
		if got := impl.Directives(c.l); !slices.Equal(got, c.want) {
			t.Errorf("Directives of %s is %q, not %q", c.what, got, c.want)
		}
	}
}

func TestDirectivesEveryByte(t *testing.T) {
	for b := range 256 {
		sign := string([]byte{byte(b)})
		low := strings.ToLower(sign)
		if b > 127 {
			low = sign
		}
		inName := strings.Contains(tokenText, sign)
		wantAhead, wantBetween := saysOf(low+"x", "7"), saysOf("x"+low+"x", "7")
		wantValue := saysOf("x", "7"+sign+"8")
		switch sign {
		case " ", "\t":
			wantAhead, wantBetween = saysOf("x", "7"), nil
		case ",":
			wantAhead, wantBetween = saysOf("x", "7"), saysOf("x", "", "x", "7")
			wantValue = saysOf("x", "7", "8", "")
		case "=":
			wantAhead, wantBetween = nil, saysOf("x", "x=7")
		default:
			if !inName {
				wantAhead, wantBetween = nil, nil
			}
		}
		for _, c := range []struct {
			said string
			want []impl.Directive
		}{{sign + "x=7", wantAhead}, {"x" + sign + "x=7", wantBetween}, {"x=7" + sign + "8", wantValue}} {
			if got := impl.Directives(saidIn(c.said)); !slices.Equal(got, c.want) {
				t.Errorf("Directives of %q is %q, not %q", c.said, got, c.want)
			}
		}
	}
}

func TestCcHasTable(t *testing.T) {
	l := saidIn("Public, max-age=7, no-cache=\"x, y\"", "max-age, a b, c =1, private=, =x")
	for _, name := range []string{"public", "max-age", "no-cache", "private"} {
		if !impl.CcHas(l, name) {
			t.Errorf("CcHas of %q is false", name)
		}
	}
	for _, name := range []string{
		"", " ", "=", "Public", "MAX-AGE", "Private", "public ", " public", "max-age=7", "max-ag", "max-agee", "max", "age", "7", "x", "y", "y\"", "\"x",
		"a", "b", "a b", "c", "c ", "no-store", "s-maxage", "1", "private=", caching, "vary", "pragma", "max-age\x00",
	} {
		if impl.CcHas(l, name) {
			t.Errorf("CcHas of %q is true", name)
		}
	}
	for _, none := range [][]impl.Field{nil, {}, saidIn(), saidIn(""), saidIn(" , "), fieldsOf("Cache-Control", "public"), fieldsOf("vary", "public")} {
		for _, name := range []string{"", "public", "max-age", "no-store", caching} {
			if impl.CcHas(none, name) {
				t.Errorf("CcHas of %q in %q is true", name, none)
			}
			if n, ok := impl.CcSeconds(none, name); n != 0 || ok {
				t.Errorf("CcSeconds of %q in %q is %d, %v", name, none, n, ok)
			}
		}
	}
}

func TestCcSecondsTable(t *testing.T) {
	digits := strings.Repeat("9", 5000)
	for _, c := range []struct {
		values []string
		want   int
	}{
		{[]string{"max-age=7"}, 7},
		{[]string{"max-age=0"}, 0},
		{[]string{"max-age=007"}, 7},
		{[]string{"Max-AGE=7"}, 7},
		{[]string{`max-age="7"`}, 7},
		{[]string{"public, max-age=7, s-maxage=3, x=1"}, 7},
		{[]string{" , max-age=7 , "}, 7},

		{[]string{"max-age=2147483647"}, 2147483647},
		{[]string{"max-age=2147483648"}, 2147483648},
		{[]string{"max-age=2147483649"}, 2147483648},
		{[]string{"max-age=4294967296"}, 2147483648},
		{[]string{"max-age=18446744073709551617"}, 2147483648},
		{[]string{"max-age=" + digits}, 2147483648},
		{[]string{`max-age="` + digits + `"`}, 2147483648},
		{[]string{"max-age=" + strings.Repeat("0", 5000) + "7"}, 7},
		{[]string{"max-age=" + digits + "x"}, 0},

		{[]string{"max-age=7, max-age=9"}, 7},
		{[]string{"max-age=9, max-age=7"}, 7},
		{[]string{"max-age=10, max-age=9"}, 9},
		{[]string{"max-age=9, max-age=7, max-age=8"}, 7},
		{[]string{"max-age=7, max-age=7"}, 7},
		{[]string{"max-age=7, MAX-AGE=7, Max-Age=7"}, 7},
		{[]string{"max-age=7", "max-age=9"}, 7},
		{[]string{"max-age=9", "", "public", "max-age=7"}, 7},
		{[]string{"max-age=2147483648, max-age=" + digits}, 2147483648},
		{[]string{"max-age=" + digits + ", max-age=2147483647"}, 2147483647},
		{[]string{"max-age=7, max-age=0"}, 0},
		{[]string{"max-age=0, max-age=7"}, 0},

		{[]string{"max-age"}, 0},
		{[]string{"max-age="}, 0},
		{[]string{`max-age=""`}, 0},
		{[]string{"max-age, max-age"}, 0},
		{[]string{"max-age=7, max-age"}, 0},
		{[]string{"max-age, max-age=7"}, 0},
		{[]string{"max-age=7", "max-age=x"}, 0},
		{[]string{"max-age=x, max-age=y, max-age="}, 0},
		{[]string{"max-age=-1"}, 0},
		{[]string{"max-age=+7"}, 0},
		{[]string{"max-age=7, max-age=-7"}, 0},
		{[]string{"max-age= 7"}, 0},
		{[]string{"max-age=\t7"}, 0},
		{[]string{"max-age=7 8"}, 0},
		{[]string{`max-age=" 7"`}, 0},
		{[]string{`max-age="7 "`}, 0},
		{[]string{`max-age= "7"`}, 0},
		{[]string{"max-age=7s"}, 0},
		{[]string{"max-age=s7"}, 0},
		{[]string{"max-age=0x7"}, 0},
		{[]string{"max-age=7.5"}, 0},
		{[]string{"max-age=1e3"}, 0},
		{[]string{"max-age==7"}, 0},
		{[]string{"max-age=7=8"}, 0},
		{[]string{`max-age="7`}, 0},
		{[]string{`max-age=7"`}, 0},
		{[]string{`max-age="`}, 0},
		{[]string{`max-age=""7""`}, 0},
		{[]string{`max-age='7'`}, 0},
		{[]string{`max-age="7,8"`}, 0},
		{[]string{`max-age="7`, `max-age=9"`}, 0},
		{[]string{"max-age=\u0667"}, 0},

		{[]string{"max-age=7, max-age =3, =2, max age=1, \"max-age=1\""}, 7},
		{[]string{`x="max-age=3", max-age=7`}, 7},
		{[]string{`x="`, `max-age=3`, `", max-age=7`}, 7},
		{[]string{"max-ag=1, max-agee=2, s-maxage=3, min-fresh=4, max-age=7"}, 7},
	} {
		l := saidIn(c.values...)
		if got, ok := impl.CcSeconds(l, "max-age"); got != c.want || !ok {
			t.Errorf("CcSeconds of max-age in %.80q is %d, %v, not %d", c.values, got, ok, c.want)
		}
		if !impl.CcHas(l, "max-age") {
			t.Errorf("CcHas of max-age in %.80q is false", c.values)
		}
	}
}

func TestCcSecondsOfWhatIsNotThere(t *testing.T) {
	for _, said := range []string{
		"", ",", "public", "s-maxage=7", "max-ag=7", "max-agee=7", "max-age =7", "max-age\t=7", "max-age:7", "max-age 7", "max age=7", `"max-age"=7`, `"max-age=7"`,
		`x="max-age=7"`, `x="max-age=7`, `x=", max-age=7`, "=max-age", "=7", "x=max-age", "x=max-age=7", "max-age\x00=7", "maX\u2010age=7", "\u00a0max-age=7",
	} {
		if n, ok := impl.CcSeconds(saidIn(said), "max-age"); n != 0 || ok {
			t.Errorf("CcSeconds of max-age in %q is %d, %v", said, n, ok)
		}
	}
	l := saidIn("max-age=7, =8, a b=9, c =10")
	for _, name := range []string{"", " ", "=", "Max-Age", "MAX-AGE", "max-age ", " max-age", "max-age=7", "a", "b", "a b", "c", "c ", "7", "8"} {
		if n, ok := impl.CcSeconds(l, name); n != 0 || ok {
			t.Errorf("CcSeconds of %q is %d, %v", name, n, ok)
		}
	}
}

var top = big.NewInt(2147483648)

var plainNumber = regexp.MustCompile(`\A[0-9]+\z`)

func secondsBy(s string) int {
	if !plainNumber.MatchString(s) {
		return 0
	}
	n, _ := new(big.Int).SetString(s, 10)
	if n.Cmp(top) > 0 {
		n = top
	}
	return int(n.Int64())
}

func leastBy(l []impl.Directive, name string) (int, bool) {
	var all []int
	for _, d := range l {
		if d.Name == name {
			all = append(all, secondsBy(d.Value))
		}
	}
	if all == nil {
		return 0, false
	}
	return slices.Min(all), true
}

// someSaid are values of one directive; some of them mean the same.
var someSaid = []string{"max-age=0", "max-age=5", `max-age="5"`, "MAX-AGE=05", "max-age=40", "max-age=2147483647", "max-age=2147483648", "max-age=99999999999999999999", "max-age", "max-age=x", "max-age=-3", "s-maxage=1", "max-age =2"}

func leastOf(parts []string) (int, bool) {
	least, is := 0, false
	for _, part := range parts {
		name, value, _ := strings.Cut(part, "=")
		if strings.ToLower(name) != "max-age" {
			continue
		}
		n := secondsBy(strings.Trim(value, `"`))
		if !is || n < least {
			least = n
		}
		is = true
	}
	return least, is
}

// However it is spread over fields, what is said is the same; and so it is if
// all stands twice, and turned round.
func TestCcSecondsIsTheLeastOfWhatIsSaid(t *testing.T) {
	for n := range 5 {
		for _, parts := range choicesOf(someSaid, n) {
			turned := slices.Clone(parts)
			slices.Reverse(turned)
			want, is := leastOf(parts)
			for _, l := range [][]impl.Field{
				saidIn(strings.Join(parts, ", ")),
				saidIn(parts...),
				saidIn(strings.Join(parts, ","), strings.Join(parts, ",")),
				saidIn(strings.Join(turned, " ,\t")),
				saidIn(slices.Concat(turned, parts)...),
			} {
				if got, ok := impl.CcSeconds(l, "max-age"); got != want || ok != is {
					t.Fatalf("CcSeconds of max-age in %q is %d, %v, not %d, %v", l, got, ok, want, is)
				}
				if got := impl.CcHas(l, "max-age"); got != is {
					t.Fatalf("CcHas of max-age in %q is %v", l, got)
				}
			}
		}
	}
}

// choicesOf tells every list of exactly n of these texts.
func choicesOf(texts []string, n int) [][]string {
	if n == 0 {
		return [][]string{nil}
	}
	var out [][]string
	for _, head := range choicesOf(texts, n-1) {
		for _, text := range texts {
			out = append(out, append(slices.Clone(head), text))
		}
	}
	return out
}

var (
	wholePart = regexp.MustCompile("(?s)\\A([!#$%&'*+.^_|~`0-9A-Za-z-]+)(?:=(.*))?\\z")
	inQuotes  = regexp.MustCompile(`(?s)\A"(.*)"\z`)
)

// directivesBy reads what is said by patterns.
func directivesBy(l []impl.Field) []impl.Directive {
	said, _ := valuesBy(l, caching)
	var out []impl.Directive
	for _, part := range partsOf(said) {
		found := wholePart.FindStringSubmatch(part)
		if found == nil {
			continue
		}
		value := found[2]
		if inner := inQuotes.FindStringSubmatch(value); inner != nil {
			value = inner[1]
		}
		out = append(out, impl.Directive{Name: strings.ToLower(found[1]), Value: value})
	}
	return out
}

func manySaid() []string {
	var texts []string
	for n := range 6 {
		texts = append(texts, textsOf([]string{"max-age", "B", "=", `"`, ",", " ", "7", "12", `\`}, n)...)
	}
	for _, right := range []string{`Max-Age="7", b=x, max-age=12`, `b="x, \"y",max-age`} {
		texts = append(texts, changesOf(right)...)
	}
	return texts
}

func TestWhatIsSaidAsPatternsReadIt(t *testing.T) {
	several, missing := 0, 0
	for i, s := range manySaid() {
		l := saidIn(s)
		if i%3 == 0 {
			l = saidIn(s[:len(s)/2], s[len(s)/2:])
		}
		want := directivesBy(l)
		if got := impl.Directives(l); !slices.Equal(got, want) {
			t.Fatalf("Directives of %q is %q, not %q", l, got, want)
		}
		for _, name := range []string{"max-age", "b", "7", "Max-Age", ""} {
			least, is := leastBy(want, name)
			if got := impl.CcHas(l, name); got != is {
				t.Fatalf("CcHas of %q in %q is %v", name, l, got)
			}
			if got, ok := impl.CcSeconds(l, name); got != least || ok != is {
				t.Fatalf("CcSeconds of %q in %q is %d, %v, not %d, %v", name, l, got, ok, least, is)
			}
		}
		if len(want) > 1 {
			several++
		}
		if len(want) == 0 {
			missing++
		}
	}
	if several < 1000 || missing < 1000 {
		t.Errorf("only %d texts say several things, and %d nothing", several, missing)
	}
}

// What is said of one name hangs on nothing that is said of another.
func TestNamesDoNotTouchEachOther(t *testing.T) {
	l := saidIn("max-age=7, s-maxage=3, min-fresh=9, max-age=8", "S-MaxAge=5, public, min-fresh, stale=x")
	for name, want := range map[string]int{"max-age": 7, "s-maxage": 3, "min-fresh": 0, "public": 0, "stale": 0} {
		for range 20 {
			if got, ok := impl.CcSeconds(l, name); got != want || !ok {
				t.Errorf("CcSeconds of %q is %d, %v, not %d", name, got, ok, want)
			}
		}
	}
	want := saysOf("max-age", "7", "s-maxage", "3", "min-fresh", "9", "max-age", "8", "s-maxage", "5", "public", "", "min-fresh", "", "stale", "x")
	for range 20 {
		if got := impl.Directives(l); !slices.Equal(got, want) {
			t.Errorf("Directives is %q, not %q", got, want)
		}
	}
}

func TestWhatIsSaidIsNewMemory(t *testing.T) {
	for _, said := range []string{"name=value", `name="value"`, "NAME=value", "name", "name=value, other=more"} {
		l := fieldsOf(caching, said)
		one, two := impl.Directives(l), impl.Directives(l)
		for _, d := range one {
			if liesWithin(d.Name, l[0].Value) || liesWithin(d.Value, l[0].Value) {
				t.Errorf("%q shares memory with %q", d, said)
			}
		}
		clear(one[:cap(one)])
		if !slices.Equal(two, directivesBy(l)) {
			t.Errorf("the second answer of %q is %q", said, two)
		}
	}
}

func TestWhatIsSaidStaysAsItIs(t *testing.T) {
	for _, l := range [][]impl.Field{nil, saidIn("Max-Age=\"7\", a b", "public"), saidIn(), saidIn(" B =1,,", `"`), numbered(20)} {
		room := append(slices.Clone(l), fieldsOf(caching, "spare", "room", "2")...)
		before := slices.Clone(room)
		handed := room[:len(l)]
		impl.Directives(handed)
		impl.CcHas(handed, "public")
		impl.CcSeconds(handed, "max-age")
		if impl.CcHas(handed, "spare") || !slices.Equal(room, before) {
			t.Errorf("%q are %q behind", before, room)
		}
	}
}

// A long field must not cost its square.
func TestWhatIsSaidLong(t *testing.T) {
	many := 1 << 18
	for _, piece := range []string{"a", "a,", "a=1,", "=", `"`, ",", " ", `\`, `"\`, "max-age=7,", `a="`} {
		l := fieldsOf(caching, strings.Repeat(piece, many)+",max-age=5")
		if n, ok := impl.CcSeconds(l, "s-maxage"); n != 0 || ok {
			t.Errorf("CcSeconds of many %q is %d, %v", piece, n, ok)
		}
	}
	if n, ok := impl.CcSeconds(fieldsOf(caching, strings.Repeat("max-age=7,", many)+"max-age=5"), "max-age"); n != 5 || !ok {
		t.Errorf("CcSeconds of very much is %d, %v", n, ok)
	}
}
