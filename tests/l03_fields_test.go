package tests

import (
	"regexp"
	"slices"
	"strconv"
	"strings"
	"testing"
	"unsafe"

	"loop.example/g01402/impl"
)

// fieldsOf makes fields of names and values in turn.
func fieldsOf(texts ...string) []impl.Field {
	var l []impl.Field
	for i := 0; i+1 < len(texts); i += 2 {
		l = append(l, impl.Field{Name: texts[i], Value: texts[i+1]})
	}
	return l
}

// numbered tells a list of n right fields, no two of them alike.
func numbered(n int) []impl.Field {
	var l []impl.Field
	for i := range n {
		l = append(l, impl.Field{Name: "n" + strconv.Itoa(i), Value: strconv.Itoa(i)})
	}
	return l
}

// listsOf tells every list of exactly n fields of these names; the values say
// at which place a field stands.
func listsOf(names []string, n int) [][]impl.Field {
	if n == 0 {
		return [][]impl.Field{nil}
	}
	var out [][]impl.Field
	for _, head := range listsOf(names, n-1) {
		for _, name := range names {
			f := impl.Field{Name: name, Value: "v" + strconv.Itoa(n)}
			out = append(out, append(slices.Clone(head), f))
		}
	}
	return out
}

var someNames = []string{"a", "b", "A", ""}

// manyLists tells lists in which names stand not at all, once and more often.
func manyLists() [][]impl.Field {
	var out [][]impl.Field
	for n := range 6 {
		out = append(out, listsOf(someNames, n)...)
	}
	return append(out, numbered(12), numbered(40))
}

func TestFieldsOkTable(t *testing.T) {
	name, value := strings.Repeat("n", 24), strings.Repeat("v", 60)
	for _, c := range []struct {
		what string
		l    []impl.Field
		want bool
	}{
		{"nil", nil, true},
		{"the empty list", []impl.Field{}, true},
		{"an ordinary one", fieldsOf("cache-control", "max-age=5, public", "etag", `"v1"`), true},
		{"a name that stands twice", fieldsOf("a", "1", "b", "2", "a", "1"), true},
		{"a name of 1 byte", fieldsOf("a", "1"), true},
		{"a name of 24 bytes", fieldsOf(name, "1"), true},
		{"a name of 25 bytes", fieldsOf(name+"n", "1"), false},
		{"an empty name", fieldsOf("", "1"), false},
		{"an empty name and value", fieldsOf("", ""), false},
		{"a name with A", fieldsOf("Accept", "1"), false},
		{"a name with Z", fieldsOf("a-Z", "1"), false},
		{"a name with a blank", fieldsOf("a b", "1"), false},
		{"a name with a blank behind", fieldsOf("a ", "1"), false},
		{"a name with a colon", fieldsOf("a:", "1"), false},
		{"a name with another letter", fieldsOf("\u00e9", "1"), false},
		{"an empty value", fieldsOf("a", ""), true},
		{"a value of 60 bytes", fieldsOf("a", value), true},
		{"a value of 61 bytes", fieldsOf("a", value+"v"), false},
		{"a value of 62 bytes with blanks around", fieldsOf("a", " "+value+" "), false},
		{"both at their limits", fieldsOf(name, value), true},
		{"a value with a blank ahead", fieldsOf("a", " 1"), false},
		{"a value with a blank behind", fieldsOf("a", "1 "), false},
		{"a value with a tab ahead", fieldsOf("a", "\t1"), false},
		{"a value with a tab behind", fieldsOf("a", "1\t"), false},
		{"a value of one blank", fieldsOf("a", " "), false},
		{"a value with blanks inside", fieldsOf("a", "1 \t2"), true},
		{"a value with byte 13", fieldsOf("a", "1\r2"), false},
		{"a value with byte 10", fieldsOf("a", "1\n2"), false},
		{"a value with byte 127", fieldsOf("a", "1\x7f"), false},
		{"a value with bytes above 127", fieldsOf("a", "\x80\xff"), true},
		{"a wrong one at first", fieldsOf("A", "1", "b", "2", "c", "3"), false},
		{"a wrong one between", fieldsOf("a", "1", "b", " ", "c", "3"), false},
		{"a wrong one at last", fieldsOf("a", "1", "b", "2", "", "3"), false},
		{"11 fields", numbered(11), true},
		{"12 fields", numbered(12), true},
		{"13 fields", numbered(13), false},
		{"12 fields, the last one wrong", append(numbered(11), impl.Field{Name: "a:"}), false},
	} {
		if got := impl.FieldsOk(c.l); got != c.want {
			t.Errorf("FieldsOk of %s is %v", c.what, got)
		}
	}
}

func TestFieldsOkEveryByte(t *testing.T) {
	const nameSigns = "abcdefghijklmnopqrstuvwxyz0123456789!#$%&'*+-.^_|~`"
	for b := range 256 {
		sign := string([]byte{byte(b)})
		for _, name := range []string{sign, "x" + sign, sign + "x"} {
			if got := impl.FieldsOk(fieldsOf(name, "")); got != strings.Contains(nameSigns, sign) {
				t.Errorf("FieldsOk with the name %q is %v", name, got)
			}
		}
		for _, value := range []string{sign, "x" + sign, sign + "x", "x" + sign + "x"} {
			if got := impl.FieldsOk(fieldsOf("x", value)); got != impl.IsValueText(value) {
				t.Errorf("FieldsOk with the value %q is %v", value, got)
			}
		}
	}
}

func TestFieldGetTable(t *testing.T) {
	l := fieldsOf("a", "1", "b", "2", "a", "3", "c", "", "a", "1", "B", "4", "d", "", "d", "", "", "5")
	for _, c := range []struct {
		name, want string
		is         bool
	}{
		{"a", "1, 3, 1", true},
		{"b", "2", true},
		{"B", "4", true},
		{"c", "", true},
		{"d", ", ", true},
		{"", "5", true},
		{"e", "", false},
		{"A", "", false},
		{"a ", "", false},
		{"aa", "", false},
	} {
		if got, ok := impl.FieldGet(l, c.name); got != c.want || ok != c.is {
			t.Errorf("FieldGet of %q is %q, %v, not %q, %v", c.name, got, ok, c.want, c.is)
		}
	}
	for _, none := range [][]impl.Field{nil, {}} {
		for _, name := range someNames {
			if got, ok := impl.FieldGet(none, name); got != "" || ok {
				t.Errorf("FieldGet of %q in the empty list is %q, %v", name, got, ok)
			}
		}
	}
	long := fieldsOf("x", strings.Repeat("v", 70), "x", " \r\n ", "x", "a, b")
	if got, ok := impl.FieldGet(long, "x"); got != strings.Repeat("v", 70)+",  \r\n , a, b" || !ok {
		t.Errorf("FieldGet of what is not right is %q, %v", got, ok)
	}
}

func TestFieldSetTable(t *testing.T) {
	for _, c := range []struct {
		l           []impl.Field
		name, value string
		want        []impl.Field
	}{
		{nil, "a", "9", fieldsOf("a", "9")},
		{[]impl.Field{}, "a", "9", fieldsOf("a", "9")},
		{nil, "", "", fieldsOf("", "")},
		{fieldsOf("a", "1"), "a", "9", fieldsOf("a", "9")},
		{fieldsOf("a", "1"), "a", "", fieldsOf("a", "")},
		{fieldsOf("a", "1"), "b", "9", fieldsOf("a", "1", "b", "9")},
		{fieldsOf("a", "1"), "A", "9", fieldsOf("a", "1", "A", "9")},
		{fieldsOf("a", "1", "b", "2"), "a", "9", fieldsOf("a", "9", "b", "2")},
		{fieldsOf("a", "1", "b", "2"), "b", "9", fieldsOf("a", "1", "b", "9")},
		{fieldsOf("a", "1", "a", "2"), "a", "9", fieldsOf("a", "9")},
		{fieldsOf("a", "1", "b", "2", "a", "3"), "a", "9", fieldsOf("a", "9", "b", "2")},
		{fieldsOf("b", "1", "a", "2", "c", "3", "a", "4", "b", "5", "a", "6"), "a", "9", fieldsOf("b", "1", "a", "9", "c", "3", "b", "5")},
		{fieldsOf("b", "1", "b", "1"), "a", "9", fieldsOf("b", "1", "b", "1", "a", "9")},
		{fieldsOf("a", "9", "b", "2", "a", "9"), "a", "9", fieldsOf("a", "9", "b", "2")},
		{fieldsOf("a", "1"), "b c:", " \n ", fieldsOf("a", "1", "b c:", " \n ")},
		{numbered(12), "x", "9", append(numbered(12), impl.Field{Name: "x", Value: "9"})},
	} {
		if got := impl.FieldSet(c.l, c.name, c.value); !slices.Equal(got, c.want) {
			t.Errorf("FieldSet of %q in %q is %q, not %q", c.name, c.l, got, c.want)
		}
	}
}

func TestFieldDropTable(t *testing.T) {
	for _, c := range []struct {
		l    []impl.Field
		name string
		want []impl.Field
	}{
		{nil, "a", nil},
		{[]impl.Field{}, "", nil},
		{fieldsOf("a", "1"), "a", nil},
		{fieldsOf("a", "1", "a", "2", "a", "3"), "a", nil},
		{fieldsOf("a", "1"), "b", fieldsOf("a", "1")},
		{fieldsOf("a", "1"), "A", fieldsOf("a", "1")},
		{fieldsOf("a", "1"), "", fieldsOf("a", "1")},
		{fieldsOf("", "1", "a", "2"), "", fieldsOf("a", "2")},
		{fieldsOf("a", "1", "b", "2", "a", "3", "b", "2"), "a", fieldsOf("b", "2", "b", "2")},
		{fieldsOf("b", "1", "a", "2", "c", "3", "a", "4", "d", "5"), "a", fieldsOf("b", "1", "c", "3", "d", "5")},
		{numbered(40), "n39", numbered(39)},
	} {
		if got := impl.FieldDrop(c.l, c.name); !slices.Equal(got, c.want) {
			t.Errorf("FieldDrop of %q in %q is %q, not %q", c.name, c.l, got, c.want)
		}
	}
}

// othersOf tells the fields of other names.
func othersOf(l []impl.Field, name string) []impl.Field {
	return slices.DeleteFunc(slices.Clone(l), func(f impl.Field) bool { return f.Name == name })
}

func placeOf(l []impl.Field, name string) int {
	return slices.IndexFunc(l, func(f impl.Field) bool { return f.Name == name })
}

func TestWhatFieldSetSetsIsThereOnce(t *testing.T) {
	for _, l := range manyLists() {
		for _, name := range append([]string{"new"}, someNames...) {
			got := impl.FieldSet(l, name, "set")
			if value, ok := impl.FieldGet(got, name); value != "set" || !ok {
				t.Fatalf("FieldSet of %q in %q is %q", name, l, got)
			}
			others := othersOf(l, name)
			if len(got) != len(others)+1 || !slices.Equal(othersOf(got, name), others) {
				t.Fatalf("FieldSet of %q in %q is %q", name, l, got)
			}
			want := placeOf(l, name)
			if want < 0 {
				want = len(l)
			}
			if placeOf(got, name) != want {
				t.Fatalf("FieldSet of %q in %q is %q, not at place %d", name, l, got, want)
			}
		}
	}
}

func TestWhatFieldDropDropsIsNot(t *testing.T) {
	for _, l := range manyLists() {
		for _, name := range append([]string{"new"}, someNames...) {
			got := impl.FieldDrop(l, name)
			if value, ok := impl.FieldGet(got, name); value != "" || ok {
				t.Fatalf("FieldDrop of %q in %q is %q", name, l, got)
			}
			if !slices.Equal(got, othersOf(l, name)) {
				t.Fatalf("FieldDrop of %q in %q is %q", name, l, got)
			}
		}
	}
}

func TestFieldGetIsAllValuesInOrder(t *testing.T) {
	for _, l := range manyLists() {
		for _, name := range append([]string{"new"}, someNames...) {
			var values []string
			for _, f := range l {
				if f.Name == name {
					values = append(values, f.Value)
				}
			}
			got, ok := impl.FieldGet(l, name)
			if got != strings.Join(values, ", ") || ok != (values != nil) {
				t.Fatalf("FieldGet of %q in %q is %q, %v", name, l, got, ok)
			}
		}
	}
}

// Fields handed in stay as they are, and so does the spare room behind them.
func TestFieldsHandedInStayAsTheyAre(t *testing.T) {
	for _, l := range manyLists() {
		for _, name := range append([]string{"new"}, someNames...) {
			room := append(slices.Clone(l), fieldsOf("spare", "1", "room", "2")...)
			before := slices.Clone(room)
			handed := room[:len(l)]
			impl.FieldGet(handed, name)
			impl.FieldsOk(handed)
			impl.ShowFields(handed)
			impl.SameFields(handed, handed)
			for _, made := range [][]impl.Field{impl.FieldSet(handed, name, "set"), impl.FieldDrop(handed, name)} {
				clear(made[:cap(made)])
			}
			if !slices.Equal(room, before) {
				t.Fatalf("%q are %q behind the calls with %q", before, room, name)
			}
		}
	}
}

// sharesText asks for the memory of two texts that are not empty.
func sharesText(a, b string) bool {
	return a != "" && b != "" && unsafe.StringData(a) == unsafe.StringData(b)
}

func sharesAnyText(made []impl.Field, texts []string) bool {
	for _, f := range made {
		for _, s := range texts {
			if sharesText(f.Name, s) || sharesText(f.Value, s) {
				return true
			}
		}
	}
	return false
}

func TestFieldTextsAreNewMemory(t *testing.T) {
	name, value := "new", "set"
	l := fieldsOf("a", "first", "b", "second", "a", "third", "c", "fourth")
	texts := []string{name, value}
	for _, f := range l {
		texts = append(texts, f.Name, f.Value)
	}
	for _, made := range [][]impl.Field{
		impl.FieldSet(l, name, value),
		impl.FieldSet(l, "a", value),
		impl.FieldDrop(l, "a"),
		impl.FieldDrop(l, name),
	} {
		if sharesAnyText(made, texts) {
			t.Errorf("%q share memory with an argument", made)
		}
	}
	if got, _ := impl.FieldGet(l, "b"); sharesText(got, l[1].Value) {
		t.Errorf("%q shares memory with an argument", got)
	}
	const text = "aB:value\r\n\r\n"
	made, _, _ := impl.ReadFields(text)
	if sharesAnyText(made, []string{text, text[3:]}) {
		t.Errorf("%q share memory with an argument", made)
	}
}

func TestSameFieldsTable(t *testing.T) {
	l := fieldsOf("a", "1", "b", "2", "a", "3")
	for _, c := range []struct {
		a, b []impl.Field
		want bool
	}{
		{nil, nil, true},
		{nil, []impl.Field{}, true},
		{[]impl.Field{}, nil, true},
		{l, slices.Clone(l), true},
		{l, nil, false},
		{nil, fieldsOf("", ""), false},
		{l, l[:2], false},
		{l[:2], l, false},
		{l, l[1:], false},
		{l, fieldsOf("a", "1", "a", "3", "b", "2"), false},
		{l, fieldsOf("a", "3", "b", "2", "a", "1"), false},
		{l, fieldsOf("a", "1", "b", "2", "a", "4"), false},
		{l, fieldsOf("a", "1", "b", "2", "A", "3"), false},
		{fieldsOf("a", "1"), fieldsOf("a", "1", "a", "1"), false},
		{fieldsOf("a", "x"), fieldsOf("a", "X"), false},
		{fieldsOf("a", "1"), fieldsOf("a", "1 "), false},
		{fieldsOf("ab", "c"), fieldsOf("a", "bc"), false},
		{fieldsOf("", " \n"), fieldsOf("", " \n"), true},
		{numbered(40), numbered(40), true},
	} {
		if got := impl.SameFields(c.a, c.b); got != c.want {
			t.Errorf("SameFields of %q and %q is %v", c.a, c.b, got)
		}
	}
	lists := listsOf(someNames, 3)
	for i, a := range lists {
		for j, b := range lists {
			if got := impl.SameFields(a, b); got != (i == j) {
				t.Fatalf("SameFields of %q and %q is %v", a, b, got)
			}
		}
	}
}

func TestShowFieldsTable(t *testing.T) {
	name, value := strings.Repeat("n", 24), strings.Repeat("v", 60)
	for _, c := range []struct {
		l    []impl.Field
		want string
	}{
		{nil, "\r\n"},
		{[]impl.Field{}, "\r\n"},
		{fieldsOf("a", "1"), "a: 1\r\n\r\n"},
		{fieldsOf("a", ""), "a: \r\n\r\n"},
		{fieldsOf("a", "1", "b", "2", "a", "3"), "a: 1\r\nb: 2\r\na: 3\r\n\r\n"},
		{fieldsOf("a", "b: c"), "a: b: c\r\n\r\n"},
		{fieldsOf(name, value), name + ": " + value + "\r\n\r\n"},
		{fieldsOf(name+"n", "1"), ""},
		{fieldsOf("a", value+"v"), ""},
		{fieldsOf("a", "1", "B", "2"), ""},
		{fieldsOf("", "1"), ""},
		{fieldsOf("a", " 1"), ""},
		{fieldsOf("a", "1\t"), ""},
		{fieldsOf("a", "1\r\nb: 2"), ""},
		{numbered(13), ""},
	} {
		if got := impl.ShowFields(c.l); got != c.want {
			t.Errorf("ShowFields of %q is %q, not %q", c.l, got, c.want)
		}
	}
}

// rightLists tells lists that can be shown, with every sign that a field may have.
func rightLists() [][]impl.Field {
	var out [][]impl.Field
	for n := range 6 {
		out = append(out, listsOf([]string{"a", "b", "c-1"}, n)...)
	}
	for b := range 256 {
		sign := string([]byte{byte(b)})
		for _, l := range [][]impl.Field{fieldsOf(sign, ""), fieldsOf("a", sign), fieldsOf("a", "x"+sign+"x", "b", "2"), fieldsOf("a", ":"+sign+":")} {
			if impl.FieldsOk(l) {
				out = append(out, l)
			}
		}
	}
	wide := strings.Repeat("n", 24)
	return append(out, numbered(11), numbered(12), fieldsOf(wide, strings.Repeat("v", 60), "a", "", wide, "\x80 \t \xff"))
}

func TestReadFieldsTakesWhatShowFieldsMakes(t *testing.T) {
	for _, l := range rightLists() {
		shown := impl.ShowFields(l)
		if shown == "" {
			t.Fatalf("ShowFields of %q is empty", l)
		}
		for _, behind := range []string{"", "body", "\r\n", "\r", "\n", "b: 2\r\n\r\n", "\x00: \xff"} {
			got, used, ok := impl.ReadFields(shown + behind)
			if !slices.Equal(got, l) || used != len(shown) || !ok {
				t.Fatalf("ReadFields(%q) is %q, %d, %v", shown+behind, got, used, ok)
			}
		}
		for k := range len(shown) {
			if got, used, ok := impl.ReadFields(shown[:k]); len(got) != 0 || used != 0 || ok {
				t.Fatalf("ReadFields(%q), cut off, is %q, %d, %v", shown[:k], got, used, ok)
			}
		}
	}
}

func TestReadFieldsTable(t *testing.T) {
	name, value := strings.Repeat("N", 24), strings.Repeat("v", 60)
	low := strings.ToLower(name)
	blank := strings.Repeat(" \t", 50)
	for _, c := range []struct {
		head, behind string
		want         []impl.Field
	}{
		{"\r\n", "", nil},
		{"\r\n", "a: 1\r\n\r\n", nil},
		{"\r\n", "no field", nil},
		{"a: 1\r\n\r\n", "", fieldsOf("a", "1")},
		{"a: 1\r\n\r\n", "\r\n\r\n", fieldsOf("a", "1")},
		{"a: 1\r\n\r\n", "b\r\n\r\n", fieldsOf("a", "1")},
		{"a:1\r\n\r\n", "", fieldsOf("a", "1")},
		{"a:\r\n\r\n", "", fieldsOf("a", "")},
		{"a: \t \r\n\r\n", "", fieldsOf("a", "")},
		{"a: \t1\t 2 \t\r\n\r\n", "", fieldsOf("a", "1\t 2")},
		{"a: b: c\r\n\r\n", "", fieldsOf("a", "b: c")},
		{"a::\r\n\r\n", "", fieldsOf("a", ":")},
		{"a:b:c:\r\n\r\n", "", fieldsOf("a", "b:c:")},
		{"Cache-CONTROL: Max-Age=5\r\n\r\n", "", fieldsOf("cache-control", "Max-Age=5")},
		{"A: 1\r\nb: 2\r\na: 3\r\n\r\n", "", fieldsOf("a", "1", "b", "2", "a", "3")},
		{name + ": " + value + "\r\n\r\n", "", fieldsOf(low, value)},
		{"a:" + blank + value + blank + "\r\n\r\n", "", fieldsOf("a", value)},
		{strings.Repeat("a: 1\r\n", 12) + "\r\n", "", slices.Repeat(fieldsOf("a", "1"), 12)},
		{strings.Repeat("a: 1\r\n", 12) + "\r\n", "a: 1\r\n\r\n", slices.Repeat(fieldsOf("a", "1"), 12)},
	} {
		got, used, ok := impl.ReadFields(c.head + c.behind)
		if !slices.Equal(got, c.want) || used != len(c.head) || !ok {
			t.Errorf("ReadFields(%q) is %q, %d, %v", c.head+c.behind, got, used, ok)
		}
	}
}

func TestReadFieldsWrong(t *testing.T) {
	name, value := strings.Repeat("n", 24), strings.Repeat("v", 60)
	for _, s := range []string{
		"", "\r", "\n", "\n\r", "\n\n", "\r\r", "a", ":", "a: 1", "a: 1\r\n", "a: 1\r\n\r", "a: 1\r\nb: 2\r\n",
		"a: 1\n\n", "a: 1\n\r\n", "a: 1\r\r\n\r\n", "a: 1\n\r\n\r\n", "a: 1\r\n\n\r\n", "a: 1\r\n\r\r\n",
		"a: 1\rb: 2\r\n\r\n", "a: 1\nb: 2\r\n\r\n", "a\r: 1\r\n\r\n", "a\n: 1\r\n\r\n", "\ra: 1\r\n\r\n", "\na: 1\r\n\r\n",
		"a:\r 1\r\n\r\n", "a:\n 1\r\n\r\n", "\r\r\n\r\n", "\n\r\n\r\n",
		"a\r\n\r\n", "a 1\r\n\r\n", "a: 1\r\nb\r\n\r\n", "a: 1\r\nb\r\nc: 3\r\n\r\n", "a: 1\r\n 2\r\n\r\n", " \r\n\r\n",
		": 1\r\n\r\n", ":\r\n\r\n", " : 1\r\n\r\n", "a : 1\r\n\r\n", " a: 1\r\n\r\n", "a\t: 1\r\n\r\n", "a b: 1\r\n\r\n", "\xc3\x89: 1\r\n\r\n",
		"a: \x00\r\n\r\n", "a: 1\x7f\r\n\r\n", "a: 1\x1f2\r\n\r\n", "a: 1\r\nb: \x0b\r\n\r\n",
		name + "n: 1\r\n\r\n", "a: " + value + "v\r\n\r\n", "a: 1\r\n" + name + "n: 1\r\n\r\n",
		"a: " + value[2:] + "  v\r\n\r\n",
		strings.Repeat("a: 1\r\n", 13) + "\r\n", strings.Repeat("a: 1\r\n", 12), strings.Repeat("a: 1\r\n", 500) + "\r\n",
		strings.Repeat("a: 1\r\n", 11) + "b\r\n\r\n", strings.Repeat("a: 1\r\n", 11) + ": 1\r\n\r\n",
	} {
		if got, used, ok := impl.ReadFields(s); len(got) != 0 || used != 0 || ok {
			t.Errorf("ReadFields(%q) is %q, %d, %v", s, got, used, ok)
		}
	}
}

var headAhead = regexp.MustCompile("(?s)\\A((?:[!#$%&'*+.^_|~`0-9A-Za-z-]+:[^\\x00-\\x08\\x0a-\\x1f\\x7f]*\r\n)*)\r\n")

// headOf tells what a pattern finds in a text of few bytes, far below all limits.
func headOf(s string) ([]impl.Field, int, bool) {
	found := headAhead.FindStringSubmatch(s)
	if found == nil {
		return nil, 0, false
	}
	var l []impl.Field
	for _, line := range strings.SplitAfter(found[1], "\r\n") {
		if name, value, is := strings.Cut(line, ":"); is {
			l = append(l, impl.Field{Name: strings.ToLower(name), Value: strings.Trim(strings.TrimSuffix(value, "\r\n"), " \t")})
		}
	}
	return l, len(found[0]), true
}

// textsOf tells every text of exactly n of these pieces.
func textsOf(pieces []string, n int) []string {
	if n == 0 {
		return []string{""}
	}
	var out []string
	for _, head := range textsOf(pieces, n-1) {
		for _, piece := range pieces {
			out = append(out, head+piece)
		}
	}
	return out
}

func TestReadFieldsAsAPatternDoes(t *testing.T) {
	var texts []string
	for n := range 7 {
		texts = append(texts, textsOf([]string{"a", "B:", ":", " ", "\r\n", "\r", "\n"}, n)...)
	}
	const right = "aB: 1 2\r\nc:\r\n\r\nd"
	for i := range len(right) {
		for b := range 256 {
			sign := string([]byte{byte(b)})
			texts = append(texts, right[:i]+sign+right[i+1:], right[:i]+sign+right[i:])
		}
		texts = append(texts, right[:i]+right[i+1:])
	}
	taken := 0
	for _, s := range texts {
		want, many, is := headOf(s)
		got, used, ok := impl.ReadFields(s)
		if !slices.Equal(got, want) || used != many || ok != is {
			t.Fatalf("ReadFields(%q) is %q, %d, %v, not %q, %d, %v", s, got, used, ok, want, many, is)
		}
		if ok {
			taken++
		}
		if ok && !impl.FieldsOk(got) {
			t.Fatalf("ReadFields(%q) is %q, which are not right", s, got)
		}
	}
	if taken < 1000 {
		t.Errorf("only %d texts were taken", taken)
	}
}

// A long text without an empty line must not cost its square.
func TestReadFieldsLong(t *testing.T) {
	for _, piece := range []string{"a", "a: 1\r\n", "\r", "\n", ":", " "} {
		if _, used, ok := impl.ReadFields(strings.Repeat(piece, 1<<20)); used != 0 || ok {
			t.Errorf("ReadFields of many %q tells %d, %v", piece, used, ok)
		}
	}
	if l, used, ok := impl.ReadFields("\r\n" + strings.Repeat("a", 1<<22)); len(l) != 0 || used != 2 || !ok {
		t.Errorf("ReadFields of the empty line ahead of much is %q, %d, %v", l, used, ok)
	}
}
