package tests

import (
	"math/big"
	"regexp"
	"slices"
	"strings"
	"testing"

	"loop.example/g01402/impl"
)

const (
	letters   = "abcdefghijklmnopqrstuvwxyzABCDEFGHIJKLMNOPQRSTUVWXYZ"
	tokenText = letters + "0123456789!#$%&'*+-.^_|~`"
)

func TestIsTokenTextEveryByte(t *testing.T) {
	for b := range 256 {
		sign := string([]byte{byte(b)})
		want := strings.Contains(tokenText, sign)
		for _, s := range []string{sign, "a" + sign, sign + "a", "a" + sign + "a"} {
			if got := impl.IsTokenText(s); got != want {
				t.Errorf("IsTokenText(%q) is %v", s, got)
			}
		}
	}
	if !impl.IsTokenText(tokenText) {
		t.Error("every sign at once is no token")
	}
}

func TestIsTokenTextTable(t *testing.T) {
	for _, c := range []struct {
		s    string
		want bool
	}{
		{"", false},
		{"cache-control", true},
		{"x-A'~", true},
		{"`", true},
		{" ", false},
		{"a ", false},
		{"a\t", false},
		{"a:b", false},
		{"a,b", false},
		{"\"a\"", false},
		{"a/b", false},
		{"(a)", false},
		{"a\\b", false},
		{"a\x00", false},
		{"a\x7f", false},
		{"\x80", false},
		{"é", false},
		{"\u212a", false},
		{"\uff21", false},
	} {
		if got := impl.IsTokenText(c.s); got != c.want {
			t.Errorf("IsTokenText(%q) is %v", c.s, got)
		}
	}
}

func TestLowerEveryByte(t *testing.T) {
	for _, s := range bytesOf(allBytes(), 2) {
		got := impl.Lower(s)
		if len(got) != len(s) {
			t.Fatalf("Lower(%q) is %q", s, got)
		}
		for i := range len(s) {
			want := s[i]
			if strings.IndexByte("ABCDEFGHIJKLMNOPQRSTUVWXYZ", want) >= 0 {
				want += 32
			}
			if got[i] != want {
				t.Fatalf("Lower(%q) is %q", s, got)
			}
		}
		if again := impl.Lower(got); again != got {
			t.Fatalf("Lower of Lower(%q) is %q", s, again)
		}
	}
}

func TestLowerTable(t *testing.T) {
	for _, c := range []struct{ s, want string }{
		{"", ""},
		{"Cache-CONTROL", "cache-control"},
		{"@AZ[`az{", "@az[`az{"},
		{"ÀÉ\u212aİ", "ÀÉ\u212aİ"},
		{"A\xc3Z\xff", "a\xc3z\xff"},
	} {
		if got := impl.Lower(c.s); got != c.want {
			t.Errorf("Lower(%q) is %q, not %q", c.s, got, c.want)
		}
	}
}

func TestTrimTable(t *testing.T) {
	for _, c := range []struct{ s, want string }{
		{"", ""},
		{" ", ""},
		{"\t", ""},
		{" \t \t", ""},
		{"\t\t \t  ", ""},
		{"a", "a"},
		{" \ta b\t ", "a b"},
		{"a\t b", "a\t b"},
		{"\na\r", "\na\r"},
		{" \n ", "\n"},
		{"\x0b \x0c", "\x0b \x0c"},
		{" \x00 ", "\x00"},
		{" \xa0 ", "\xa0"},
		{"\u00a0a\u2003", "\u00a0a\u2003"},
		{"\t\x85\x80 ", "\x85\x80"},
		{" \xe2\x80 ", "\xe2\x80"},
	} {
		if got := impl.Trim(c.s); got != c.want {
			t.Errorf("Trim(%q) is %q, not %q", c.s, got, c.want)
		}
	}
}

func isBlank(b byte) bool { return b == 32 || b == 9 }

// isTrimmed says of the bytes alone whether there is a blank ahead or behind.
func isTrimmed(s string) bool {
	return s == "" || !isBlank(s[0]) && !isBlank(s[len(s)-1])
}

func TestTrimOfWhatItMade(t *testing.T) {
	texts := bytesOf(allBytes(), 2)
	for size := range 7 {
		texts = append(texts, bytesOf(" \tA\x80\n", size)...)
	}
	for _, s := range texts {
		got := impl.Trim(s)
		if !isTrimmed(got) || impl.Trim(got) != got {
			t.Fatalf("Trim(%q) is %q", s, got)
		}
		ahead, behind, is := strings.Cut(s, got)
		if !is || strings.Trim(ahead+behind, " \t") != "" {
			t.Fatalf("Trim(%q) is %q", s, got)
		}
		if impl.Lower(impl.Trim(s)) != impl.Trim(impl.Lower(s)) {
			t.Fatalf("Trim and Lower of %q hang on their order", s)
		}
	}
}

func TestSplitListTable(t *testing.T) {
	for _, c := range []struct {
		s    string
		want []string
	}{
		{"", nil},
		{" ", nil},
		{",", nil},
		{" ,\t, \t ,,", nil},
		{"a", []string{"a"}},
		{"a, b,,c ", []string{"a", "b", "c"}},
		{",a", []string{"a"}},
		{"a,", []string{"a"}},
		{"\ta b\t,\t", []string{"a b"}},
		{"a,a", []string{"a", "a"}},
		{`x="1,2", y`, []string{`x="1,2"`, "y"}},
		{`"a","b"`, []string{`"a"`, `"b"`}},
		{`"a"",",b`, []string{`"a"","`, "b"}},
		{`"",b`, []string{`""`, "b"}},
		{`" , ",b`, []string{`" , "`, "b"}},
		{`a,"b,c`, []string{"a", `"b,c`}},
		{`a,"b, `, []string{"a", `"b,`}},
		{`a,"`, []string{"a", `"`}},
		{`"a\",b",c`, []string{`"a\",b"`, "c"}},
		{`"a\\",b`, []string{`"a\\"`, "b"}},
		{`"a\\\",b",c`, []string{`"a\\\",b"`, "c"}},
		{`"a\,b",c`, []string{`"a\,b"`, "c"}},
		{`"a,\`, []string{`"a,\`}},
		{`a,"\`, []string{"a", `"\`}},
		{`a\,b`, []string{`a\`, "b"}},
		{`\"a,b",c`, []string{`\"a,b"`, "c"}},
		{`a\`, []string{`a\`}},
		{`"a"\",b"`, []string{`"a"\",b"`}},
		{"\x80,\xff", []string{"\x80", "\xff"}},
		{"\xc3,\xa9", []string{"\xc3", "\xa9"}},
		{"\"\\\xc3\",b", []string{"\"\\\xc3\"", "b"}},
		{"\"\\\u00e9\",b", []string{"\"\\\u00e9\"", "b"}},
		{"\"\\\xf0\x9f\x98\",b", []string{"\"\\\xf0\x9f\x98\"", "b"}},
		{"\xe2\x80\"a,b\",c", []string{"\xe2\x80\"a,b\"", "c"}},
		{"\u00a0,b", []string{"\u00a0", "b"}},
		{"a;b\nc,\x00", []string{"a;b\nc", "\x00"}},
	} {
		if got := impl.SplitList(c.s); !slices.Equal(got, c.want) {
			t.Errorf("SplitList(%q) is %q, not %q", c.s, got, c.want)
		}
	}
}

var partAhead = regexp.MustCompile(`(?s)\A(?:[^,"]|"(?:[^"\\]|\\.)*(?:"|\\?\z))*`)

// partsOf tells the parts as a pattern parts them.
func partsOf(s string) []string {
	var parts []string
	for {
		part := partAhead.FindString(s)
		if trimmed := strings.Trim(part, " \t"); trimmed != "" {
			parts = append(parts, trimmed)
		}
		if len(part) == len(s) {
			return parts
		}
		s = s[len(part)+1:]
	}
}

func TestSplitListPartsAreTrimmedAndNotEmpty(t *testing.T) {
	texts := bytesOf(allBytes(), 2)
	for size := range 8 {
		texts = append(texts, bytesOf("a,\"\\ ", size)...)
	}
	texts = append(texts, bytesOf(",\"\\\t\x80\xc3\xe2", 5)...)
	for _, s := range texts {
		got := impl.SplitList(s)
		for _, part := range got {
			if part == "" || !isTrimmed(part) {
				t.Fatalf("SplitList(%q) is %q", s, got)
			}
		}
		if want := partsOf(s); !slices.Equal(got, want) {
			t.Fatalf("SplitList(%q) is %q, not %q", s, got, want)
		}
	}
}

// Two lists of one text are each other's no more than two of different ones.
func TestSplitListIsNewMemory(t *testing.T) {
	one, two := impl.SplitList("a, b, c"), impl.SplitList("a, b, c")
	one[1] = "x"
	_ = append(one[:1], "y")
	if !slices.Equal(two, []string{"a", "b", "c"}) {
		t.Errorf("the second list is %q", two)
	}
}

func TestIsValueTextEveryByte(t *testing.T) {
	for b := range 256 {
		sign := string([]byte{byte(b)})
		inside := b >= 32 && b != 127 || b == 9
		if got := impl.IsValueText("a" + sign + "a"); got != inside {
			t.Errorf("IsValueText with byte %d inside is %v", b, got)
		}
		edge := inside && b != 32 && b != 9
		for _, s := range []string{sign, "a" + sign, sign + "a"} {
			if got := impl.IsValueText(s); got != edge {
				t.Errorf("IsValueText(%q) is %v", s, got)
			}
		}
	}
}

func TestIsValueTextTable(t *testing.T) {
	for _, c := range []struct {
		s    string
		want bool
	}{
		{"", true},
		{"max-age=5, private", true},
		{"a \t b", true},
		{"a~\x80", true},
		{"\u00e9", true},
		{"\u00a0", true},
		{"\xff\xfe", true},
		{" ", false},
		{"\t", false},
		{" a", false},
		{"a ", false},
		{"\ta", false},
		{"a\t", false},
		{"a\x1fb", false},
		{"a\x7fb", false},
		{"a\r\nb", false},
		{"\x80\n", false},
		{"a\x00", false},
	} {
		if got := impl.IsValueText(c.s); got != c.want {
			t.Errorf("IsValueText(%q) is %v", c.s, got)
		}
	}
}

func TestSecondsTable(t *testing.T) {
	for _, c := range []struct {
		s    string
		want int
	}{
		{"0", 0},
		{"7", 7},
		{"0099", 99},
		{"000", 0},
		{"2147483646", 2147483646},
		{"2147483647", 2147483647},
		{"2147483648", 2147483648},
		{"2147483649", 2147483648},
		{"2147483650", 2147483648},
		{"4294967295", 2147483648},
		{"4294967296", 2147483648},
		{"21474836470", 2147483648},
		{"9223372036854775807", 2147483648},
		{"9223372036854775808", 2147483648},
		{"18446744073709551616", 2147483648},
		{"18446744073709551621", 2147483648},
		{strings.Repeat("0", 5000), 0},
		{strings.Repeat("0", 5000) + "42", 42},
		{strings.Repeat("0", 5000) + "2147483647", 2147483647},
		{strings.Repeat("0", 5000) + "2147483649", 2147483648},
		{strings.Repeat("9", 5000), 2147483648},
		{"1" + strings.Repeat("0", 5000), 2147483648},
		{strings.Repeat("2147483648", 500), 2147483648},
	} {
		if got, ok := impl.Seconds(c.s); got != c.want || !ok {
			t.Errorf("Seconds(%.40q) is %d, %v, not %d", c.s, got, ok, c.want)
		}
	}
}

func TestSecondsRunsOverNowhere(t *testing.T) {
	top := big.NewInt(2147483648)
	for size := 1; size <= 400; size++ {
		for _, digits := range []string{"1", "9", "18446744073709551616", "9223372036854775808", "4294967296"} {
			s := strings.Repeat(digits, size)[:size]
			want, _ := new(big.Int).SetString(s, 10)
			if want.Cmp(top) > 0 {
				want = top
			}
			if got, ok := impl.Seconds(s); int64(got) != want.Int64() || !ok {
				t.Fatalf("Seconds(%q) is %d, %v", s, got, ok)
			}
		}
	}
}

func TestSecondsWrong(t *testing.T) {
	for _, s := range []string{
		"", " ", "-", "-1", "+1", " 1", "1 ", "\t1", "1\n", "9x", "x9", "1.5", "1e3", "0x1", "1_000", "1,2", "\"1\"",
		"1/", "1:", "\x001", "1\x00", "\x80", "\u0663", "\uff11",
		strings.Repeat("9", 5000) + "x", "x" + strings.Repeat("9", 5000), strings.Repeat("9", 50) + "-" + strings.Repeat("9", 50),
	} {
		if got, ok := impl.Seconds(s); got != 0 || ok {
			t.Errorf("Seconds(%.40q) is %d, %v", s, got, ok)
		}
	}
	for _, s := range bytesOf(allBytes(), 2) {
		want := strings.Trim(s, "0123456789") == ""
		n, ok := impl.Seconds(s)
		if ok != want || !ok && n != 0 {
			t.Fatalf("Seconds(%q) is %d, %v", s, n, ok)
		}
	}
}
