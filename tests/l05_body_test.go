package tests

import (
	"math"
	"regexp"
	"slices"
	"strconv"
	"strings"
	"testing"
	"unsafe"

	"loop.example/g01402/impl"
)

// roundOf tells n bytes, of these signs over and over.
func roundOf(signs string, n int) string {
	return strings.Repeat(signs, n/len(signs)+1)[:n]
}

// bodyOfBytes tells n bytes among which each sign that ends a line, and each
// that may be a number, stands.
func bodyOfBytes(n int) string {
	return roundOf("x\r\n0\r\n\r\n5\r\nF\x00\xff", n)
}

func TestHexNumTable(t *testing.T) {
	for _, c := range []struct {
		n    int
		want string
	}{
		{0, "0"}, {1, "1"}, {9, "9"}, {10, "a"}, {11, "b"}, {15, "f"}, {16, "10"}, {17, "11"}, {31, "1f"}, {32, "20"},
		{60, "3c"}, {61, "3d"}, {159, "9f"}, {160, "a0"}, {255, "ff"}, {256, "100"}, {4095, "fff"}, {4096, "1000"},
		{0xabcdef, "abcdef"}, {0xffffff, "ffffff"}, {0x1000000, "1000000"}, {0x123456789abcdef, "123456789abcdef"},
		{math.MaxInt, "7fffffffffffffff"},
		{-1, ""}, {-2, ""}, {-15, ""}, {-255, ""}, {math.MinInt, ""}, {math.MinInt + 1, ""},
	} {
		if got := impl.HexNum(c.n); got != c.want {
			t.Errorf("HexNum(%d) is %q, not %q", c.n, got, c.want)
		}
	}
}

func TestReadHexNumTable(t *testing.T) {
	for _, c := range []struct {
		s    string
		want int
	}{
		{"0", 0}, {"1", 1}, {"9", 9}, {"a", 10}, {"A", 10}, {"f", 15}, {"F", 15}, {"10", 16},
		{"00", 0}, {"000000", 0}, {"000001", 1}, {"01", 1}, {"0a", 10}, {"00000F", 15}, {"0010", 16},
		{"ff", 255}, {"FF", 255}, {"fF", 255}, {"Ff", 255}, {"3c", 60}, {"3C", 60}, {"3d", 61},
		{"abcdef", 0xabcdef}, {"ABCDEF", 0xabcdef}, {"aBcDeF", 0xabcdef}, {"ffffff", 0xffffff}, {"123456", 0x123456}, {"789012", 0x789012},
		{"100000", 0x100000}, {"1e5", 0x1e5}, {"0b1", 0xb1},
	} {
		if got, ok := impl.ReadHexNum(c.s); got != c.want || !ok {
			t.Errorf("ReadHexNum(%q) is %d, %v, not %d", c.s, got, ok, c.want)
		}
	}
}

func TestReadHexNumWrong(t *testing.T) {
	for _, s := range []string{
		"", " ", "g", "G", "x", "-", "+", "_", ".", "\x00", "\xff", "\r", "\n",
		"0000000", "0000001", "1234567", "fffffff", "1000000", "00000000", strings.Repeat("0", 100), strings.Repeat("f", 1000),
		"-1", "+1", "-0", " 1", "1 ", "\t1", "1\t", "1\r", "1\n", "1\r\n", "0x1", "0X1", "x1", "1_0", "_1", "1_", "0b2g", "0o7",
		"1.0", "1;", "1;a", "1,", "1g", "g1", "5z5", "1\x00", "12345 ", "12345g", "\u0661", "\uff11", "a\u0301",
	} {
		if got, ok := impl.ReadHexNum(s); got != 0 || ok {
			t.Errorf("ReadHexNum(%q) is %d, %v", s, got, ok)
		}
	}
}

func TestReadHexNumEveryByte(t *testing.T) {
	const digits = "0123456789abcdefABCDEF"
	for b := range 256 {
		sign := string([]byte{byte(b)})
		for _, ahead := range []string{"", "0", "c", "00000", "Fffff"} {
			for _, behind := range []string{"", "0", "1f"} {
				s := ahead + sign + behind
				want, err := strconv.ParseInt(s, 16, 64)
				is := strings.Contains(digits, sign) && len(s) <= 6
				if !is || err != nil {
					want = 0
				}
				if got, ok := impl.ReadHexNum(s); got != int(want) || ok != is {
					t.Errorf("ReadHexNum(%q) is %d, %v", s, got, ok)
				}
			}
		}
	}
}

func TestReadHexNumTakesWhatHexNumMakes(t *testing.T) {
	for n := range 1 << 18 {
		s := impl.HexNum(n)
		for _, text := range []string{s, strings.ToUpper(s), strings.Repeat("0", 6-len(s)) + s} {
			if got, ok := impl.ReadHexNum(text); got != n || !ok {
				t.Fatalf("ReadHexNum(%q) is %d, %v", text, got, ok)
			}
		}
	}
	for _, n := range []int{0xfffffe, 0xffffff, 0x1000000, 0x1000001, 1 << 31, 1 << 62, math.MaxInt} {
		want, is := n, n <= 0xffffff
		if !is {
			want = 0
		}
		if got, ok := impl.ReadHexNum(impl.HexNum(n)); got != want || ok != is {
			t.Errorf("ReadHexNum of HexNum(%d) is %d, %v", n, got, ok)
		}
	}
}

func TestChunkTable(t *testing.T) {
	wide := strings.Repeat("w", 300)
	for _, c := range []struct {
		s    string
		size int
		want string
	}{
		{"", 1, "0\r\n\r\n"},
		{"", 60, "0\r\n\r\n"},
		{"", math.MaxInt, "0\r\n\r\n"},
		{"a", 1, "1\r\na\r\n0\r\n\r\n"},
		{"a", 2, "1\r\na\r\n0\r\n\r\n"},
		{"a", math.MaxInt, "1\r\na\r\n0\r\n\r\n"},
		{"abc", 1, "1\r\na\r\n1\r\nb\r\n1\r\nc\r\n0\r\n\r\n"},
		{"abc", 2, "2\r\nab\r\n1\r\nc\r\n0\r\n\r\n"},
		{"abc", 3, "3\r\nabc\r\n0\r\n\r\n"},
		{"abc", 4, "3\r\nabc\r\n0\r\n\r\n"},
		{"abcdef", 2, "2\r\nab\r\n2\r\ncd\r\n2\r\nef\r\n0\r\n\r\n"},
		{"abcdefghijklm", 10, "a\r\nabcdefghij\r\n3\r\nklm\r\n0\r\n\r\n"},
		{"0123456789abcdef", 16, "10\r\n0123456789abcdef\r\n0\r\n\r\n"},
		{"0123456789abcdef", 15, "f\r\n0123456789abcde\r\n1\r\nf\r\n0\r\n\r\n"},
		{"0123456789abcdef", 17, "10\r\n0123456789abcdef\r\n0\r\n\r\n"},
		{"0123456789abcdefg", 16, "10\r\n0123456789abcdef\r\n1\r\ng\r\n0\r\n\r\n"},
		{wide[:60], 60, "3c\r\n" + wide[:60] + "\r\n0\r\n\r\n"},
		{wide[:61], 61, "3d\r\n" + wide[:61] + "\r\n0\r\n\r\n"},
		{wide[:61], 60, "3c\r\n" + wide[:60] + "\r\n1\r\nw\r\n0\r\n\r\n"},
		{wide, 1000, "12c\r\n" + wide + "\r\n0\r\n\r\n"},
		{"\r\n", 1, "1\r\n\r\r\n1\r\n\n\r\n0\r\n\r\n"},
		{"0\r\n\r\n", 9, "5\r\n0\r\n\r\n\r\n0\r\n\r\n"},
		{"\x00\xff", 5, "2\r\n\x00\xff\r\n0\r\n\r\n"},
		{"\u00e9", 1, "1\r\n\xc3\r\n1\r\n\xa9\r\n0\r\n\r\n"},
		{"abc", 0, ""}, {"abc", -1, ""}, {"abc", math.MinInt, ""}, {"", 0, ""}, {"", -1, ""},
	} {
		if got := impl.Chunk(c.s, c.size); got != c.want {
			t.Errorf("Chunk(%q, %d) is %q, not %q", c.s, c.size, got, c.want)
		}
	}
}

// chunkBy counts the pieces ahead instead of cutting until nothing is left.
func chunkBy(s string, size int) string {
	out := ""
	for i := range (len(s) + size - 1) / size {
		part := s[i*size : min((i+1)*size, len(s))]
		out += strconv.FormatInt(int64(len(part)), 16) + "\r\n" + part + "\r\n"
	}
	return out + "0\r\n\r\n"
}

func TestChunkEverySize(t *testing.T) {
	for n := range 131 {
		s := bodyOfBytes(n)
		for size := 1; size <= n+3; size++ {
			if got := impl.Chunk(s, size); got != chunkBy(s, size) {
				t.Fatalf("Chunk(%q, %d) is %q", s, size, got)
			}
		}
	}
}

var behinds = []string{"", "more", "\r\n", "\r", "\n", "0\r\n\r\n", "1\r\na\r\n0\r\n\r\n", "x", "\x00\xff"}

func TestUnchunkTakesWhatChunkMakes(t *testing.T) {
	for n := range impl.MaxBody + 1 {
		for _, s := range []string{bodyOfBytes(n), roundOf("\r\n", n), roundOf("\n\r", n), roundOf(letters, n)} {
			for size := 1; size <= n+1; size++ {
				shown := impl.Chunk(s, size)
				for _, behind := range behinds {
					if got, used, code := impl.Unchunk(shown + behind); got != s || used != len(shown) || code != impl.BoOk {
						t.Fatalf("Unchunk(%q) is %q, %d, %d", shown+behind, got, used, code)
					}
				}
			}
		}
	}
	for b := range 256 {
		s := "a" + string([]byte{byte(b)}) + "c"
		for size := 1; size <= 3; size++ {
			shown := impl.Chunk(s, size)
			if got, used, code := impl.Unchunk(shown); got != s || used != len(shown) || code != impl.BoOk {
				t.Fatalf("Unchunk(%q) is %q, %d, %d", shown, got, used, code)
			}
		}
	}
}

func TestUnchunkWantsMoreOfABeginning(t *testing.T) {
	for n := range impl.MaxBody + 1 {
		for _, s := range []string{bodyOfBytes(n), roundOf("\r\n", n), roundOf(letters, n)} {
			for size := 1; size <= n+1; size++ {
				shown := impl.Chunk(s, size)
				for k := range len(shown) {
					if got, used, code := impl.Unchunk(shown[:k]); got != "" || used != 0 || code != impl.BoMore {
						t.Fatalf("Unchunk(%q), cut off, is %q, %d, %d", shown[:k], got, used, code)
					}
				}
			}
		}
	}
}

// One byte above MaxBody is refused however it is cut, at the line of the piece
// that goes past it.
func TestUnchunkAboveMaxBody(t *testing.T) {
	for _, n := range []int{61, 62, 100, 300} {
		s := roundOf(letters, n)
		for size := 1; size <= n+1; size++ {
			shown := impl.Chunk(s, size)
			if got, used, code := impl.Unchunk(shown); got != "" || used != 0 || code != impl.BoBad {
				t.Fatalf("Unchunk(%q) is %q, %d, %d", shown, got, used, code)
			}
			whole := impl.MaxBody / size
			ahead := len(impl.Chunk(s[:whole*size], size)) - len("0\r\n\r\n")
			line := len(impl.HexNum(min(size, n-whole*size))) + len("\r\n")
			for k := range len(shown) {
				want := impl.BoMore
				if k >= ahead+line {
					want = impl.BoBad
				}
				if _, _, code := impl.Unchunk(shown[:k]); code != want {
					t.Fatalf("Unchunk(%q), cut off, tells %d", shown[:k], code)
				}
			}
		}
	}
}

func TestUnchunkTable(t *testing.T) {
	full, over := strings.Repeat("w", 60), strings.Repeat("w", 61)
	for _, c := range []struct {
		s, want string
		used    int
		code    int
	}{
		{"0\r\n\r\n", "", 5, impl.BoOk},
		{"000000\r\n\r\n", "", 10, impl.BoOk},
		{"0\r\n\r\nrest", "", 5, impl.BoOk},
		{"0\r\n\r\n\r\n", "", 5, impl.BoOk},
		{"A\r\n0123456789\r\n0\r\n\r\nmore", "0123456789", 20, impl.BoOk},
		{"00000a\r\n0123456789\r\n00\r\n\r\n", "0123456789", 26, impl.BoOk},
		{"2\r\nab\r\n1\r\nc\r\n0\r\n\r\n", "abc", 18, impl.BoOk},
		{"1\r\na\r\n0\r\n\r\n1\r\nb\r\n0\r\n\r\n", "a", 11, impl.BoOk},
		{"2\r\n\r\n\r\n0\r\n\r\n", "\r\n", 12, impl.BoOk},
		{"5\r\n0\r\n\r\n\r\n0\r\n\r\n", "0\r\n\r\n", 15, impl.BoOk},
		{"3c\r\n" + full + "\r\n0\r\n\r\n", full, 71, impl.BoOk},
		{"3C\r\n" + full + "\r\n0\r\n\r\n\r\n", full, 71, impl.BoOk},
		{"3b\r\n" + full[1:] + "\r\n1\r\nz\r\n0\r\n\r\n", full[1:] + "z", 76, impl.BoOk},

		{"", "", 0, impl.BoMore},
		{"0", "", 0, impl.BoMore}, {"0\r", "", 0, impl.BoMore}, {"0\r\n", "", 0, impl.BoMore}, {"0\r\n\r", "", 0, impl.BoMore},
		{"5\r\n", "", 0, impl.BoMore}, {"5\r\nabc", "", 0, impl.BoMore}, {"5\r\nabcde", "", 0, impl.BoMore}, {"5\r\nabcde\r", "", 0, impl.BoMore},
		{"5\r\nabcdeX", "", 0, impl.BoMore}, {"5\r\nab\r\n0", "", 0, impl.BoMore}, {"0\r\nX", "", 0, impl.BoMore},
		{"5\r\nabcde\r\n", "", 0, impl.BoMore}, {"5\r\nabcde\r\n0\r\n", "", 0, impl.BoMore}, {"5\r\nabcde\r\n5", "", 0, impl.BoMore},
		{"3c\r\n", "", 0, impl.BoMore}, {"3c\r\n" + full, "", 0, impl.BoMore}, {"3c\r\n" + full + "w", "", 0, impl.BoMore},
		{"3c\r\n" + full + "\r\n", "", 0, impl.BoMore}, {"3c\r\n" + full + "\r\n0", "", 0, impl.BoMore}, {"3c\r\n" + full + "\r\n1", "", 0, impl.BoMore},

		{"12345678", "", 0, impl.BoMore}, {"123456789", "", 0, impl.BoBad},
		{"xxxxxxxx", "", 0, impl.BoMore}, {"xxxxxxxxx", "", 0, impl.BoBad},
		{"1234567\r", "", 0, impl.BoMore}, {"12345678\r", "", 0, impl.BoBad}, {"123456\r\r", "", 0, impl.BoMore}, {"123456\n\r", "", 0, impl.BoMore},
		{"\n\n\n\n\n\n\n\n", "", 0, impl.BoMore}, {"\n\n\n\n\n\n\n\n\n", "", 0, impl.BoBad}, {"\r\r\r\r\r\r\r\r", "", 0, impl.BoMore}, {"\r\r\r\r\r\r\r\r\r", "", 0, impl.BoBad},
		{"1\r\na\r\n12345678", "", 0, impl.BoMore}, {"1\r\na\r\n123456789", "", 0, impl.BoBad},
		{"1\r\na\r\nxxxxxxxx", "", 0, impl.BoMore}, {"1\r\na\r\nxxxxxxxxx", "", 0, impl.BoBad},

		{"\r\n", "", 0, impl.BoBad}, {"\r\n\r\n", "", 0, impl.BoBad}, {"\r\n0\r\n\r\n", "", 0, impl.BoBad}, {"1\r\na\r\n\r\n", "", 0, impl.BoBad},
		{"x\r\n", "", 0, impl.BoBad}, {"-1\r\n", "", 0, impl.BoBad}, {"+1\r\na\r\n0\r\n\r\n", "", 0, impl.BoBad}, {"0x1\r\na\r\n0\r\n\r\n", "", 0, impl.BoBad},
		{"1 \r\na\r\n0\r\n\r\n", "", 0, impl.BoBad}, {" 1\r\na\r\n0\r\n\r\n", "", 0, impl.BoBad}, {"1;a=b\r\na\r\n0\r\n\r\n", "", 0, impl.BoBad},
		{"1\n\r\na\r\n0\r\n\r\n", "", 0, impl.BoBad}, {"1\r\r\na\r\n0\r\n\r\n", "", 0, impl.BoBad}, {"1\na\n0\n\n\r\n", "", 0, impl.BoBad},
		{"0000001\r\na\r\n0\r\n\r\n", "", 0, impl.BoBad}, {"0000000\r\n\r\n", "", 0, impl.BoBad}, {"1\r\na\r\n0000000\r\n\r\n", "", 0, impl.BoBad},
		{"000000000000\r\n\r\n", "", 0, impl.BoBad},
		{"3d\r\n", "", 0, impl.BoBad}, {"3d\r\n" + over + "\r\n0\r\n\r\n", "", 0, impl.BoBad}, {"ffffff\r\n", "", 0, impl.BoBad},
		{"3c\r\n" + full + "\r\n1\r\n", "", 0, impl.BoBad}, {"3c\r\n" + full + "\r\n1\r\nw\r\n0\r\n\r\n", "", 0, impl.BoBad},
		{"1\r\nw\r\n3c\r\n", "", 0, impl.BoBad}, {"1\r\nw\r\n3b\r\n", "", 0, impl.BoMore},
		{"5\r\nabcdeXX", "", 0, impl.BoBad}, {"5\r\nabcde\r\r", "", 0, impl.BoBad}, {"5\r\nabcde\n\n", "", 0, impl.BoBad}, {"5\r\nabcde\n\r", "", 0, impl.BoBad},
		{"5\r\nabcdef\r\n0\r\n\r\n", "", 0, impl.BoBad}, {"5\r\nabcd\r\n0\r\n\r\n", "", 0, impl.BoBad}, {"5\r\nabcdeX\r\n", "", 0, impl.BoBad}, {"5\r\nabcde\rX", "", 0, impl.BoBad},
		{"0\r\nXX", "", 0, impl.BoBad}, {"0\r\n\rX", "", 0, impl.BoBad}, {"0\r\nX\n", "", 0, impl.BoBad}, {"0\r\n0\r\n\r\n", "", 0, impl.BoBad}, {"0\r\na: b\r\n\r\n", "", 0, impl.BoBad},
		{"2\r\nab\r\nXX", "", 0, impl.BoMore}, {"2\r\nab\r\nXX\r\n", "", 0, impl.BoBad},
	} {
		if got, used, code := impl.Unchunk(c.s); got != c.want || used != c.used || code != c.code {
			t.Errorf("Unchunk(%q) is %q, %d, %d, not %q, %d, %d", c.s, got, used, code, c.want, c.used, c.code)
		}
	}
}

var sizeLine = regexp.MustCompile("(?s)\\A(.*?)\r\n(.*)\\z")
var sizeDigits = regexp.MustCompile(`\A[0-9A-Fa-f]{1,6}\z`)

// unchunkBy reads as the document says it, piece by piece, behind a body that
// was read already.
func unchunkBy(s, body string, used int) (string, int, int) {
	parts := sizeLine.FindStringSubmatch(s)
	if parts == nil {
		if len(s) <= 8 {
			return "", 0, impl.BoMore
		}
		return "", 0, impl.BoBad
	}
	line, behind := parts[1], parts[2]
	if !sizeDigits.MatchString(line) {
		return "", 0, impl.BoBad
	}
	many, _ := strconv.ParseInt(line, 16, 64)
	size := int(many)
	switch {
	case len(body)+size > 60:
		return "", 0, impl.BoBad
	case len(behind) < size+2:
		return "", 0, impl.BoMore
	case behind[size] != 13 || behind[size+1] != 10:
		return "", 0, impl.BoBad
	}
	body, used = body+behind[:size], used+len(line)+2+size+2
	if size == 0 {
		return body, used, impl.BoOk
	}
	return unchunkBy(behind[size+2:], body, used)
}

func manyChunkTexts() []string {
	var texts []string
	for n := range 7 {
		texts = append(texts, textsOf([]string{"0", "1", "a", "\r\n", "\r", "\n", "0\r\n\r\n"}, n)...)
	}
	for n := range 5 {
		texts = append(texts, textsOf([]string{"1\r\n", "2\r\n", "1e\r\n", "\r\n", "x", "\r", "0\r\n\r\n", strings.Repeat("y", 30)}, n)...)
	}
	for _, right := range []string{"3\r\nabc\r\n02\r\nde\r\n0\r\n\r\nf", "3c\r\n" + strings.Repeat("w", 60) + "\r\n0\r\n\r\n", "00000a\r\n0123456789\r\n000000\r\n\r\n"} {
		for i := range len(right) {
			for b := range 256 {
				sign := string([]byte{byte(b)})
				texts = append(texts, right[:i]+sign+right[i+1:], right[:i]+sign+right[i:], right[:i]+sign)
			}
			texts = append(texts, right[:i]+right[i+1:])
		}
	}
	return texts
}

func TestUnchunkAsTheDocumentSays(t *testing.T) {
	var told [3]int
	for _, s := range manyChunkTexts() {
		want, many, is := unchunkBy(s, "", 0)
		got, used, code := impl.Unchunk(s)
		if got != want || used != many || code != is {
			t.Fatalf("Unchunk(%q) is %q, %d, %d, not %q, %d, %d", s, got, used, code, want, many, is)
		}
		told[code]++
	}
	if slices.Min(told[:]) < 1000 {
		t.Errorf("only so many texts of each code: %d", told)
	}
}

// A long text must not cost its square, nor more than what is read of it.
func TestBodiesLong(t *testing.T) {
	for _, c := range []struct {
		piece string
		want  int
	}{
		{"a", impl.BoBad}, {"0", impl.BoBad}, {"\r", impl.BoBad}, {"\n", impl.BoBad}, {"\r\n", impl.BoBad}, {"1\r\na\r\n", impl.BoBad}, {"0\r\n\r\n", impl.BoOk},
	} {
		long := strings.Repeat(c.piece, 1<<20)
		if _, _, code := impl.Unchunk(long); code != c.want {
			t.Errorf("Unchunk of many %q tells %d", c.piece, code)
		}
		if _, _, code := impl.BodyOf(nil, long, true); code != impl.BoBad {
			t.Errorf("BodyOf many %q, closing, tells %d", c.piece, code)
		}
	}
	long := strings.Repeat("w", 1<<20)
	for _, size := range []int{1, 1000, 1 << 19, 1 << 20, 1 << 21} {
		pieces := (len(long) + size - 1) / size
		if got := impl.Chunk(long, size); strings.Count(got, "\r\n") != 2*pieces+2 || strings.Count(got, "w") != len(long) {
			t.Errorf("Chunk of a long text with size %d has %d bytes", size, len(got))
		}
	}
}

func TestBodyOfTable(t *testing.T) {
	full, over := strings.Repeat("w", 60), strings.Repeat("w", 61)
	coded, counted := "transfer-encoding", "content-length"
	for _, c := range []struct {
		l       []impl.Field
		s, want string
		used    int
		code    int
	}{
		{fieldsOf(counted, "3"), "abcd", "abc", 3, impl.BoOk},
		{fieldsOf(counted, "4"), "abcd", "abcd", 4, impl.BoOk},
		{fieldsOf(counted, "5"), "abcd", "", 0, impl.BoMore},
		{fieldsOf(counted, "0"), "abcd", "", 0, impl.BoOk},
		{fieldsOf(counted, "0"), "", "", 0, impl.BoOk},
		{fieldsOf(counted, "1"), "", "", 0, impl.BoMore},
		{fieldsOf(counted, "0003"), "abcd", "abc", 3, impl.BoOk},
		{fieldsOf(counted, "60"), full, full, 60, impl.BoOk},
		{fieldsOf(counted, "60"), over, full, 60, impl.BoOk},
		{fieldsOf(counted, "60"), full[1:], "", 0, impl.BoMore},
		{fieldsOf(counted, "60"), "", "", 0, impl.BoMore},
		{fieldsOf(counted, "61"), "", "", 0, impl.BoBad},
		{fieldsOf(counted, "61"), over, "", 0, impl.BoBad},
		{fieldsOf(counted, "00000000000000000000060"), full, full, 60, impl.BoOk},
		{fieldsOf(counted, "18446744073709551616"), full, "", 0, impl.BoBad},
		{fieldsOf(counted, "18446744073709551619"), full, "", 0, impl.BoBad},
		{fieldsOf(counted, "9999999999"), "", "", 0, impl.BoBad},
		{fieldsOf(counted, ""), "abcd", "", 0, impl.BoBad},
		{fieldsOf(counted, "-1"), "abcd", "", 0, impl.BoBad},
		{fieldsOf(counted, "+3"), "abcd", "", 0, impl.BoBad},
		{fieldsOf(counted, " 3"), "abcd", "", 0, impl.BoBad},
		{fieldsOf(counted, "3 "), "abcd", "", 0, impl.BoBad},
		{fieldsOf(counted, "a"), "abcd", "", 0, impl.BoBad},
		{fieldsOf(counted, "0x3"), "abcd", "", 0, impl.BoBad},
		{fieldsOf(counted, "three"), "", "", 0, impl.BoBad},
		{fieldsOf(counted, "3", counted, "3"), "abcd", "", 0, impl.BoBad},
		{fieldsOf(counted, "3", "a", "b", counted, ""), "abcd", "", 0, impl.BoBad},
		{fieldsOf("a", "9", counted, "2", "b", "7"), "abcd", "ab", 2, impl.BoOk},
		{fieldsOf(counted, "3"), "\r\n\x00\xff", "\r\n\x00", 3, impl.BoOk},

		{fieldsOf(coded, "chunked"), "3\r\nabc\r\n0\r\n\r\nmore", "abc", 13, impl.BoOk},
		{fieldsOf(coded, "Chunked"), "3\r\nabc\r\n0\r\n\r\n", "abc", 13, impl.BoOk},
		{fieldsOf(coded, "CHUNKED"), "0\r\n\r\n", "", 5, impl.BoOk},
		{fieldsOf("a", "b", coded, "cHuNkEd", "c", "d"), "0\r\n\r\n", "", 5, impl.BoOk},
		{fieldsOf(coded, "chunked"), "", "", 0, impl.BoMore},
		{fieldsOf(coded, "chunked"), "3\r\nabc\r\n", "", 0, impl.BoMore},
		{fieldsOf(coded, "chunked"), "abc\r\n", "", 0, impl.BoBad},
		{fieldsOf(coded, "chunked"), "xyz\r\n", "", 0, impl.BoBad},
		{fieldsOf(coded, "chunked"), "3c\r\n" + full + "\r\n0\r\n\r\n", full, 71, impl.BoOk},
		{fieldsOf(coded, "chunked"), "3d\r\n" + over + "\r\n0\r\n\r\n", "", 0, impl.BoBad},
		{fieldsOf(coded, "gzip"), "0\r\n\r\n", "", 0, impl.BoBad},
		{fieldsOf(coded, "identity"), "abc", "", 0, impl.BoBad},
		{fieldsOf(coded, ""), "0\r\n\r\n", "", 0, impl.BoBad},
		{fieldsOf(coded, ""), "", "", 0, impl.BoBad},
		{fieldsOf(coded, " chunked"), "0\r\n\r\n", "", 0, impl.BoBad},
		{fieldsOf(coded, "chunked "), "0\r\n\r\n", "", 0, impl.BoBad},
		{fieldsOf(coded, "chunkedd"), "0\r\n\r\n", "", 0, impl.BoBad},
		{fieldsOf(coded, "chun\u212aed"), "0\r\n\r\n", "", 0, impl.BoBad},
		{fieldsOf(coded, "gzip, chunked"), "0\r\n\r\n", "", 0, impl.BoBad},
		{fieldsOf(coded, "gzip", coded, "chunked"), "0\r\n\r\n", "", 0, impl.BoBad},
		{fieldsOf(coded, "chunked", coded, "chunked"), "0\r\n\r\n", "", 0, impl.BoBad},

		{fieldsOf(coded, "chunked", counted, "5"), "0\r\n\r\n", "", 0, impl.BoBad},
		{fieldsOf(counted, "5", coded, "chunked"), "0\r\n\r\n", "", 0, impl.BoBad},
		{fieldsOf(counted, "5", coded, "chunked"), "", "", 0, impl.BoBad},
		{fieldsOf(counted, "0", coded, "Chunked"), "0\r\n\r\n", "", 0, impl.BoBad},
		{fieldsOf(counted, "", coded, "chunked"), "0\r\n\r\n", "", 0, impl.BoBad},
		{fieldsOf(counted, "3", coded, "gzip"), "abc", "", 0, impl.BoBad},
		{fieldsOf(counted, "3", coded, ""), "abc", "", 0, impl.BoBad},
	} {
		for _, closing := range []bool{false, true} {
			if got, used, code := impl.BodyOf(c.l, c.s, closing); got != c.want || used != c.used || code != c.code {
				t.Errorf("BodyOf(%q, %q, %v) is %q, %d, %d, not %q, %d, %d", c.l, c.s, closing, got, used, code, c.want, c.used, c.code)
			}
		}
	}
}

// Names are as FieldGet takes them: with large letters it is another field.
func TestBodyOfWithNeither(t *testing.T) {
	for _, l := range [][]impl.Field{nil, {}, fieldsOf("a", "b"), fieldsOf("Content-Length", "2", "Transfer-Encoding", "gzip"), fieldsOf("content-length ", "2", "", "2", "transfer", "encoding")} {
		for _, n := range []int{0, 1, 4, 59, 60, 61, 62, 1000} {
			s := bodyOfBytes(n)
			if got, used, code := impl.BodyOf(l, s, false); got != "" || used != 0 || code != impl.BoOk {
				t.Errorf("BodyOf(%q, %q, false) is %q, %d, %d", l, s, got, used, code)
			}
			want, many, is := s, n, impl.BoOk
			if n > 60 {
				want, many, is = "", 0, impl.BoBad
			}
			if got, used, code := impl.BodyOf(l, s, true); got != want || used != many || code != is {
				t.Errorf("BodyOf(%q, %q, true) is %q, %d, %d", l, s, got, used, code)
			}
		}
	}
}

func TestBodyOfEveryLength(t *testing.T) {
	for length := range 200 {
		for n := range 130 {
			s := bodyOfBytes(n)
			want, many, is := "", 0, impl.BoOk
			switch {
			case length > 60:
				is = impl.BoBad
			case n < length:
				is = impl.BoMore
			default:
				want, many = s[:length], length
			}
			got, used, code := impl.BodyOf(fieldsOf("content-length", strconv.Itoa(length)), s, n%2 == 0)
			if got != want || used != many || code != is {
				t.Fatalf("BodyOf %d of %d bytes is %q, %d, %d", length, n, got, used, code)
			}
		}
	}
}

func TestBodyOfChunkedIsUnchunk(t *testing.T) {
	l := fieldsOf("transfer-encoding", "chunked")
	for i, s := range manyChunkTexts() {
		want, many, is := impl.Unchunk(s)
		if got, used, code := impl.BodyOf(l, s, i%2 == 0); got != want || used != many || code != is {
			t.Fatalf("BodyOf a chunked %q is %q, %d, %d", s, got, used, code)
		}
	}
}

// liesWithin asks whether a text has its bytes in the memory of another.
func liesWithin(made, s string) bool {
	if made == "" || s == "" {
		return false
	}
	at, from := uintptr(unsafe.Pointer(unsafe.StringData(made))), uintptr(unsafe.Pointer(unsafe.StringData(s)))
	return at+uintptr(len(made)) > from && at < from+uintptr(len(s))
}

func TestBodiesAreNewMemory(t *testing.T) {
	plain := roundOf(letters, 40)
	for _, size := range []int{1, 40, 50} {
		if made := impl.Chunk(plain, size); liesWithin(made, plain) {
			t.Errorf("Chunk(%q, %d) shares memory with its text", plain, size)
		}
	}
	one, some := impl.Chunk(plain, 40), impl.Chunk(plain, 7)
	coded := fieldsOf("transfer-encoding", "chunked")
	for _, s := range []string{one, some} {
		if made, _, _ := impl.Unchunk(s); liesWithin(made, s) {
			t.Errorf("Unchunk(%q) shares memory with its text", s)
		}
		if made, _, _ := impl.BodyOf(coded, s, false); liesWithin(made, s) {
			t.Errorf("BodyOf a chunked %q shares memory with its text", s)
		}
	}
	for _, length := range []string{"1", "39", "40"} {
		if made, _, _ := impl.BodyOf(fieldsOf("content-length", length), plain, false); made == "" || liesWithin(made, plain) {
			t.Errorf("BodyOf %s bytes shares memory with its text", length)
		}
	}
	if made, _, _ := impl.BodyOf(nil, plain, true); made != plain || liesWithin(made, plain) {
		t.Errorf("BodyOf all bytes shares memory with its text")
	}
}

func TestBodyOfLeavesFieldsAsTheyAre(t *testing.T) {
	for _, l := range [][]impl.Field{
		fieldsOf("a", "b", "Transfer-Encoding", "X", "transfer-encoding", "CHUNKED"),
		fieldsOf("content-length", "03", "content-length", "3"),
	} {
		room := append(slices.Clone(l), fieldsOf("spare", "1", "room", "2")...)
		before := slices.Clone(room)
		impl.BodyOf(room[:len(l)], "0\r\n\r\n", true)
		if !slices.Equal(room, before) {
			t.Errorf("%q are %q behind BodyOf", before, room)
		}
	}
}
