package tests

import (
	"math"
	"strings"
	"testing"

	"loop.example/g01402/impl"
)

// bytesOf tells every text of exactly n of these signs.
func bytesOf(signs string, n int) []string {
	if n == 0 {
		return []string{""}
	}
	var out []string
	for _, head := range bytesOf(signs, n-1) {
		for i := range len(signs) {
			out = append(out, head+signs[i:i+1])
		}
	}
	return out
}

func allBytes() string {
	b := make([]byte, 256)
	for i := range b {
		b[i] = byte(i)
	}
	return string(b)
}

func TestFixedTable(t *testing.T) {
	for _, c := range []struct {
		n, width int
		want     string
	}{
		{0, 1, "\x00"},
		{255, 1, "\xff"},
		{256, 1, ""},
		{256, 2, "\x01\x00"},
		{258, 2, "\x01\x02"},
		{1, 7, "\x00\x00\x00\x00\x00\x00\x01"},
		{0x01020304050607, 7, "\x01\x02\x03\x04\x05\x06\x07"},
		{1<<56 - 1, 7, "\xff\xff\xff\xff\xff\xff\xff"},
		{1 << 56, 7, ""},
		{math.MaxInt, 7, ""},
		{0, 0, ""},
		{0, 8, ""},
		{1, 8, ""},
		{0, -1, ""},
		{0, math.MinInt, ""},
		{0, math.MaxInt, ""},
		{-1, 1, ""},
		{-1, 7, ""},
		{math.MinInt, 7, ""},
	} {
		if got := impl.Fixed(c.n, c.width); got != c.want {
			t.Errorf("Fixed(%d, %d) is %q, not %q", c.n, c.width, got, c.want)
		}
	}
}

func TestFixedEveryWidth(t *testing.T) {
	for width := 1; width <= 7; width++ {
		above := 1 << (8 * width)
		for _, n := range []int{0, 1, 127, 128, 255, above / 3, above/2 - 1, above / 2, above - 2, above - 1} {
			s := impl.Fixed(n, width)
			if len(s) != width {
				t.Fatalf("Fixed(%d, %d) is %q", n, width, s)
			}
			if got, ok := impl.ReadFixed(s+"\x07", width); got != n || !ok {
				t.Errorf("ReadFixed(%q, %d) is %d, %v", s+"\x07", width, got, ok)
			}
		}
		if s := impl.Fixed(above, width); s != "" {
			t.Errorf("Fixed(%d, %d) is %q", above, width, s)
		}
	}
}

func TestReadFixedTellsOnlyWhatFixedMakes(t *testing.T) {
	for _, s := range append(bytesOf(allBytes(), 2), bytesOf("\x00\x01\x7f\x80\xff", 4)...) {
		for width := -1; width <= 9; width++ {
			n, ok := impl.ReadFixed(s, width)
			if want := width >= 1 && width <= 7 && width <= len(s); ok != want {
				t.Fatalf("ReadFixed(%q, %d) tells %v", s, width, ok)
			}
			if ok && impl.Fixed(n, width) != s[:width] {
				t.Fatalf("ReadFixed(%q, %d) is %d", s, width, n)
			}
			if !ok && n != 0 {
				t.Fatalf("ReadFixed(%q, %d) is %d beside a false", s, width, n)
			}
		}
	}
}

func TestReadFixedWrong(t *testing.T) {
	for _, c := range []struct {
		s     string
		width int
	}{
		{"", 1},
		{"a", 2},
		{"abcdef", 7},
		{"abcdefgh", 0},
		{"abcdefgh", 8},
		{"abcdefghi", 9},
		{"abcdefgh", -1},
		{"abcdefgh", math.MinInt},
		{"abcdefgh", math.MaxInt},
	} {
		if n, ok := impl.ReadFixed(c.s, c.width); n != 0 || ok {
			t.Errorf("ReadFixed(%q, %d) is %d, %v", c.s, c.width, n, ok)
		}
	}
}

func TestVarTable(t *testing.T) {
	for _, c := range []struct {
		n    int
		want string
	}{
		{0, "\x00"},
		{1, "\x01"},
		{127, "\x7f"},
		{128, "\x80\x01"},
		{300, "\xac\x02"},
		{16383, "\xff\x7f"},
		{16384, "\x80\x80\x01"},
		{1 << 42, "\x80\x80\x80\x80\x80\x80\x01"},
		{impl.MaxVar, "\xff\xff\xff\xff\xff\xff\x7f"},
		{impl.MaxVar + 1, ""},
		{math.MaxInt, ""},
		{-1, ""},
		{math.MinInt, ""},
	} {
		if got := impl.Var(c.n); got != c.want {
			t.Errorf("Var(%d) is %q, not %q", c.n, got, c.want)
		}
	}
}

func TestReadVarTakesWhatVarMakes(t *testing.T) {
	for width := 1; width <= 7; width++ {
		above := 1 << (7 * width)
		for _, n := range []int{0, 1, above / 128, above / 3, above / 2, above - 1} {
			s := impl.Var(n)
			for _, behind := range []string{"", "\x00", "\x80", "\xff\xff", "z"} {
				if got, k := impl.ReadVar(s + behind); got != n || k != len(s) {
					t.Errorf("ReadVar(%q) is %d, %d", s+behind, got, k)
				}
			}
			for k := range len(s) {
				if got, used := impl.ReadVar(s[:k]); got != 0 || used != 0 {
					t.Errorf("ReadVar(%q), cut off, is %d, %d", s[:k], got, used)
				}
			}
		}
	}
}

func TestReadVarTellsOnlyWhatVarMakes(t *testing.T) {
	texts := append(bytesOf(allBytes(), 2), bytesOf("\x00\x01\x7f\x80\xff", 8)...)
	for _, s := range texts {
		n, k := impl.ReadVar(s)
		if want := varAhead(s); k != want {
			t.Fatalf("ReadVar(%q) has %d bytes, not %d", s, k, want)
		}
		if k == 0 && n != 0 || k > 0 && impl.Var(n) != s[:k] {
			t.Fatalf("ReadVar(%q) is %d, %d", s, n, k)
		}
	}
}

// varAhead says of the bytes alone how long the number is with which they begin.
func varAhead(s string) int {
	last := strings.IndexFunc(s, func(r rune) bool { return r < 128 })
	switch {
	case last < 0 || last > 6:
		return 0
	case last > 0 && s[last] == 0:
		return 0
	}
	return last + 1
}

func TestReadVarWrong(t *testing.T) {
	for _, s := range []string{
		"",
		"\x80",
		"\xff\xff\xff",
		"\x80\x00",
		"\xff\x00",
		"\xac\x82\x00",
		"\x80\x80\x80\x80\x80\x80\x00",
		"\x80\x80\x80\x80\x80\x80\x80",
		"\x80\x80\x80\x80\x80\x80\x80\x00",
		"\x80\x80\x80\x80\x80\x80\x80\x01",
		"\xff\xff\xff\xff\xff\xff\xff\x00",
		"\xff\xff\xff\xff\xff\xff\xff\x7f",
		"\xff\xff\xff\xff\xff\xff\xff\xff\x7f",
		"\x80\x80\x80\x80\x80\x80\x80\x80\x80\x80\x01",
	} {
		if n, k := impl.ReadVar(s); n != 0 || k != 0 {
			t.Errorf("ReadVar(%q) is %d, %d", s, n, k)
		}
	}
}

func TestHex(t *testing.T) {
	for _, c := range []struct{ s, want string }{
		{"", ""},
		{"a", "61"},
		{"\x00", "00"},
		{"\x0f\xf0", "0ff0"},
		{"a\xff", "61ff"},
		{"\x01\x23\x45\x67\x89\xab\xcd\xef", "0123456789abcdef"},
	} {
		if got := impl.Hex(c.s); got != c.want {
			t.Errorf("Hex(%q) is %q, not %q", c.s, got, c.want)
		}
	}
	every := allBytes()
	if got, ok := impl.Unhex(impl.Hex(every)); got != every || !ok {
		t.Errorf("Unhex of Hex of every byte is %q, %v", got, ok)
	}
}

func TestUnhexTellsOnlyWhatHexMakes(t *testing.T) {
	const digits = "0123456789abcdef"
	for _, s := range append(bytesOf(allBytes(), 2), bytesOf("09afgAF/:`", 4)...) {
		got, ok := impl.Unhex(s)
		if want := strings.Trim(s, digits) == "" && strings.ContainsAny(s, digits); ok != want {
			t.Fatalf("Unhex(%q) tells %v", s, ok)
		}
		if ok && impl.Hex(got) != s || !ok && got != "" {
			t.Fatalf("Unhex(%q) is %q, %v", s, got, ok)
		}
	}
	if got, ok := impl.Unhex(""); got != "" || !ok {
		t.Errorf("Unhex of the empty text is %q, %v", got, ok)
	}
}

func TestUnhexWrong(t *testing.T) {
	for _, s := range []string{"6", "61f", "6F", "F6", "6g", "g6", " 61", "61 ", "0x61", "61-1", "6\x00", "\xff\xff", "61ffzz", "zz61ff"} {
		if got, ok := impl.Unhex(s); got != "" || ok {
			t.Errorf("Unhex(%q) is %q, %v", s, got, ok)
		}
	}
}

func TestDec(t *testing.T) {
	for _, c := range []struct {
		n    int
		want string
	}{
		{0, "0"},
		{7, "7"},
		{-7, "-7"},
		{10, "10"},
		{-120, "-120"},
		{999999999, "999999999"},
		{1000000000, "1000000000"},
		{math.MaxInt, "9223372036854775807"},
		{math.MinInt + 1, "-9223372036854775807"},
		{math.MinInt, "-9223372036854775808"},
	} {
		if got := impl.Dec(c.n); got != c.want {
			t.Errorf("Dec(%d) is %q, not %q", c.n, got, c.want)
		}
	}
}

func TestReadDecTakesWhatDecMakes(t *testing.T) {
	for _, n := range []int{0, 1, -1, 9, 10, -10, 99, 100, 123456789, -123456789, 100000000, 999999998, 999999999, -999999999} {
		if got, ok := impl.ReadDec(impl.Dec(n)); got != n || !ok {
			t.Errorf("ReadDec(%q) is %d, %v", impl.Dec(n), got, ok)
		}
	}
	for _, n := range []int{1000000000, -1000000000, 1000000001, 4294967296, 9999999999, 18446744073, math.MaxInt, math.MinInt} {
		if got, ok := impl.ReadDec(impl.Dec(n)); got != 0 || ok {
			t.Errorf("ReadDec(%q) is %d, %v", impl.Dec(n), got, ok)
		}
	}
}

func TestReadDecTellsOnlyWhatDecMakes(t *testing.T) {
	made := map[string]int{}
	for n := -999; n <= 9999; n++ {
		made[impl.Dec(n)] = n
	}
	for size := 0; size <= 4; size++ {
		for _, s := range bytesOf("019-+ _.xe", size) {
			want, is := made[s]
			if got, ok := impl.ReadDec(s); got != want || ok != is {
				t.Fatalf("ReadDec(%q) is %d, %v", s, got, ok)
			}
		}
	}
	for _, s := range bytesOf(allBytes(), 2) {
		want, is := made[s]
		if got, ok := impl.ReadDec(s); got != want || ok != is {
			t.Fatalf("ReadDec(%q) is %d, %v", s, got, ok)
		}
	}
}

func TestReadDecWrong(t *testing.T) {
	for _, s := range []string{
		"", "-", "+", "-0", "00", "01", "-01", "+1", "+0", "--1", "1-", " 1", "1 ", "1\n", "1\x00", "\x001",
		"1_0", "0x1", "1e3", "1.0", "a", "٣", "000000001", "0999999999", "-0999999999", "+999999999",
		"1000000000", "-1000000000", "9223372036854775808", "18446744073709551617", strings.Repeat("0", 40), strings.Repeat("9", 40),
	} {
		if got, ok := impl.ReadDec(s); got != 0 || ok {
			t.Errorf("ReadDec(%q) is %d, %v", s, got, ok)
		}
	}
}

// Room is asked for by how long a text is: a long one must not cost its square.
func TestHexLong(t *testing.T) {
	long := strings.Repeat("\x00\x9f~", 1<<20)
	if got, ok := impl.Unhex(impl.Hex(long)); got != long || !ok {
		t.Error("a long text does not come back")
	}
}
