package tests

import (
	"math"
	"math/big"
	"slices"
	"strconv"
	"strings"
	"testing"

	"loop.example/g01402/impl"
)

const maxSec = 2147483648

// answerOf tells a response of these fields, names and values in turn.
func answerOf(texts ...string) impl.Response {
	return impl.Response{Status: 200, Fields: fieldsOf(texts...)}
}

func TestSatAddTable(t *testing.T) {
	for _, c := range []struct{ a, b, want int }{
		{0, 0, 0}, {0, 1, 1}, {1, 0, 1}, {2, 3, 5}, {1000, 1, 1001},
		{maxSec - 1, 0, maxSec - 1}, {maxSec - 2, 1, maxSec - 1}, {maxSec / 2, maxSec/2 - 1, maxSec - 1},
		{maxSec, 0, maxSec}, {0, maxSec, maxSec}, {maxSec - 1, 1, maxSec}, {maxSec / 2, maxSec / 2, maxSec},
		{maxSec, 1, maxSec}, {1, maxSec, maxSec}, {maxSec - 1, 2, maxSec}, {maxSec/2 + 1, maxSec / 2, maxSec}, {maxSec, maxSec, maxSec},
		{maxSec + 1, 0, maxSec}, {0, maxSec + 1, maxSec}, {maxSec + 1, maxSec + 1, maxSec}, {2 * maxSec, 2 * maxSec, maxSec}, {4 * maxSec, 1, maxSec},
		{-1, 0, 0}, {0, -1, 0}, {-1, -1, 0}, {-5, 3, 3}, {3, -5, 3}, {-1, maxSec, maxSec}, {maxSec, -1, maxSec}, {maxSec + 5, -5, maxSec}, {-maxSec, maxSec - 1, maxSec - 1},
		{math.MaxInt, math.MaxInt, maxSec}, {math.MaxInt, 0, maxSec}, {0, math.MaxInt, maxSec}, {math.MaxInt, 1, maxSec}, {math.MaxInt, maxSec, maxSec},
		{math.MinInt, math.MinInt, 0}, {math.MinInt, 0, 0}, {math.MinInt, -1, 0}, {math.MinInt, 7, 7}, {7, math.MinInt, 7},
		{math.MinInt, math.MaxInt, maxSec}, {math.MaxInt, math.MinInt, maxSec}, {math.MaxInt, -1, maxSec},
		{math.MaxInt32, 1, maxSec}, {math.MaxUint32, 1, maxSec}, {1 << 62, 1 << 62, maxSec},
	} {
		if got := impl.SatAdd(c.a, c.b); got != c.want {
			t.Errorf("SatAdd(%d, %d) is %d, not %d", c.a, c.b, got, c.want)
		}
	}
}

// manyNumbers stand around each edge that a sum or a difference has.
func manyNumbers() []int {
	out := []int{math.MinInt, math.MinInt + 1, math.MaxInt - 1, math.MaxInt}
	for _, edge := range []int{-maxSec, 0, 100, maxSec / 2, 2000000000, maxSec, 2 * maxSec, math.MinInt / 2, math.MaxInt / 2} {
		out = append(out, edge-1, edge, edge+1)
	}
	return out
}

// secBy is at least 0 and at most MaxSec.
func secBy(n *big.Int) *big.Int {
	if n.Sign() < 0 {
		return big.NewInt(0)
	}
	if n.Cmp(top) > 0 {
		return top
	}
	return n
}

func sumBy(a, b int) int {
	sum := new(big.Int).Add(secBy(big.NewInt(int64(a))), secBy(big.NewInt(int64(b))))
	return int(secBy(sum).Int64())
}

func TestSatAddAsGreatNumbersDo(t *testing.T) {
	for _, a := range manyNumbers() {
		for _, b := range manyNumbers() {
			got := impl.SatAdd(a, b)
			if want := sumBy(a, b); got != want {
				t.Errorf("SatAdd(%d, %d) is %d, not %d", a, b, got, want)
			}
			for _, c := range manyNumbers() {
				if one, two := impl.SatAdd(got, c), impl.SatAdd(a, impl.SatAdd(b, c)); one != two {
					t.Errorf("the sum of %d, %d and %d is %d and %d", a, b, c, one, two)
				}
			}
		}
	}
}

func TestDateOfTable(t *testing.T) {
	zero, last := impl.ShowDate(0), impl.ShowDate(2000000000)
	for _, c := range []struct {
		l    []impl.Field
		name string
		want int
		is   bool
	}{
		{fieldsOf("date", someDate), "date", someSecond, true},
		{fieldsOf("date", zero), "date", 0, true},
		{fieldsOf("date", last), "date", 2000000000, true},
		{fieldsOf("date", zero, "expires", last, "last-modified", someDate), "date", 0, true},
		{fieldsOf("date", zero, "expires", last, "last-modified", someDate), "expires", 2000000000, true},
		{fieldsOf("date", zero, "expires", last, "last-modified", someDate), "last-modified", someSecond, true},
		{fieldsOf("any", someDate), "any", someSecond, true},
		{fieldsOf("", someDate), "", someSecond, true},
		{fieldsOf("Date", zero, "date", someDate), "Date", 0, true},

		{nil, "date", 0, false},
		{nil, "", 0, false},
		{[]impl.Field{}, "date", 0, false},
		{fieldsOf("expires", someDate), "date", 0, false},
		{fieldsOf("Date", someDate), "date", 0, false},
		{fieldsOf("date", someDate), "Date", 0, false},
		{fieldsOf("date", someDate), "dat", 0, false},
		{fieldsOf("date", someDate), "date ", 0, false},
		{fieldsOf("date", someDate), "", 0, false},
		{fieldsOf(someDate, "date"), "date", 0, false},

		{fieldsOf("date", ""), "date", 0, false},
		{fieldsOf("date", "0"), "date", 0, false},
		{fieldsOf("date", "784111777"), "date", 0, false},
		{fieldsOf("date", " "+someDate), "date", 0, false},
		{fieldsOf("date", someDate+" "), "date", 0, false},
		{fieldsOf("date", strings.ToLower(someDate)), "date", 0, false},
		{fieldsOf("date", "Mon, 06 Nov 1994 08:49:37 GMT"), "date", 0, false},
		{fieldsOf("date", "Sunday, 06-Nov-94 08:49:37 GMT"), "date", 0, false},
		{fieldsOf("date", "Sun Nov  6 08:49:37 1994"), "date", 0, false},
		{fieldsOf("date", "Wed, 18 May 2033 03:33:21 GMT"), "date", 0, false},
		{fieldsOf("date", "Wed, 31 Dec 1969 23:59:59 GMT"), "date", 0, false},

		{fieldsOf("date", someDate, "date", someDate), "date", 0, false},
		{fieldsOf("date", someDate, "date", ""), "date", 0, false},
		{fieldsOf("date", "", "date", someDate), "date", 0, false},
		{fieldsOf("date", "Sun", "date", "06 Nov 1994 08:49:37 GMT"), "date", someSecond, true},
	} {
		if got, ok := impl.DateOf(c.l, c.name); got != c.want || ok != c.is {
			t.Errorf("DateOf(%q, %q) is %d, %v, not %d, %v", c.l, c.name, got, ok, c.want, c.is)
		}
	}
}

func TestLifetimeOfWhatIsSaid(t *testing.T) {
	day := impl.ShowDate
	dated := []string{"date", day(1000), "expires", day(1007), "last-modified", day(100)}
	for _, c := range []struct {
		said []string
		want int
	}{
		{[]string{"s-maxage=8"}, 8},
		{[]string{"max-age=5"}, 5},
		{[]string{"max-age=5, s-maxage=8"}, 8},
		{[]string{"s-maxage=8, max-age=5"}, 8},
		{[]string{"s-maxage=5, max-age=8"}, 5},
		{[]string{"max-age=8", "s-maxage=5"}, 5},
		{[]string{"s-maxage=0, max-age=5"}, 0},
		{[]string{"max-age=0"}, 0},
		{[]string{"S-MaxAge=8, MAX-AGE=5"}, 8},
		{[]string{`s-maxage="8", max-age="5"`}, 8},

		{[]string{"s-maxage, max-age=5"}, 0},
		{[]string{"s-maxage=, max-age=5"}, 0},
		{[]string{"s-maxage=x, max-age=5"}, 0},
		{[]string{"s-maxage=-8, max-age=5"}, 0},
		{[]string{"s-maxage=+8, max-age=5"}, 0},
		{[]string{"s-maxage=8, max-age=x"}, 8},
		{[]string{"max-age"}, 0},
		{[]string{"max-age=x"}, 0},
		{[]string{"max-age=-5"}, 0},
		{[]string{"max-age= 5"}, 0},

		{[]string{"s-maxage=8, s-maxage=6, max-age=5"}, 6},
		{[]string{"s-maxage=6, s-maxage=8", "max-age=5"}, 6},
		{[]string{"s-maxage=8", "s-maxage=x", "max-age=5"}, 0},
		{[]string{"max-age=5, max-age=4"}, 4},
		{[]string{"max-age=4", "max-age=5", "max-age=6"}, 4},
		{[]string{"max-age=4, max-age"}, 0},

		{[]string{"max-age=2147483647"}, maxSec - 1},
		{[]string{"max-age=2147483648"}, maxSec},
		{[]string{"max-age=2147483649"}, maxSec},
		{[]string{"s-maxage=99999999999999999999"}, maxSec},

		{[]string{"s-maxage =8, max-age=5"}, 5},
		{[]string{"smaxage=8, max-age=5"}, 5},
		{[]string{`x="s-maxage=8", max-age=5`}, 5},
		{nil, 7},
		{[]string{""}, 7},
		{[]string{"public, no-store, maxage=3, max-age =4, =5"}, 7},
	} {
		r := answerOf(dated...)
		for _, said := range c.said {
			r.Fields = append(r.Fields, impl.Field{Name: caching, Value: said})
		}
		if got := impl.Lifetime(r); got != c.want {
			t.Errorf("Lifetime of %q is %d, not %d", r.Fields, got, c.want)
		}
	}
}

func TestLifetimeOfDates(t *testing.T) {
	day := impl.ShowDate
	for _, c := range []struct {
		texts []string
		want  int
	}{
		{nil, 0},
		{[]string{"vary", "a"}, 0},
		{[]string{"date", day(10)}, 0},
		{[]string{"expires", day(70)}, 0},
		{[]string{"last-modified", day(70)}, 0},
		{[]string{"age", "3"}, 0},
		{[]string{"expires", day(70), "last-modified", day(5)}, 0},

		{[]string{"date", day(10), "expires", day(70)}, 60},
		{[]string{"expires", day(70), "date", day(10)}, 60},
		{[]string{"date", day(10), "expires", day(11)}, 1},
		{[]string{"date", day(10), "expires", day(10)}, 0},
		{[]string{"date", day(10), "expires", day(9)}, 0},
		{[]string{"date", day(2000000000), "expires", day(0)}, 0},
		{[]string{"date", day(0), "expires", day(2000000000)}, 2000000000},
		{[]string{"date", day(0), "expires", day(1)}, 1},
		{[]string{"date", day(0), "expires", day(0)}, 0},

		{[]string{"date", day(10), "expires", "0"}, 0},
		{[]string{"date", day(10), "expires", ""}, 0},
		{[]string{"date", day(10), "expires", "-1"}, 0},
		{[]string{"date", day(10), "expires", "70"}, 0},
		{[]string{"date", day(10), "expires", " " + day(70)}, 0},
		{[]string{"date", day(10), "expires", strings.ToUpper(day(70))}, 0},
		{[]string{"date", day(10), "expires", day(70), "expires", day(70)}, 0},
		{[]string{"date", "10", "expires", day(70)}, 0},
		{[]string{"date", "", "expires", day(70)}, 0},
		{[]string{"date", day(10), "date", day(10), "expires", day(70)}, 0},
		{[]string{"date", "x", "expires", "y"}, 0},
		{[]string{"Date", day(10), "expires", day(70)}, 0},
		{[]string{"date", day(10), "Expires", day(70)}, 0},

		{[]string{"date", day(1000), "expires", day(1007), "last-modified", day(0)}, 7},
		{[]string{"date", day(1000), "expires", day(1000), "last-modified", day(0)}, 0},
		{[]string{"date", day(1000), "expires", day(999), "last-modified", day(0)}, 0},
		{[]string{"date", day(1000), "expires", "0", "last-modified", day(0)}, 0},
		{[]string{"date", day(1000), "expires", "", "last-modified", day(0)}, 0},

		{[]string{"date", day(1000), "last-modified", day(0)}, 100},
		{[]string{"last-modified", day(5), "date", day(100)}, 9},
		{[]string{"date", day(20), "last-modified", day(10)}, 1},
		{[]string{"date", day(19), "last-modified", day(10)}, 0},
		{[]string{"date", day(29), "last-modified", day(10)}, 1},
		{[]string{"date", day(30), "last-modified", day(10)}, 2},
		{[]string{"date", day(11), "last-modified", day(10)}, 0},
		{[]string{"date", day(10), "last-modified", day(10)}, 0},
		{[]string{"date", day(10), "last-modified", day(11)}, 0},
		{[]string{"date", day(10), "last-modified", day(100)}, 0},
		{[]string{"date", day(0), "last-modified", day(2000000000)}, 0},
		{[]string{"date", day(2000000000), "last-modified", day(0)}, 200000000},
		{[]string{"date", day(1999999999), "last-modified", day(0)}, 199999999},

		{[]string{"date", day(1000), "last-modified", "0"}, 0},
		{[]string{"date", day(1000), "last-modified", ""}, 0},
		{[]string{"date", "1000", "last-modified", day(0)}, 0},
		{[]string{"date", "", "last-modified", day(0)}, 0},
		{[]string{"date", day(1000), "last-modified", day(0), "last-modified", day(0)}, 0},
		{[]string{"date", day(1000), "date", day(1000), "last-modified", day(0)}, 0},
		{[]string{"Date", day(1000), "last-modified", day(0)}, 0},
		{[]string{"date", day(1000), "Last-Modified", day(0)}, 0},
	} {
		r := answerOf(c.texts...)
		if got := impl.Lifetime(r); got != c.want {
			t.Errorf("Lifetime of %q is %d, not %d", r.Fields, got, c.want)
		}
	}
}

// A word of a request, or one that stands elsewhere, says nothing here.
func TestLifetimeOfOtherWords(t *testing.T) {
	for _, l := range [][]impl.Field{
		fieldsOf("Cache-Control", "max-age=5"),
		fieldsOf("cache-contro", "max-age=5"),
		fieldsOf("pragma", "max-age=5"),
		fieldsOf("max-age", "5", "s-maxage", "6"),
		fieldsOf("vary", "max-age=5", "x", "s-maxage=6"),
		fieldsOf(caching, "min-fresh=5, max-stale=6, stale-while-revalidate=7"),
	} {
		if got := impl.Lifetime(impl.Response{Status: 200, Fields: l}); got != 0 {
			t.Errorf("Lifetime of %q is %d", l, got)
		}
	}
}

func TestFirstAgeByDate(t *testing.T) {
	for _, c := range []struct {
		sent, came, want int
	}{
		{10, 12, 2}, {10, 11, 1}, {10, 10, 0}, {10, 9, 0}, {10, 0, 0}, {10, -1, 0}, {10, math.MinInt, 0},
		{0, 0, 0}, {0, 1, 1}, {0, -1, 0}, {0, math.MinInt, 0}, {1, math.MinInt, 0}, {2000000000, math.MinInt, 0}, {2000000000, math.MinInt + 1, 0},
		{0, maxSec - 1, maxSec - 1}, {0, maxSec, maxSec}, {0, maxSec + 1, maxSec}, {1, maxSec, maxSec - 1}, {1, maxSec + 1, maxSec}, {1, maxSec + 2, maxSec},
		{2000000000, 1999999999, 0}, {2000000000, 2000000000, 0}, {2000000000, 2000000001, 1},
		{2000000000, 2000000000 + maxSec - 1, maxSec - 1}, {2000000000, 2000000000 + maxSec, maxSec}, {2000000000, 2000000000 + maxSec + 1, maxSec},
		{0, math.MaxInt, maxSec}, {10, math.MaxInt, maxSec}, {2000000000, math.MaxInt, maxSec},
	} {
		r := answerOf("date", impl.ShowDate(c.sent))
		for _, asked := range []int{c.came, -1, math.MinInt, math.MaxInt} {
			if got := impl.FirstAge(r, asked, c.came); got != c.want {
				t.Errorf("FirstAge of date %d, asked for at %d, that came at %d is %d, not %d", c.sent, asked, c.came, got, c.want)
			}
		}
	}
}

func TestFirstAgeByAgeAndWay(t *testing.T) {
	for _, c := range []struct {
		age               string
		asked, came, want int
	}{
		{"3", 10, 12, 5}, {"3", 12, 12, 3}, {"3", 10, 11, 4}, {"0", 10, 12, 2}, {"0", 10, 10, 0}, {"007", 10, 10, 7},
		{"3", 13, 12, 3}, {"3", 1000, 12, 3}, {"3", math.MaxInt, 12, 3}, {"3", math.MaxInt, math.MaxInt, 3}, {"3", math.MaxInt - 1, math.MaxInt, 4},
		{"3", 0, 12, 15}, {"3", -1, 12, 3}, {"3", -100, 12, 3}, {"3", math.MinInt, 12, 3}, {"3", math.MinInt, math.MaxInt, 3}, {"3", math.MinInt, math.MinInt, 3},
		{"3", -5, -2, 3}, {"3", -1, 0, 3}, {"3", 0, -1, 3}, {"3", 0, 0, 3}, {"3", 0, 1, 4}, {"3", 10, math.MinInt, 3}, {"3", math.MaxInt, math.MinInt, 3},
		{"3", 0, math.MaxInt, maxSec}, {"0", 0, math.MaxInt, maxSec}, {"0", 10, math.MaxInt, maxSec},

		{"0", 0, maxSec - 1, maxSec - 1}, {"0", 0, maxSec, maxSec}, {"0", 0, maxSec + 1, maxSec}, {"1", 0, maxSec - 2, maxSec - 1}, {"1", 0, maxSec - 1, maxSec}, {"1", 0, maxSec, maxSec},
		{"2147483647", 5, 5, maxSec - 1}, {"2147483647", 5, 6, maxSec}, {"2147483647", 5, 7, maxSec},
		{"2147483648", 5, 5, maxSec}, {"2147483648", 5, 9, maxSec}, {"2147483649", 5, 5, maxSec}, {"99999999999999999999", 5, 9, maxSec}, {"18446744073709551617", 5, 5, maxSec},

		{"", 10, 12, 2}, {"x", 10, 12, 2}, {"3x", 10, 12, 2}, {"x3", 10, 12, 2}, {"-3", 10, 12, 2}, {"+3", 10, 12, 2}, {"-0", 10, 12, 2}, {" 3", 10, 12, 2}, {"3 ", 10, 12, 2},
		{"3.5", 10, 12, 2}, {"3,4", 10, 12, 2}, {"3, 4", 10, 12, 2}, {`"3"`, 10, 12, 2}, {"0x3", 10, 12, 2}, {"1e3", 10, 12, 2}, {"\u0663", 10, 12, 2},
		{"-99999999999999999999", 10, 12, 2}, {"x", 13, 12, 0}, {"-3", -1, 12, 0},
	} {
		r := answerOf("age", c.age)
		if got := impl.FirstAge(r, c.asked, c.came); got != c.want {
			t.Errorf("FirstAge of age %q, asked for at %d, that came at %d is %d, not %d", c.age, c.asked, c.came, got, c.want)
		}
	}
}

func TestFirstAgeIsTheGreater(t *testing.T) {
	date := func(sec int) string { return impl.ShowDate(sec) }
	for _, c := range []struct {
		texts             []string
		asked, came, want int
	}{
		{nil, 10, 12, 2},
		{nil, 12, 12, 0},
		{nil, 13, 12, 0},
		{nil, -1, 12, 0},
		{nil, 0, 0, 0},
		{[]string{"date", date(10), "age", "3"}, 10, 12, 5},
		{[]string{"date", date(10), "age", "3"}, 10, 17, 10},
		{[]string{"age", "3", "date", date(10)}, 30, 30, 20},
		{[]string{"date", date(10), "age", "20"}, 30, 30, 20},
		{[]string{"date", date(10), "age", "21"}, 30, 30, 21},
		{[]string{"date", date(10), "age", "19"}, 30, 30, 20},
		{[]string{"date", date(10), "age", "19"}, 29, 30, 20},
		{[]string{"date", date(10), "age", "19"}, 28, 30, 21},
		{[]string{"date", date(10)}, 25, 30, 20},
		{[]string{"date", date(10)}, 5, 30, 25},
		{[]string{"date", date(10)}, 5, 10, 5},
		{[]string{"date", date(10)}, 5, 8, 3},
		{[]string{"date", date(100), "age", "4"}, 30, 30, 4},
		{[]string{"date", date(100), "age", "4"}, 28, 30, 6},
		{[]string{"date", date(2000000000), "age", "4"}, 30, 30, 4},
		{[]string{"date", "10", "age", "4"}, 30, 30, 4},
		{[]string{"date", "", "age", "x"}, 28, 30, 2},
		{[]string{"date", date(10), "date", date(10)}, 30, 30, 0},
		{[]string{"date", date(10), "age", "30", "age", "30"}, 30, 30, 20},
		{[]string{"date", date(10), "age", "30, 30"}, 30, 30, 20},
		{[]string{"Date", date(10), "Age", "30"}, 30, 30, 0},
		{[]string{"expires", date(10), "last-modified", date(5), caching, "max-age=7"}, 30, 30, 0},
		{[]string{"date", date(0), "age", "99999999999"}, 0, math.MaxInt, maxSec},
		{[]string{"date", date(0), "age", "5"}, math.MinInt, math.MinInt, 5},
	} {
		r := answerOf(c.texts...)
		if got := impl.FirstAge(r, c.asked, c.came); got != c.want {
			t.Errorf("FirstAge of %q, asked for at %d, that came at %d is %d, not %d", r.Fields, c.asked, c.came, got, c.want)
		}
	}
}

func TestAgeAtTable(t *testing.T) {
	dated := []string{"date", impl.ShowDate(10), "age", "3"}
	for _, c := range []struct {
		texts                  []string
		asked, came, now, want int
	}{
		{dated, 10, 12, 20, 13},
		{dated, 10, 12, 13, 6},
		{dated, 10, 12, 12, 5},
		{dated, 10, 12, 11, 5},
		{dated, 10, 12, 0, 5},
		{dated, 10, 12, -1, 5},
		{dated, 10, 12, math.MinInt, 5},
		{dated, 10, 17, 20, 13},
		{dated, 30, 30, 31, 21},
		{nil, 0, 0, 0, 0},
		{nil, 0, 0, 1, 1},
		{nil, 5, 5, 4, 0},
		{nil, 3, 5, 8, 5},
		{nil, 5, 3, 8, 5},
		{nil, -1, 3, 8, 5},

		{nil, -1, 0, 8, 8},
		{nil, -1, -1, 8, 0},
		{nil, -1, -2, -1, 0},
		{nil, -1, -8, 8, 0},
		{nil, -1, math.MinInt, 8, 0},
		{nil, math.MinInt, math.MinInt, math.MaxInt, 0},
		{nil, math.MinInt, math.MinInt, math.MinInt, 0},
		{dated, -1, -1, 8, 3},
		{dated, 5, -1, 8, 3},
		{dated, math.MinInt, math.MinInt, math.MaxInt, 3},
		{dated, math.MaxInt, math.MinInt, math.MaxInt, 3},

		{nil, 0, 0, maxSec - 1, maxSec - 1},
		{nil, 0, 0, maxSec, maxSec},
		{nil, 0, 0, maxSec + 1, maxSec},
		{nil, 0, 0, math.MaxInt, maxSec},
		{nil, 7, 7, math.MaxInt, maxSec},
		{nil, math.MaxInt, math.MaxInt, math.MaxInt, 0},
		{nil, math.MaxInt, math.MaxInt - 1, math.MaxInt, 1},
		{nil, math.MaxInt - 1, math.MaxInt, math.MaxInt, 1},
		{nil, math.MaxInt, math.MaxInt, math.MinInt, 0},
		{[]string{"age", "2147483640"}, 0, 0, 7, maxSec - 1},
		{[]string{"age", "2147483640"}, 0, 0, 8, maxSec},
		{[]string{"age", "2147483640"}, 0, 0, 9, maxSec},
		{[]string{"age", "2147483640"}, 0, 5, 7, maxSec - 1},
		{[]string{"age", "2147483640"}, 0, 5, 8, maxSec},
		{[]string{"age", "2147483640"}, 0, 5, 9, maxSec},
		{[]string{"age", "2147483648"}, 0, 0, 0, maxSec},
		{[]string{"age", "2147483648"}, 0, 0, 1, maxSec},
		{[]string{"age", "9999999999"}, 0, 0, 1, maxSec},
		{[]string{"age", "-5"}, 0, 0, 1, 1},
		{[]string{"age", "5s"}, 0, 0, 1, 1},

		{[]string{"date", impl.ShowDate(100)}, 30, 30, 31, 1},
		{[]string{"date", impl.ShowDate(100)}, 30, 30, 99, 69},
		{[]string{"date", impl.ShowDate(100)}, 30, 30, 101, 71},
		{[]string{"date", impl.ShowDate(100)}, 30, 30, 29, 0},
		{[]string{"date", impl.ShowDate(100), "age", "4"}, 28, 30, 31, 7},
	} {
		r := answerOf(c.texts...)
		if got := impl.AgeAt(r, c.asked, c.came, c.now); got != c.want {
			t.Errorf("AgeAt of %q, asked for at %d, that came at %d, is %d at %d, not %d", r.Fields, c.asked, c.came, got, c.now, c.want)
		}
	}
}

func TestIsFreshTable(t *testing.T) {
	day := impl.ShowDate
	for _, c := range []struct {
		texts            []string
		asked, came, now int
		want             bool
	}{
		{[]string{caching, "max-age=5"}, 10, 10, 14, true},
		{[]string{caching, "max-age=5"}, 10, 10, 15, false},
		{[]string{caching, "max-age=5"}, 10, 10, 16, false},
		{[]string{caching, "max-age=5"}, 10, 10, 10, true},
		{[]string{caching, "max-age=5"}, 10, 10, 0, true},
		{[]string{caching, "max-age=1"}, 10, 10, 10, true},
		{[]string{caching, "max-age=0"}, 10, 10, 10, false},
		{[]string{caching, "max-age=5", "age", "4"}, 10, 10, 10, true},
		{[]string{caching, "max-age=5", "age", "5"}, 10, 10, 10, false},
		{[]string{caching, "max-age=5", "age", "6"}, 10, 10, 10, false},
		{[]string{caching, "max-age=5", "age", "x"}, 10, 10, 10, true},
		{[]string{caching, "max-age=5", "age", "-9"}, 10, 10, 10, true},
		{[]string{caching, "max-age=5"}, 6, 10, 10, true},
		{[]string{caching, "max-age=5"}, 5, 10, 10, false},
		{[]string{caching, "max-age=5"}, -1, 10, 10, true},
		{[]string{caching, "max-age=x"}, 10, 10, 10, false},
		{[]string{caching, "max-age=5, s-maxage=0"}, 10, 10, 10, false},
		{[]string{caching, "max-age=0, s-maxage=1"}, 10, 10, 10, true},
		{nil, 10, 10, 10, false},
		{nil, 10, 10, 0, false},
		{nil, -1, -1, -1, false},
		{nil, math.MinInt, math.MinInt, math.MinInt, false},

		{[]string{"date", day(10), "expires", day(15)}, 10, 10, 14, true},
		{[]string{"date", day(10), "expires", day(15)}, 10, 10, 15, false},
		{[]string{"date", day(10), "expires", day(15)}, 12, 12, 14, true},
		{[]string{"date", day(10), "expires", day(15)}, 12, 12, 15, false},
		{[]string{"date", day(10), "expires", day(10)}, 10, 10, 10, false},
		{[]string{"date", day(10), "expires", day(9)}, 10, 10, 10, false},
		{[]string{"date", day(10), "expires", "x"}, 10, 10, 10, false},
		{[]string{"expires", day(15)}, 10, 10, 10, false},
		{[]string{"date", day(100), "expires", day(105)}, 10, 10, 14, true},
		{[]string{"date", day(100), "expires", day(105)}, 10, 10, 15, false},
		{[]string{"date", day(100), "last-modified", day(50)}, 100, 100, 104, true},
		{[]string{"date", day(100), "last-modified", day(50)}, 100, 100, 105, false},
		{[]string{"date", day(100), "last-modified", day(41)}, 100, 100, 104, true},
		{[]string{"date", day(100), "last-modified", day(41)}, 100, 100, 105, false},
		{[]string{"date", day(100), "last-modified", day(91)}, 100, 100, 100, false},

		{[]string{caching, "max-age=9999999999"}, 0, 0, maxSec - 1, true},
		{[]string{caching, "max-age=9999999999"}, 0, 0, maxSec, false},
		{[]string{caching, "max-age=9999999999"}, 0, 0, maxSec + 1, false},
		{[]string{caching, "max-age=9999999999"}, 0, 0, math.MaxInt, false},
		{[]string{caching, "max-age=9999999999", "age", "9999999999"}, 0, 0, 0, false},
		{[]string{caching, "max-age=5"}, 0, 0, math.MaxInt, false},
		{[]string{caching, "max-age=5"}, math.MaxInt, math.MaxInt, math.MaxInt, true},
		{[]string{caching, "max-age=5"}, math.MaxInt, math.MaxInt, math.MinInt, true},
		{[]string{caching, "max-age=5"}, math.MinInt, math.MinInt, math.MaxInt, true},
		{[]string{caching, "max-age=5"}, -1, -1, math.MaxInt, true},
		{[]string{caching, "max-age=5"}, -1, 0, math.MaxInt, false},
	} {
		r := answerOf(c.texts...)
		if got := impl.IsFresh(r, c.asked, c.came, c.now); got != c.want {
			t.Errorf("IsFresh of %q, asked for at %d, that came at %d, is %v at %d", r.Fields, c.asked, c.came, got, c.now)
		}
	}
}

func dateIn(l []impl.Field, name string) (int, bool) {
	value, _ := valuesBy(l, name)
	return dateBy(value)
}

// laterBy is how much later than the first the second is, 0 where it is not.
func laterBy(before, when int) *big.Int {
	later := new(big.Int).Sub(big.NewInt(int64(when)), big.NewInt(int64(before)))
	if later.Sign() < 0 {
		return big.NewInt(0)
	}
	return later
}

func lifetimeBy(r impl.Response) int {
	said := directivesBy(r.Fields)
	for _, name := range []string{"s-maxage", "max-age"} {
		if sec, is := leastBy(said, name); is {
			return sec
		}
	}
	date, isDate := dateIn(r.Fields, "date")
	if _, there := valuesBy(r.Fields, "expires"); there {
		expires, is := dateIn(r.Fields, "expires")
		if !is || !isDate || expires <= date {
			return 0
		}
		return expires - date
	}
	if changed, is := dateIn(r.Fields, "last-modified"); is && isDate && date > changed {
		return (date - changed) / 10
	}
	return 0
}

func firstAgeBy(r impl.Response, asked, came int) int {
	byDate := big.NewInt(0)
	if date, is := dateIn(r.Fields, "date"); is {
		byDate = secBy(laterBy(date, came))
	}
	value, _ := valuesBy(r.Fields, "age")
	byAge := big.NewInt(int64(secondsBy(value)))
	if asked >= 0 {
		byAge.Add(byAge, laterBy(asked, came))
	}
	byAge = secBy(byAge)
	if byAge.Cmp(byDate) < 0 {
		byAge = byDate
	}
	return int(byAge.Int64())
}

func ageBy(r impl.Response, asked, came, now int) int {
	age := big.NewInt(int64(firstAgeBy(r, asked, came)))
	if came >= 0 {
		age.Add(age, laterBy(came, now))
	}
	return int(secBy(age).Int64())
}

// answersOf tells a response for each choice of one set of values for each
// name; no value means that there is no such field.
func answersOf(names []string, values ...[][]string) []impl.Response {
	out := []impl.Response{{Status: 200}}
	for i, name := range names {
		var more []impl.Response
		for j, r := range out {
			for k, chosen := range values[i] {
				l := slices.Clone(r.Fields)
				for _, value := range chosen {
					l = append(l, impl.Field{Name: name, Value: value})
				}
				if (j+k)%2 > 0 {
					slices.Reverse(l)
				}
				more = append(more, impl.Response{Status: 200, Fields: l})
			}
		}
		out = more
	}
	return out
}

func datesOf(seconds ...int) [][]string {
	out := [][]string{nil, {""}, {"0"}, {someDate + " "}, {someDate, someDate}}
	for _, sec := range seconds {
		out = append(out, []string{impl.ShowDate(sec)})
	}
	return out
}

func TestLifetimeAsReadAgain(t *testing.T) {
	said := [][]string{
		nil, {""}, {"public"}, {"max-age=7"}, {"s-maxage=9"}, {"s-maxage=3, max-age=7"}, {"max-age=3, s-maxage=7"}, {"max-age=7", "s-maxage=9, max-age=2"}, {"s-maxage=9", "s-maxage=4"},
		{"s-maxage, max-age=7"}, {"s-maxage=x, max-age=7"}, {"max-age=x"}, {"max-age"}, {"max-age=0"}, {"max-age=5000000000"}, {"max-age =7"}, {`Max-Age="8"`}, {`x="max-age=7"`},
	}
	seconds := []int{0, 1, 9, 10, 11, 20, 99, 100, 2000000000}
	short, long := 0, 0
	for _, r := range answersOf([]string{caching, "date", "expires", "last-modified"}, said, datesOf(seconds...), datesOf(seconds...), datesOf(seconds...)) {
		want := lifetimeBy(r)
		if got := impl.Lifetime(r); got != want {
			t.Fatalf("Lifetime of %q is %d, not %d", r.Fields, got, want)
		}
		if want == 0 {
			short++
		} else {
			long++
		}
	}
	if short < 1000 || long < 1000 {
		t.Errorf("only %d have no lifetime, and %d one", short, long)
	}
}

// someAnswers differ in all that an age and a lifetime hang on.
func someAnswers() []impl.Response {
	ages := [][]string{nil, {""}, {"0"}, {"3"}, {"150"}, {"-3"}, {"3x"}, {"3", "3"}, {"2147483640"}, {"2147483648"}, {"99999999999999999999"}}
	said := [][]string{nil, {"max-age=5"}, {"max-age=0"}, {"max-age=x"}, {"s-maxage=4, max-age=300"}, {"max-age=2147483645"}, {"max-age=99999999999999999999"}}
	return slices.Concat(
		answersOf([]string{"date", "age", caching}, datesOf(0, 100, 2000000000), ages, said),
		answersOf([]string{"date", "age", "expires"}, datesOf(0, 100), ages, datesOf(99, 100, 105)),
		answersOf([]string{"date", "age", "last-modified"}, datesOf(100, 105), ages, datesOf(40, 41, 100)),
	)
}

func TestAgesAsReadAgain(t *testing.T) {
	times := manyNumbers()
	whens := []int{math.MinInt, -1, 0, 95, 100, 101, 110, 2000000000, maxSec, 2*maxSec + 7, math.MaxInt}
	fresh, old := 0, 0
	for i, r := range someAnswers() {
		lives := lifetimeBy(r)
		// Each response is asked at a part of the times; all together at all.
		for j, asked := range times {
			came := times[(i*7+j*5)%len(times)]
			first := firstAgeBy(r, asked, came)
			if got := impl.FirstAge(r, asked, came); got != first {
				t.Fatalf("FirstAge of %q, asked for at %d, that came at %d is %d, not %d", r.Fields, asked, came, got, first)
			}
			for _, now := range []int{whens[(i+j)%len(whens)], times[(i*11+j*3)%len(times)], came} {
				age := ageBy(r, asked, came, now)
				if got := impl.AgeAt(r, asked, came, now); got != age {
					t.Fatalf("AgeAt of %q, asked for at %d, that came at %d, is %d at %d, not %d", r.Fields, asked, came, got, now, age)
				}
				if got := impl.IsFresh(r, asked, came, now); got != (lives > age) {
					t.Fatalf("IsFresh of %q, asked for at %d, that came at %d, is %v at %d", r.Fields, asked, came, got, now)
				}
				if lives > age {
					fresh++
				} else {
					old++
				}
			}
		}
	}
	if fresh < 1000 || old < 1000 {
		t.Errorf("only %d were fresh, and %d not", fresh, old)
	}
}

// walkOf tells moments that rise, many of them next to each other, from ahead
// of came on; an age may reach MaxSec among them.
func walkOf(came int) []int {
	var walk []int
	for _, ahead := range []int{-3, 0, 5, 200, maxSec - 2000000000, maxSec - 150, maxSec - 10, maxSec, 2*maxSec + 1} {
		for step := range 5 {
			walk = append(walk, came+ahead+step)
		}
	}
	slices.Sort(walk)
	return slices.Compact(walk)
}

func TestAnAgeGrowsByOneEachSecond(t *testing.T) {
	grown, full, aged := 0, 0, 0
	for i, r := range someAnswers() {
		for _, came := range []int{0, 1, 98, 100, 104, 2000000000 - 1, maxSec - 5, maxSec + 5, math.MaxInt - 4*maxSec} {
			asked := came - i%4 + 1
			wasOld := false
			for _, now := range walkOf(came) {
				age, next := impl.AgeAt(r, asked, came, now), impl.AgeAt(r, asked, came, now+1)
				want := age
				if now >= came {
					want = min(age+1, maxSec)
				}
				if next != want || age < 0 || age > maxSec {
					t.Fatalf("AgeAt of %q, asked for at %d, that came at %d, is %d at %d and then %d", r.Fields, asked, came, age, now, next)
				}
				fresh := impl.IsFresh(r, asked, came, now)
				if fresh && wasOld {
					t.Fatalf("%q, asked for at %d, that came at %d, is fresh again at %d", r.Fields, asked, came, now)
				}
				if !fresh && !wasOld && now > came-3 {
					aged++
				}
				wasOld = !fresh
				if age == maxSec {
					full++
				} else if next > age {
					grown++
				}
			}
			if !wasOld {
				t.Fatalf("%q, asked for at %d, that came at %d, never gets old", r.Fields, asked, came)
			}
		}
	}
	if grown < 1000 || full < 1000 || aged < 1000 {
		t.Errorf("only %d times an age grew, %d times it was full, and %d got old", grown, full, aged)
	}
}

// One that came at no time has an age that stays.
func TestAnAgeStaysWhereNoneCame(t *testing.T) {
	for _, r := range someAnswers() {
		for _, came := range []int{math.MinInt, -maxSec, -2, -1} {
			value, _ := valuesBy(r.Fields, "age")
			for _, now := range []int{math.MinInt, came, came + 1, -1, 0, 1, maxSec, math.MaxInt} {
				if got, want := impl.AgeAt(r, came, came, now), secondsBy(value); got != want {
					t.Fatalf("AgeAt of %q, that came at %d, is %d at %d, not %d", r.Fields, came, got, now, want)
				}
			}
		}
	}
}

// A lifetime that is just the age is none any more: at its last second an
// answer is fresh, at the next it is not.
func TestALifetimeEndsWhereTheAgeReachesIt(t *testing.T) {
	for _, lives := range []int{1, 2, 9, 1000, maxSec - 1, maxSec} {
		for _, age := range []int{0, lives / 2, lives - 1} {
			r := answerOf(caching, "max-age="+strconv.Itoa(lives), "age", strconv.Itoa(age))
			end := 50 + lives - age
			for now, want := range map[int]bool{end - 1: true, end: false, end + 1: false, math.MaxInt: false} {
				if got := impl.IsFresh(r, 50, 50, now); got != want {
					t.Errorf("IsFresh of %q is %v at %d", r.Fields, got, now)
				}
			}
			for way, want := range map[int]bool{lives - age - 1: true, lives - age: false, lives - age + 1: false} {
				if got := impl.IsFresh(r, 0, way, way); got != want {
					t.Errorf("IsFresh of %q that was %d on its way is %v", r.Fields, way, got)
				}
			}
		}
	}
}

// Nothing but the fields counts, and of these only those that are named.
func TestAgesHangOnNamedFieldsAlone(t *testing.T) {
	for i, r := range someAnswers() {
		other := impl.Response{Status: []int{0, 304, 500, -1}[i%4], Body: "max-age=9"}
		other.Fields = slices.Concat(fieldsOf("pragma", "max-age=1", "Age", "9", "Date", someDate), r.Fields, fieldsOf("EXPIRES", someDate, "warning", "110", "", "max-age=4", "x\r\n", "age: 5"), numbered(20))
		if impl.Lifetime(other) != impl.Lifetime(r) {
			t.Fatalf("Lifetime of %q is %d", other.Fields, impl.Lifetime(other))
		}
		if impl.FirstAge(other, 100, 105) != impl.FirstAge(r, 100, 105) || impl.AgeAt(other, 100, 105, 107) != impl.AgeAt(r, 100, 105, 107) {
			t.Fatalf("an age of %q is not that of %q", other.Fields, r.Fields)
		}
		if impl.IsFresh(other, 100, 105, 107) != impl.IsFresh(r, 100, 105, 107) {
			t.Fatalf("IsFresh of %q is not that of %q", other.Fields, r.Fields)
		}
	}
}

func TestAgesLeaveWhatTheyAreGiven(t *testing.T) {
	for i, r := range someAnswers() {
		room := append(slices.Clone(r.Fields), fieldsOf("date", someDate, "age", "9", caching, "s-maxage=1", "expires", "0")...)
		before := slices.Clone(room)
		handed := impl.Response{Status: 200, Fields: room[:len(r.Fields)], Body: "b"}
		impl.DateOf(handed.Fields, "date")
		lives, first := impl.Lifetime(handed), impl.FirstAge(handed, i, 105)
		age, fresh := impl.AgeAt(handed, i, 105, 107), impl.IsFresh(handed, i, 105, 107)
		if !slices.Equal(room, before) {
			t.Fatalf("%q are %q behind", before, room)
		}
		if lives != impl.Lifetime(r) || first != impl.FirstAge(r, i, 105) || age != impl.AgeAt(r, i, 105, 107) || fresh != impl.IsFresh(r, i, 105, 107) {
			t.Fatalf("what stands behind %q counts", r.Fields)
		}
	}
}

// A long field must not cost its square.
func TestAgesOfMuch(t *testing.T) {
	many := 1 << 18
	digits := strings.Repeat("9", many)
	r := answerOf("age", digits, "date", digits, "expires", strings.Repeat(someDate, many/8), caching, strings.Repeat("max-age=7,", many))
	if impl.Lifetime(r) != 7 || impl.FirstAge(r, 0, 0) != maxSec || impl.AgeAt(r, 0, 0, 9) != maxSec || impl.IsFresh(r, 0, 0, 0) {
		t.Errorf("ages of much are %d, %d, %d, %v", impl.Lifetime(r), impl.FirstAge(r, 0, 0), impl.AgeAt(r, 0, 0, 9), impl.IsFresh(r, 0, 0, 0))
	}
	r = answerOf("age", strings.Repeat("0", many)+"5")
	for range 1 << 12 {
		r.Fields = append(r.Fields, impl.Field{Name: "date", Value: someDate})
	}
	if impl.Lifetime(r) != 0 || impl.FirstAge(r, 0, someSecond) != someSecond+5 {
		t.Errorf("ages of much more are %d, %d", impl.Lifetime(r), impl.FirstAge(r, 0, someSecond))
	}
}
