package tests

import (
	"math"
	"slices"
	"strings"
	"testing"
	"time"

	"loop.example/g01402/impl"
)

const (
	daySeconds = 86400
	dateLayout = "Mon, 02 Jan 2006 15:04:05 GMT"
	someDate   = "Sun, 06 Nov 1994 08:49:37 GMT"
	someSecond = 784111777
)

func TestIsLeapTable(t *testing.T) {
	for _, c := range []struct {
		year int
		want bool
	}{
		{1970, false}, {1971, false}, {1972, true}, {1973, false}, {1974, false},
		{1999, false}, {2000, true}, {2001, false}, {2004, true}, {2036, true}, {2037, false},
		{1600, true}, {1700, false}, {1800, false}, {1896, true}, {1900, false}, {1904, true},
		{2096, true}, {2100, false}, {2104, true}, {2200, false}, {2300, false}, {2400, true},
		{0, true}, {1, false}, {2, false}, {3, false}, {4, true}, {96, true}, {100, false}, {400, true},
		{-1, false}, {-2, false}, {-3, false}, {-4, true}, {-96, true}, {-100, false}, {-104, true},
		{-200, false}, {-300, false}, {-399, false}, {-400, true}, {-401, false},
		{math.MaxInt, false}, {math.MaxInt - 3, true}, {math.MinInt, true}, {math.MinInt + 1, false},
	} {
		if got := impl.IsLeap(c.year); got != c.want {
			t.Errorf("IsLeap(%d) is %v", c.year, got)
		}
	}
}

func TestIsLeapHasItsTwentyNinth(t *testing.T) {
	for year := -2500; year <= 2500; year++ {
		want := time.Date(year, time.February, 29, 0, 0, 0, 0, time.UTC).Month() == time.February
		if got := impl.IsLeap(year); got != want {
			t.Errorf("IsLeap(%d) is %v", year, got)
		}
	}
}

func TestDaysOfTable(t *testing.T) {
	for _, c := range []struct{ year, month, day, want int }{
		{1970, 1, 1, 0}, {1970, 1, 2, 1}, {1970, 1, 31, 30}, {1970, 2, 1, 31}, {1970, 2, 28, 58}, {1970, 3, 1, 59},
		{1970, 12, 31, 364}, {1971, 1, 1, 365},
		{1972, 2, 28, 788}, {1972, 2, 29, 789}, {1972, 3, 1, 790}, {1972, 12, 31, 1095}, {1973, 1, 1, 1096},
		{1994, 11, 6, 9075},
		{2000, 2, 28, 11015}, {2000, 2, 29, 11016}, {2000, 3, 1, 11017},
		{2033, 5, 18, 23148}, {2036, 2, 29, 24165}, {2037, 1, 1, 24472}, {2037, 12, 31, 24836},
		{1969, 12, 31, -1}, {1969, 1, 1, -1}, {1969, 6, 15, -1}, {1968, 2, 29, -1}, {2038, 1, 1, -1}, {2038, 12, 31, -1}, {2040, 2, 29, -1},
		{1971, 2, 29, -1}, {1970, 2, 29, -1}, {2001, 2, 29, -1}, {2037, 2, 29, -1},
		{1972, 2, 30, -1}, {1971, 2, 30, -1}, {2000, 2, 30, -1}, {2000, 2, 31, -1},
		{1970, 0, 1, -1}, {1970, 13, 1, -1}, {1970, -1, 1, -1}, {2037, 13, 1, -1}, {1970, 0, 0, -1}, {1971, 0, 31, -1},
		{1970, 1, 0, -1}, {1970, 1, -1, -1}, {1970, 1, 32, -1}, {1971, 1, 0, -1}, {1971, 3, 0, -1}, {2037, 12, 32, -1}, {1970, 1, 366, -1},
		{0, 0, 0, -1}, {0, 1, 1, -1}, {70, 1, 1, -1}, {-1970, 1, 1, -1}, {-1, -1, -1, -1},
		{math.MaxInt, 1, 1, -1}, {math.MinInt, 1, 1, -1},
		{1970, math.MaxInt, 1, -1}, {1970, math.MinInt, 1, -1},
		{1970, 1, math.MaxInt, -1}, {1970, 1, math.MinInt, -1}, {2037, 12, math.MaxInt, -1},
		{math.MaxInt, math.MaxInt, math.MaxInt, -1}, {math.MinInt, math.MinInt, math.MinInt, -1},
	} {
		if got := impl.DaysOf(c.year, c.month, c.day); got != c.want {
			t.Errorf("DaysOf(%d, %d, %d) is %d, not %d", c.year, c.month, c.day, got, c.want)
		}
	}
}

func TestDaysOfTheEndOfEachMonth(t *testing.T) {
	for _, year := range []int{1970, 1971, 1972, 1999, 2000, 2036, 2037} {
		lasts := [12]int{31, 28, 31, 30, 31, 30, 31, 31, 30, 31, 30, 31}
		if year%4 == 0 {
			lasts[1] = 29
		}
		for i, last := range lasts {
			month := i + 1
			for day := -1; day <= 33; day++ {
				got := impl.DaysOf(year, month, day)
				if (got >= 0) != (day >= 1 && day <= last) || got < -1 {
					t.Errorf("DaysOf(%d, %d, %d) is %d", year, month, day, got)
				}
			}
			behind := impl.DaysOf(year, month+1, 1)
			if month == 12 {
				behind = impl.DaysOf(year+1, 1, 1)
			}
			if year == 2037 && month == 12 {
				if behind != -1 {
					t.Errorf("the day behind the last one is %d", behind)
				}
			} else if behind != impl.DaysOf(year, month, last)+1 {
				t.Errorf("the day behind %d %d %d is %d", year, month, last, behind)
			}
		}
	}
}

func TestADayLaterIsOneMore(t *testing.T) {
	at := time.Date(1970, time.January, 1, 0, 0, 0, 0, time.UTC)
	days := 0
	for ; at.Year() <= 2037; at = at.AddDate(0, 0, 1) {
		if got := impl.DaysOf(at.Year(), int(at.Month()), at.Day()); got != days {
			t.Fatalf("DaysOf of %s is %d, not %d", at.Format(time.DateOnly), got, days)
		}
		days++
	}
	if days != 24837 {
		t.Errorf("there were %d days", days)
	}
}

// daysBy tells by the library's calendar what DaysOf must.
func daysBy(year, month, day int) int {
	at := time.Date(year, time.Month(month), day, 0, 0, 0, 0, time.UTC)
	if at.Year() != year || int(at.Month()) != month || at.Day() != day || year < 1970 || year > 2037 {
		return -1
	}
	return int(at.Unix() / daySeconds)
}

func TestDaysOfAsTheCalendarDoes(t *testing.T) {
	for year := 1960; year <= 2050; year++ {
		for month := -2; month <= 15; month++ {
			for day := -2; day <= 35; day++ {
				if got, want := impl.DaysOf(year, month, day), daysBy(year, month, day); got != want {
					t.Fatalf("DaysOf(%d, %d, %d) is %d, not %d", year, month, day, got, want)
				}
			}
		}
	}
}

func TestDateTable(t *testing.T) {
	for _, c := range []struct {
		sec  int
		want string
	}{
		{0, "Thu, 01 Jan 1970 00:00:00 GMT"},
		{1, "Thu, 01 Jan 1970 00:00:01 GMT"},
		{59, "Thu, 01 Jan 1970 00:00:59 GMT"},
		{60, "Thu, 01 Jan 1970 00:01:00 GMT"},
		{3599, "Thu, 01 Jan 1970 00:59:59 GMT"},
		{3600, "Thu, 01 Jan 1970 01:00:00 GMT"},
		{86399, "Thu, 01 Jan 1970 23:59:59 GMT"},
		{86400, "Fri, 02 Jan 1970 00:00:00 GMT"},
		{2 * 86400, "Sat, 03 Jan 1970 00:00:00 GMT"},
		{3 * 86400, "Sun, 04 Jan 1970 00:00:00 GMT"},
		{4 * 86400, "Mon, 05 Jan 1970 00:00:00 GMT"},
		{5 * 86400, "Tue, 06 Jan 1970 00:00:00 GMT"},
		{6 * 86400, "Wed, 07 Jan 1970 00:00:00 GMT"},
		{7 * 86400, "Thu, 08 Jan 1970 00:00:00 GMT"},
		{59*86400 - 1, "Sat, 28 Feb 1970 23:59:59 GMT"},
		{59 * 86400, "Sun, 01 Mar 1970 00:00:00 GMT"},
		{790*86400 - 1, "Tue, 29 Feb 1972 23:59:59 GMT"},
		{790 * 86400, "Wed, 01 Mar 1972 00:00:00 GMT"},
		{someSecond, someDate},
		{951782399, "Mon, 28 Feb 2000 23:59:59 GMT"},
		{951782400, "Tue, 29 Feb 2000 00:00:00 GMT"},
		{951868800, "Wed, 01 Mar 2000 00:00:00 GMT"},
		{978307199, "Sun, 31 Dec 2000 23:59:59 GMT"},
		{978307200, "Mon, 01 Jan 2001 00:00:00 GMT"},
		{impl.MaxDate - 1, "Wed, 18 May 2033 03:33:19 GMT"},
		{impl.MaxDate, "Wed, 18 May 2033 03:33:20 GMT"},
	} {
		if got := impl.ShowDate(c.sec); got != c.want {
			t.Errorf("ShowDate(%d) is %q, not %q", c.sec, got, c.want)
		}
		if got, ok := impl.ReadDate(c.want); got != c.sec || !ok {
			t.Errorf("ReadDate(%q) is %d, %v", c.want, got, ok)
		}
	}
}

func TestShowDateOutOfRange(t *testing.T) {
	for _, sec := range []int{-1, -59, -86400, -impl.MaxDate, math.MinInt, impl.MaxDate + 1, impl.MaxDate + 86400, 1 << 31, 1 << 32, math.MaxInt} {
		if got := impl.ShowDate(sec); got != "" {
			t.Errorf("ShowDate(%d) is %q", sec, got)
		}
	}
	if impl.MaxDate != 2000000000 {
		t.Errorf("MaxDate is %d", impl.MaxDate)
	}
}

// takesShown asks whether a second is shown as the library shows it, and read
// back.
func takesShown(t *testing.T, sec int) {
	t.Helper()
	want := time.Unix(int64(sec), 0).UTC().Format(dateLayout)
	shown := impl.ShowDate(sec)
	if shown != want {
		t.Fatalf("ShowDate(%d) is %q, not %q", sec, shown, want)
	}
	if got, ok := impl.ReadDate(shown); got != sec || !ok {
		t.Fatalf("ReadDate(%q) is %d, %v, not %d", shown, got, ok, sec)
	}
}

func TestReadDateTakesWhatShowDateMakes(t *testing.T) {
	for day := 0; day <= impl.MaxDate/daySeconds; day++ {
		for _, rest := range []int{0, day % daySeconds, daySeconds - 1} {
			takesShown(t, min(day*daySeconds+rest, impl.MaxDate))
		}
	}
	for rest := range daySeconds {
		takesShown(t, 11016*daySeconds+rest)
	}
	for sec := 0; sec <= impl.MaxDate; sec += 99991 {
		takesShown(t, sec)
	}
}

func TestReadDateWrong(t *testing.T) {
	for _, s := range []string{
		"", " ", "GMT", "0", "784111777",
		"Mon, 06 Nov 1994 08:49:37 GMT", "Sat, 06 Nov 1994 08:49:37 GMT", "Sun, 07 Nov 1994 08:49:37 GMT", "Sun, 06 Oct 1994 08:49:37 GMT", "Sun, 06 Nov 1995 08:49:37 GMT",
		"sun, 06 Nov 1994 08:49:37 GMT", "SUN, 06 Nov 1994 08:49:37 GMT", "Sun, 06 nov 1994 08:49:37 GMT", "Sun, 06 NOV 1994 08:49:37 GMT", "Sun, 06 Nov 1994 08:49:37 gmt", "Sun, 06 Nov 1994 08:49:37 Gmt",
		"Sun, 6 Nov 1994 08:49:37 GMT", "Sun,  6 Nov 1994 08:49:37 GMT", "Sun, 06 Nov 1994 8:49:37 GMT", "Sun, 06 Nov 1994  8:49:37 GMT", "Sun, 06 Nov 1994 08:9:37 GMT", "Sun, 06 Nov 1994 08:49:7 GMT", "Sun, 06 Nov 94 08:49:37 GMT",
		"Sun, 006 Nov 1994 08:49:37 GMT", "Sun, 06 Nov 01994 08:49:37 GMT", "Sun, 06 Nov 1994 008:49:37 GMT", "Sun, +6 Nov 1994 08:49:37 GMT", "Sun, -6 Nov 1994 08:49:37 GMT", "Sun, 06 Nov 1994 08:49:+7 GMT",
		"Sun, 06 Nov 1994 24:49:37 GMT", "Sun, 06 Nov 1994 24:00:00 GMT", "Sun, 06 Nov 1994 99:00:00 GMT", "Sun, 06 Nov 1994 08:60:37 GMT", "Sun, 06 Nov 1994 08:60:00 GMT", "Sun, 06 Nov 1994 08:49:60 GMT", "Sun, 06 Nov 1994 23:59:60 GMT", "Sun, 06 Nov 1994 08:49:99 GMT",
		" Sun, 06 Nov 1994 08:49:37 GMT", "Sun, 06 Nov 1994 08:49:37 GMT ", "Sun,  06 Nov 1994 08:49:37 GMT", "Sun, 06  Nov 1994 08:49:37 GMT", "Sun, 06 Nov  1994 08:49:37 GMT", "Sun, 06 Nov 1994  08:49:37 GMT", "Sun, 06 Nov 1994 08:49:37  GMT", "Sun , 06 Nov 1994 08:49:37 GMT", "Sun, 06 Nov 1994 08 :49:37 GMT",
		"Sun,06 Nov 1994 08:49:37 GMT", "Sun 06 Nov 1994 08:49:37 GMT", "Sun,\t06 Nov 1994 08:49:37 GMT", "Sun, 06-Nov-1994 08:49:37 GMT", "Sun, 06 Nov 1994 08.49.37 GMT", "Sun; 06 Nov 1994 08:49:37 GMT",
		"Sun, 06 Nov 1994 08:49:37", "Sun, 06 Nov 1994 08:49:37 ", "Sun, 06 Nov 1994 08:49:37 GM", "Sun, 06 Nov 1994 08:49 GMT", "un, 06 Nov 1994 08:49:37 GMT",
		"Sun, 06 Nov 1994 08:49:37 GMTx", "Sun, 06 Nov 1994 08:49:37 GMT\x00", "Sun, 06 Nov 1994 08:49:37 GMT\r\n", "Sun, 06 Nov 1994 08:49:37 UTC", someDate + someDate,
		"Sunday, 06-Nov-94 08:49:37 GMT", "Sun Nov  6 08:49:37 1994", "1994-11-06T08:49:37Z",
		"Sun, 06 ovD 1994 08:49:37 GMT", "Sun, 06 vDe 1994 08:49:37 GMT", "Sun, 06 Xxx 1994 08:49:37 GMT", "Thu, 01 anF 1970 00:00:00 GMT", "Thu, 01 xxx 1970 00:00:00 GMT", "huF, 01 Jan 1970 00:00:00 GMT",
		"Sun, 00 Nov 1994 08:49:37 GMT", "Mon, 31 Oct 1994 24:00:00 GMT", "Thu, 31 Nov 1994 08:49:37 GMT", "Wed, 00 Dec 1994 08:49:37 GMT", "Wed, 32 Nov 1994 08:49:37 GMT",
		"Mon, 29 Feb 1971 00:00:00 GMT", "Wed, 30 Feb 2000 00:00:00 GMT", "Tue, 30 Feb 2000 00:00:00 GMT", "Sun, 31 Feb 1994 08:49:37 GMT", "Thu, 29 Feb 2001 00:00:00 GMT", "Fri, 29 Feb 1900 00:00:00 GMT",
		"Wed, 31 Dec 1969 23:59:59 GMT", "Thu, 01 Jan 1969 00:00:00 GMT", "Thu, 00 Jan 1970 00:00:00 GMT", "Sat, 01 Jan 0000 00:00:00 GMT", "Mon, 01 Jan 1900 00:00:00 GMT",
		"Wed, 18 May 2033 03:33:21 GMT", "Wed, 18 May 2033 03:34:00 GMT", "Wed, 18 May 2033 04:00:00 GMT", "Thu, 19 May 2033 00:00:00 GMT", "Thu, 31 Dec 2037 23:59:59 GMT", "Fri, 01 Jan 2038 00:00:00 GMT", "Tue, 19 Jan 2038 03:14:08 GMT", "Fri, 31 Dec 9999 23:59:59 GMT",
		"Sun, 0\xd9\xa6 Nov 1994 08:49:7 GMT", "Sun, \xff\xff Nov 1994 08:49:37 GMT", strings.Repeat("\x00", 29), strings.Repeat("0", 29), strings.Repeat(" ", 29),
	} {
		if got, ok := impl.ReadDate(s); got != 0 || ok {
			t.Errorf("ReadDate(%q) is %d, %v", s, got, ok)
		}
	}
}

// dateBy tells by the library's reader what ReadDate must; it reads loosely,
// so what it read is shown again.
func dateBy(s string) (int, bool) {
	at, err := time.Parse(dateLayout, s)
	if err != nil || at.Format(dateLayout) != s || at.Unix() < 0 || at.Unix() > 2000000000 {
		return 0, false
	}
	return int(at.Unix()), true
}

func readsAsTheLibrary(t *testing.T, s string) bool {
	t.Helper()
	want, is := dateBy(s)
	got, ok := impl.ReadDate(s)
	if got != want || ok != is {
		t.Fatalf("ReadDate(%q) is %d, %v, not %d, %v", s, got, ok, want, is)
	}
	if ok && impl.ShowDate(got) != s {
		t.Fatalf("ReadDate(%q) is %d, which is shown as %q", s, got, impl.ShowDate(got))
	}
	return ok
}

func TestReadDateTakesNothingElse(t *testing.T) {
	taken := 0
	for _, right := range []string{someDate, "Thu, 01 Jan 1970 00:00:00 GMT", "Tue, 29 Feb 2000 23:59:59 GMT", "Wed, 18 May 2033 03:33:20 GMT"} {
		var texts []string
		for i := range len(right) + 1 {
			texts = append(texts, right[:i], right[i:])
			for b := range 256 {
				sign := string([]byte{byte(b)})
				texts = append(texts, right[:i]+sign+right[i:])
				if i < len(right) {
					texts = append(texts, right[:i]+sign+right[i+1:])
				}
			}
			if i < len(right) {
				texts = append(texts, right[:i]+right[i+1:])
			}
		}
		for _, s := range texts {
			if readsAsTheLibrary(t, s) {
				taken++
			}
		}
	}
	if taken < 100 {
		t.Errorf("only %d texts were taken", taken)
	}
}

var (
	weekdayWords = []string{"Mon", "Tue", "Wed", "Thu", "Fri", "Sat", "Sun"}
	monthWords   = []string{"Jan", "Feb", "Mar", "Apr", "May", "Jun", "Jul", "Aug", "Sep", "Oct", "Nov", "Dec"}
)

// Every day of the week is asked of each day and of those that its month has
// not: a wrong one is refused, and a day that is not is refused with them all.
func TestReadDateTakesOneDayOfTheWeek(t *testing.T) {
	days := bytesOf("0123", 1)
	days = slices.Concat(days, bytesOf("0123456789", 2))
	for _, year := range []string{"1969", "1970", "1971", "1972", "2000", "2001", "2032", "2033", "2034", "2037", "2038"} {
		for _, month := range monthWords {
			for _, day := range days {
				taken := 0
				for _, weekday := range weekdayWords {
					if readsAsTheLibrary(t, weekday+", "+day+" "+month+" "+year+" 03:33:20 GMT") {
						taken++
					}
				}
				if taken > 1 {
					t.Fatalf("%s %s %s was taken with %d days of the week", day, month, year, taken)
				}
			}
		}
	}
}

func TestReadDateTimes(t *testing.T) {
	for _, hour := range bytesOf("0123456789", 2) {
		for _, part := range bytesOf("0123456789", 2) {
			for _, clock := range []string{hour + ":" + part + ":00", hour + ":59:" + part, "23:" + hour + ":" + part} {
				readsAsTheLibrary(t, "Tue, 29 Feb 2000 "+clock+" GMT")
				readsAsTheLibrary(t, "Wed, 18 May 2033 "+clock+" GMT")
			}
		}
	}
}

func TestReadDateLong(t *testing.T) {
	for _, piece := range []string{someDate, "S", "0", " ", "\x00"} {
		if got, ok := impl.ReadDate(strings.Repeat(piece, 1<<20)); got != 0 || ok {
			t.Errorf("ReadDate of many %q is %d, %v", piece, got, ok)
		}
	}
}
