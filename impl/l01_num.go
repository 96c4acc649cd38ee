package impl

import (
	"strconv"
	"strings"
)

const MaxVar = 562949953421311

const (
	maxWidth  = 7
	varBytes  = 7
	hexDigits = "0123456789abcdef"
	maxDec    = 999999999
	decBytes  = len("-999999999")
)

// put answers the place behind what it laid down, so that callers who know
// their room ahead fill it without growing anything.
func put(room []byte, at int, more ...byte) int {
	return at + copy(room[at:], more)
}

func Fixed(n int, width int) string {
	if width < 1 || width > maxWidth || n < 0 || n>>(8*width) != 0 {
		return ""
	}
	room := make([]byte, width)
	at := 0
	for i := width - 1; i >= 0; i-- {
		at = put(room, at, byte(n>>(8*i)))
	}
	return string(room)
}

func ReadFixed(s string, width int) (int, bool) {
	if width < 1 || width > maxWidth || len(s) < width {
		return 0, false
	}
	n := 0
	for i := range width {
		n = n<<8 | int(s[i])
	}
	return n, true
}

func Var(n int) string {
	if n < 0 || n > MaxVar {
		return ""
	}
	room := make([]byte, varBytes)
	at := 0
	for ; n >= 128; n >>= 7 {
		at = put(room, at, byte(n&127|128))
	}
	at = put(room, at, byte(n))
	return string(room[:at])
}

func ReadVar(s string) (int, int) {
	n := 0
	for i := 0; i < len(s) && i < varBytes; i++ {
		n |= int(s[i]&127) << (7 * i)
		if s[i] >= 128 {
			continue
		}
		if s[i] == 0 && i > 0 { // Var makes no byte that adds nothing
			return 0, 0
		}
		return n, i + 1
	}
	return 0, 0
}

func Hex(s string) string {
	room := make([]byte, 2*len(s))
	at := 0
	for i := range len(s) {
		at = put(room, at, hexDigits[s[i]>>4], hexDigits[s[i]&15])
	}
	return string(room)
}

func Unhex(s string) (string, bool) {
	if len(s)%2 != 0 {
		return "", false
	}
	room := make([]byte, len(s)/2)
	at := 0
	for i := 0; i < len(s); i += 2 {
		high := strings.IndexByte(hexDigits, s[i])
		low := strings.IndexByte(hexDigits, s[i+1])
		if high < 0 || low < 0 {
			return "", false
		}
		at = put(room, at, byte(high<<4|low))
	}
	return string(room), true
}

func Dec(n int) string {
	return strconv.Itoa(n)
}

func ReadDec(s string) (int, bool) {
	if len(s) > decBytes {
		return 0, false
	}
	n, err := strconv.Atoi(s)
	if err != nil || n < -maxDec || n > maxDec {
		return 0, false
	}
	if Dec(n) != s { // Atoi also takes a plus and needless noughts
		return 0, false
	}
	return n, true
}
