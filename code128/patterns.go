package code128

import "strings"

// Inside of the package widths are digits, so that they can be compared with the patterns as they are written.
const (
	patternSize = 6
	stopPattern = "2331112"
)

// patterns are the patterns of the values from 0 to 105, each one with a space behind it.
const patterns = "" +
	"212222 222122 222221 121223 121322 131222 122213 122312 " +
	"132212 221213 221312 231212 112232 122132 122231 113222 " +
	"123122 123221 223211 221132 221231 213212 223112 312131 " +
	"311222 321122 321221 312212 322112 322211 212123 212321 " +
	"232121 111323 131123 131321 112313 132113 132311 211313 " +
	"231113 231311 112133 112331 132131 113123 113321 133121 " +
	"313121 211331 231131 213113 213311 213131 311123 311321 " +
	"331121 312113 312311 332111 314111 221411 431111 111224 " +
	"111422 121124 121421 141122 141221 112214 112412 122114 " +
	"122411 142112 142211 241211 221114 413111 241112 134111 " +
	"111242 121142 121241 114212 124112 124211 411212 421112 " +
	"421211 212141 214121 412121 111143 111341 131141 114113 " +
	"114311 411113 411311 113141 114131 311141 411131 211412 " +
	"211214 211232 "

// patternOf returns the pattern of a value from 0 to 106.
func patternOf(value int) string {
	if value == stop {
		return stopPattern
	}
	at := value * (patternSize + 1)
	return patterns[at : at+patternSize]
}

// valueWith returns the value from 0 to 105 with a pattern of six widths, and whether there is one.
func valueWith(pattern string) (int, bool) {
	// Six digits without a space are found only where a pattern begins.
	at := strings.Index(patterns, pattern)
	return at / (patternSize + 1), at >= 0
}

// widthsOf returns the widths of a pattern.
func widthsOf(pattern string) []int {
	widths := make([]int, len(pattern))
	for i := range widths {
		widths[i] = int(pattern[i] - '0')
	}
	return widths
}

// textOf returns widths as a pattern.
func textOf(widths []int) string {
	text := make([]byte, len(widths))
	for i, w := range widths {
		// No pattern has a width of more than one digit, nor a 9.
		text[i] = '0' + byte(min(w, 9))
	}
	return string(text)
}
