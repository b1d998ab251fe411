package bch

import (
	"slices"

	"barscan/api"
)

// The codes of the information of QR codes.
const (
	formatBits       = 5
	formatGenerator  = 0x537
	formatPattern    = 0x5412 // what is added to each codeword, so that none is without dark modules
	masks            = 8
	versionBits      = 6
	versionGenerator = 0x1f25
	firstVersion     = 7 // smaller symbols do not tell their version
	lastVersion      = 40
)

// levels returns the levels by their numbers in the format information.
func levels() []api.Level {
	return []api.Level{api.LevelM, api.LevelL, api.LevelH, api.LevelQ}
}

// Format returns the 15 bits of the format information of a QR code.
func Format(level api.Level, mask int) (int, api.Errno) {
	number := slices.Index(levels(), level)
	if number < 0 {
		return 0, api.ErrLevel
	}
	if mask < 0 || mask >= masks {
		return 0, api.ErrRange
	}
	word, e := Encode(number*masks+mask, formatBits, formatGenerator)
	return word ^ formatPattern, e
}

// ParseFormat decodes the format information.
func ParseFormat(word int) (level api.Level, mask, distance int, e api.Errno) {
	v, distance, e := parse(word^formatPattern, formatBits, formatGenerator)
	if e != api.OK {
		return 0, 0, 0, e
	}
	return levels()[v/masks], v % masks, distance, api.OK
}

// Version returns the 18 bits of the version information of a QR code.
func Version(n int) (int, api.Errno) {
	if !isVersion(n) {
		return 0, api.ErrVersion
	}
	return Encode(n, versionBits, versionGenerator)
}

// ParseVersion decodes the version information.
func ParseVersion(word int) (n, distance int, e api.Errno) {
	n, distance, e = parse(word, versionBits, versionGenerator)
	if e == api.OK && !isVersion(n) {
		e = api.ErrVersion
	}
	if e != api.OK {
		return 0, 0, e
	}
	return n, distance, api.OK
}

// parse decodes a word of one of the two codes. The capacity of both is 3.
func parse(word, k, gen int) (v, distance int, e api.Errno) {
	v, distance, e = Decode(word, k, gen)
	if e == api.ErrErrors {
		e = api.ErrFormat
	}
	return v, distance, e
}

// isVersion reports whether a version has version information.
func isVersion(n int) bool {
	return n >= firstVersion && n <= lastVersion
}
