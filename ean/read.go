package ean

import (
	"slices"
	"strings"

	"barscan/api"
)

// readShapes returns what modules contain, which begin and end with a dark one, by the first shape that can be read.
func readShapes(modules string) (api.Linear, api.Errno) {
	var faults []api.Errno
	for _, symbol := range []int{ean13Size, ean8Size, upceSize} {
		for _, addOn := range []int{0, addOn2Size, addOn5Size} {
			if !fits(modules, symbol, addOn) {
				continue
			}
			found, e := readShape(modules, symbol, addOn)
			if e == api.OK {
				return found, api.OK
			}
			faults = append(faults, e)
		}
	}
	if len(faults) == 0 {
		return api.Linear{}, api.ErrLength
	}
	return api.Linear{}, faults[0]
}

// fits returns whether modules can be a symbol and an add-on, which has no modules if there is none, with a light gap between them.
func fits(modules string, symbol, addOn int) bool {
	if addOn == 0 {
		return len(modules) == symbol
	}
	gap := len(modules) - symbol - addOn
	return gap >= leastGap && gap <= greatestGap && modules[symbol:symbol+gap] == light(gap)
}

// readShape returns what a symbol and an add-on contain.
func readShape(modules string, symbol, addOn int) (api.Linear, api.Errno) {
	found, e := readSymbol(modules[:symbol])
	if e != api.OK || addOn == 0 {
		return found, e
	}
	found.AddOn, e = readAddOn(modules[len(modules)-addOn:])
	if e != api.OK {
		return api.Linear{}, e
	}
	return found, api.OK
}

// readSymbol returns what a symbol contains.
func readSymbol(modules string) (api.Linear, api.Errno) {
	stop := guard
	if len(modules) == upceSize {
		stop = upceStop
	}
	if !strings.HasPrefix(modules, guard) {
		return api.Linear{}, api.ErrStart
	}
	if !strings.HasSuffix(modules, stop) {
		return api.Linear{}, api.ErrStop
	}
	found, ok := readInner(modules[len(guard) : len(modules)-len(stop)])
	if !ok {
		return api.Linear{}, api.ErrPattern
	}
	if e := faultOf(found.Kind, found.Text, 0); e != api.OK {
		return api.Linear{}, e
	}
	return found, api.OK
}

// readInner returns what the modules between the guards contain, and whether all of them are right; the check digit may be wrong.
func readInner(modules string) (api.Linear, bool) {
	switch len(modules) {
	case ean13Size - 2*len(guard):
		return readEAN13(modules)
	case ean8Size - 2*len(guard):
		return readEAN8(modules)
	}
	return readUPCE(modules)
}

// readEAN13 returns the kind and the text of an EAN-13 or UPC-A symbol without its guards.
func readEAN13(modules string) (api.Linear, bool) {
	digits, row, ok := readHalves(modules)
	if !ok || row[6:] != "CCCCCC" {
		return api.Linear{}, false
	}
	rows := firstDigitSets()
	first := slices.Index(rows[:], row[:6])
	if first < 0 {
		return api.Linear{}, false
	}
	if first == 0 {
		return api.Linear{Kind: api.UPCA, Text: digits}, true
	}
	return api.Linear{Kind: api.EAN13, Text: digitOf(first) + digits}, true
}

// readEAN8 returns the kind and the text of an EAN-8 symbol without its guards.
func readEAN8(modules string) (api.Linear, bool) {
	digits, row, ok := readHalves(modules)
	return api.Linear{Kind: api.EAN8, Text: digits}, ok && row == "AAAACCCC"
}

// readUPCE returns the kind and the text of a UPC-E symbol without its guards.
func readUPCE(modules string) (api.Linear, bool) {
	digits, row, ok := readDigits(modules, "")
	if !ok {
		return api.Linear{}, false
	}
	for _, system := range []byte("01") {
		rows := checkDigitSets(system)
		if check := slices.Index(rows[:], row); check >= 0 {
			return api.Linear{Kind: api.UPCE, Text: string(system) + digits + digitOf(check)}, true
		}
	}
	return api.Linear{}, false
}

// readHalves returns the digits of two halves with the middle guard between them, their sets, and whether the guard and all digits are right.
func readHalves(modules string) (digits, row string, ok bool) {
	half := (len(modules) - len(middle)) / 2
	if modules[half:half+len(middle)] != middle {
		return "", "", false
	}
	return readDigits(modules[:half]+modules[half+len(middle):], "")
}

// readAddOn returns the digits of an add-on.
func readAddOn(modules string) (string, api.Errno) {
	if !strings.HasPrefix(modules, addOnStart) {
		return "", api.ErrStart
	}
	digits, row, ok := readDigits(modules[len(addOnStart):], separator)
	if !ok || strings.Contains(row, "C") {
		return "", api.ErrPattern
	}
	if row != addOnSets(digits) {
		return "", api.ErrCheck
	}
	return digits, api.OK
}

// readDigits returns digits with the same modules between each two of them, their sets, and whether all modules are right.
func readDigits(modules, between string) (digits, row string, ok bool) {
	for {
		digit, set, ok := readDigit(modules[:digitSize])
		if !ok {
			return "", "", false
		}
		digits, row = digits+digit, row+set
		modules = modules[digitSize:]
		if modules == "" {
			return digits, row, true
		}
		if !strings.HasPrefix(modules, between) {
			return "", "", false
		}
		modules = modules[len(between):]
	}
}

// readDigit returns a digit and its set, and whether the modules are those of a digit.
func readDigit(modules string) (digit, set string, ok bool) {
	digits := digitsInA()
	for i := range len(sets) {
		if d := slices.Index(digits[:], translated(modules, sets[i])); d >= 0 {
			return digitOf(d), sets[i : i+1], true
		}
	}
	return "", "", false
}

// digitOf returns the digit with a value.
func digitOf(value int) string {
	return string(rune('0' + value))
}
