package twowidth_test

import (
	"math/rand/v2"
	"strings"
	"testing"

	"barscan/api"
	"barscan/twowidth"
)

// fullASCII are the representations of the characters 0 to 127, as the published table lists them.
const fullASCII = `%U $A $B $C $D $E $F $G $H $I $J $K $L $M $N $O $P $Q $R $S $T $U $V $W $X $Y $Z %A %B %C %D %E
	space /A /B /C /D /E /F /G /H /I /J /K /L - . /O 0 1 2 3 4 5 6 7 8 9 /Z %F %G %H %I %J
	%V A B C D E F G H I J K L M N O P Q R S T U V W X Y Z %K %L %M %N %O
	%W +A +B +C +D +E +F +G +H +I +J +K +L +M +N +O +P +Q +R +S +T +U +V +W +X +Y +Z %P %Q %R %S %T`

// representations returns the representations of the characters 0 to 127.
func representations() []string {
	list := strings.Fields(fullASCII)
	list[' '] = " "
	return list
}

// TestFull checks P12.4 for all bytes, and for all pairs of them.
func TestFull(t *testing.T) {
	list := representations()
	for a := range 256 {
		for b := range 256 {
			ascii := string([]byte{byte(a), byte(b)})
			want, fault := "", api.ErrChar
			if a < 128 && b < 128 {
				want, fault = list[a]+list[b], api.OK
			}
			if got, e := twowidth.Full(ascii); got != want || e != fault {
				t.Fatalf("Full(%q) = %q, %d, want %q, %d", ascii, got, e, want, fault)
			}
		}
	}
	for a, want := range list {
		if got, e := twowidth.Full(string(rune(a))); got != want || e != api.OK {
			t.Errorf("Full(%q) = %q, %d, want %q", rune(a), got, e, want)
		}
	}
	if got, e := twowidth.Full("a,B"); got != "+A/LB" || e != api.OK {
		t.Errorf("Full = %q, %d", got, e)
	}
	if got, e := twowidth.Full(""); got != "" || e != api.OK {
		t.Errorf("Full of nothing = %q, %d", got, e)
	}
}

// TestFullErrors checks P12.4 for the limit of the result, and the order of the errors.
func TestFullErrors(t *testing.T) {
	for _, c := range []struct {
		ascii string
		want  api.Errno
	}{
		{strings.Repeat("A", 1000), api.OK},
		{strings.Repeat("A", 1001), api.ErrLong},
		{strings.Repeat("a", 500), api.OK},
		{strings.Repeat("a", 500) + "A", api.ErrLong},
		{strings.Repeat("a", 501), api.ErrLong},
		{strings.Repeat("A", 998) + "a", api.OK},
		{strings.Repeat("A", 999) + "a", api.ErrLong},
		{strings.Repeat("A", 2000) + "\x80", api.ErrChar},
		{strings.Repeat("a", 501) + "é", api.ErrChar},
		{"A\xff", api.ErrChar},
		{"\x80", api.ErrChar},
	} {
		got, e := twowidth.Full(c.ascii)
		if e != c.want || e != api.OK && got != "" {
			t.Errorf("Full of %d bytes = %q, %d, want %d", len(c.ascii), got, e, c.want)
		}
	}
}

// wantPlain returns what Plain returns for a text of at most 1000 bytes.
func wantPlain(text string) (string, api.Errno) {
	plain := map[string]byte{}
	for a, s := range representations() {
		plain[s] = byte(a)
	}
	var ascii []byte
	for text != "" {
		n := 1
		if strings.Contains("$/+%", text[:1]) {
			n = 2
		}
		if n > len(text) {
			return "", api.ErrForm
		}
		char, ok := plain[text[:n]]
		switch {
		case !ok && n == 2:
			return "", api.ErrForm
		case !ok:
			return "", api.ErrChar
		}
		ascii = append(ascii, char)
		text = text[n:]
	}
	return string(ascii), api.OK
}

// TestPlain checks P12.4 for all texts of one or two bytes, and for random texts.
func TestPlain(t *testing.T) {
	check := func(text string) {
		t.Helper()
		got, e := twowidth.Plain(text)
		if want, fault := wantPlain(text); got != want || e != fault {
			t.Fatalf("Plain(%q) = %q, %d, want %q, %d", text, got, e, want, fault)
		}
	}
	check("")
	for a := range 256 {
		check(string([]byte{byte(a)}))
		for b := range 256 {
			check(string([]byte{byte(a), byte(b)}))
		}
	}
	r := rand.New(rand.NewPCG(12, 14))
	for range 3000 {
		check(randomFrom(r, code39Text+"$/+%$/+%*a", r.IntN(8)))
	}
}

// TestPlainErrors checks P12.4 for the errors and their order.
func TestPlainErrors(t *testing.T) {
	for _, c := range []struct {
		text, want string
		e          api.Errno
	}{
		{"+A/LB", "a,B", api.OK},
		{"$1", "", api.ErrForm},
		{"$", "", api.ErrForm},
		{"A%", "", api.ErrForm},
		{"$a", "", api.ErrForm},
		{"/\xff", "", api.ErrForm},
		{"$$A", "", api.ErrForm},
		{"%X", "", api.ErrForm},
		{"%Y", "", api.ErrForm},
		{"%Z", "", api.ErrForm},
		{"/M", "", api.ErrForm},
		{"/N", "", api.ErrForm},
		{"/P", "", api.ErrForm},
		{"/Y", "", api.ErrForm},
		{"$@", "", api.ErrForm},
		{"$[", "", api.ErrForm},
		{"*", "", api.ErrChar},
		{"a$1", "", api.ErrChar},
		{"$1a", "", api.ErrForm},
		{"$Aa", "", api.ErrChar},
		{strings.Repeat("A", 1000), strings.Repeat("A", 1000), api.OK},
		{strings.Repeat("+A", 500), strings.Repeat("a", 500), api.OK},
		{strings.Repeat("A", 1001), "", api.ErrLong},
		{strings.Repeat("a", 1001), "", api.ErrLong},
		{strings.Repeat("$", 1001), "", api.ErrLong},
		{strings.Repeat("A", 999) + "$", "", api.ErrForm},
	} {
		if got, e := twowidth.Plain(c.text); got != c.want || e != c.e {
			t.Errorf("Plain(%q) = %q, %d, want %q, %d", c.text, got, e, c.want, c.e)
		}
	}
}

// TestInverse checks P12.8: Plain and Full are inverse to each other.
func TestInverse(t *testing.T) {
	r := rand.New(rand.NewPCG(12, 15))
	var all []byte
	for c := range 128 {
		all = append(all, byte(c))
	}
	list := representations()
	for n := range 500 {
		ascii := randomFrom(r, string(all), n)
		text, e := twowidth.Full(ascii)
		if e != api.OK {
			t.Fatalf("Full of %d characters: %d", n, e)
		}
		if back, e := twowidth.Plain(text); back != ascii || e != api.OK {
			t.Fatalf("Plain(Full(%q)) = %q, %d", ascii, back, e)
		}
		text = ""
		for range n {
			text += list[r.IntN(128)]
		}
		ascii, e = twowidth.Plain(text)
		if e != api.OK {
			t.Fatalf("Plain(%q): %d", text, e)
		}
		if back, e := twowidth.Full(ascii); back != text || e != api.OK {
			t.Fatalf("Full(Plain(%q)) = %q, %d", text, back, e)
		}
	}
}
