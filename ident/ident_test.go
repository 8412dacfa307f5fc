package ident_test

import (
	"strings"
	"testing"

	"chargenet/api"
	"chargenet/ident"
)

const (
	capitals = "ABCDEFGHIJKLMNOPQRSTUVWXYZ"
	smalls   = "abcdefghijklmnopqrstuvwxyz"
	digits   = "0123456789"
	marks    = "-_.:*"
)

// odd are strings with characters that no identifier has, some of which look like letters or digits, or become letters when their case is changed.
var odd = []string{" ", "\x00", "\n", "/", "@", "[", "`", "{", "+", ",", ";", "~", "\x7f", "\x80", "\xc3", "\xff", "\xc3\xa9", "\u00c9", "\u017f", "\u212a", "\u0131", "\u0660", "\uff21", "\uff10", "\ufffd", "\U0001d400"}

func isLetter(b byte) bool { return strings.IndexByte(capitals+smalls, b) >= 0 }

func isCharacter(b byte) bool { return isLetter(b) || strings.IndexByte(digits, b) >= 0 }

func isPermitted(b byte) bool { return isCharacter(b) || strings.IndexByte(marks, b) >= 0 }

// upper is the capital of a letter, and any other byte itself.
func upper(b byte) byte {
	if i := strings.IndexByte(smalls, b); i >= 0 {
		return capitals[i]
	}
	return b
}

func upperAll(s string) string {
	b := []byte(s)
	for i := range b {
		b[i] = upper(b[i])
	}
	return string(b)
}

func lowerAll(s string) string {
	b := []byte(s)
	for i := range b {
		if n := strings.IndexByte(capitals, b[i]); n >= 0 {
			b[i] = smalls[n]
		}
	}
	return string(b)
}

// checkByDefinition follows P1.2 word by word: it tries every value c.
func checkByDefinition(s string) byte {
	p := 36
	for i := range len(s) {
		v := strings.IndexByte(digits+capitals, upper(s[i]))
		if v < 0 {
			continue
		}
		q := (p + v) % 36
		if q == 0 {
			q = 36
		}
		p = 2 * q % 37
	}
	for c := range 36 {
		if (p+c)%36 == 1 {
			return (digits + capitals)[c]
		}
	}
	return 0
}

// source is a sequence of numbers that are the same in every run.
type source uint64

func (s *source) next(n int) int {
	*s = *s*6364136223846793005 + 1442695040888963407
	return int(uint64(*s) >> 33 % uint64(n))
}

func (s *source) pick(from string, n int) string {
	b := make([]byte, n)
	for i := range b {
		b[i] = from[s.next(len(from))]
	}
	return string(b)
}

// P1.1

func TestValidExamples(t *testing.T) {
	for s, want := range map[string]bool{
		"DE*A-1": true, "": false, "a b": false, strings.Repeat("a", 37): false,
		"a": true, "Z": true, "0": true, "9": true, "-": true, "_": true, ".": true, ":": true, "*": true,
		"a-Z_0.9:*": true, " a": false, "a ": false, "a\n": false,
	} {
		if ident.Valid(s) != want {
			t.Errorf("Valid(%q) is not %v", s, want)
		}
	}
}

func TestValidLengths(t *testing.T) {
	for n := range 100 {
		for _, c := range []string{"a", "Z", "5", "-", "*"} {
			if want := n >= 1 && n <= 36; ident.Valid(strings.Repeat(c, n)) != want {
				t.Errorf("%d times %q: not %v", n, c, want)
			}
		}
	}
	for _, n := range []int{256, 257, 292, 1 << 16, 1<<16 + 36} {
		if ident.Valid(strings.Repeat("a", n)) {
			t.Errorf("%d letters", n)
		}
	}
}

func TestValidBytes(t *testing.T) {
	for i := range 256 {
		b := string([]byte{byte(i)})
		want := isPermitted(byte(i))
		for _, s := range []string{b, b + "a", "a" + b, "a" + b + "a", b + b, strings.Repeat("a", 35) + b, b + strings.Repeat("a", 35)} {
			if ident.Valid(s) != want {
				t.Errorf("Valid(%q) is not %v", s, want)
			}
		}
	}
}

func TestValidOtherCharacters(t *testing.T) {
	for _, o := range odd {
		for _, s := range []string{o, o + "a", "a" + o, "a" + o + "a", strings.Repeat("a", 36-len(o)) + o} {
			if ident.Valid(s) {
				t.Errorf("Valid(%q)", s)
			}
		}
	}
	if ident.Valid(strings.Repeat("\u00e9", 18)) || ident.Valid(strings.Repeat("\u00e9", 36)) {
		t.Error("letters with accents")
	}
}

// P1.2

func TestCheckExamples(t *testing.T) {
	for s, want := range map[string]byte{
		"A": 'H', "a": 'H', "-a": 'H', "0": '2', "1": 'Z', "DE-8AA-CA2B3C4D5": 'J',
		"DE8AACA2B3C4D5": 'J', "de-8aa-ca2b3c4d5": 'J', "*D_E.8:A-A-C.A2:B3_C4*D5": 'J',
		// the example of the Global Release Identifier, which uses the same standard
		"A12425GABC1234002": 'M', "A1-2425G-ABC1234002": 'M',
	} {
		if c, e := ident.Check(s); c != want || e != api.OK {
			t.Errorf("Check(%q): %q, %d", s, c, e)
		}
	}
}

func TestCheckSingleCharacters(t *testing.T) {
	seen := map[byte]bool{}
	for i := range 256 {
		s := string([]byte{byte(i)})
		c, e := ident.Check(s)
		if !isCharacter(byte(i)) {
			if c != 0 || e != api.ErrName {
				t.Errorf("Check(%q): %q, %d", s, c, e)
			}
			continue
		}
		if want := checkByDefinition(s); c != want || e != api.OK {
			t.Errorf("Check(%q): %q, %d, not %q", s, c, e, want)
		}
		seen[c] = true
	}
	if len(seen) != 36 {
		t.Errorf("%d check characters", len(seen))
	}
}

func TestCheckByDefinition(t *testing.T) {
	all := capitals + smalls + digits
	for i := range len(all) {
		for j := range len(all) {
			s := string([]byte{all[i], all[j]})
			if c, e := ident.Check(s); c != checkByDefinition(s) || e != api.OK {
				t.Fatalf("Check(%q): %q, %d", s, c, e)
			}
		}
	}
	from := source(1)
	for range 20000 {
		s := from.pick(all, 1) + from.pick(all+marks, from.next(36))
		if c, e := ident.Check(s); c != checkByDefinition(s) || e != api.OK {
			t.Fatalf("Check(%q): %q, %d", s, c, e)
		}
	}
}

func TestCheckSkipsMarks(t *testing.T) {
	for i := range len(marks) {
		m := marks[i : i+1]
		for _, s := range []string{m + "A1", "A" + m + "1", "A1" + m, m + m + "A" + m + m + "1" + m + m} {
			if c, e := ident.Check(s); c != checkByDefinition("A1") || e != api.OK {
				t.Errorf("Check(%q): %q, %d", s, c, e)
			}
		}
	}
}

func TestCheckErrors(t *testing.T) {
	bad := []string{"", "-", "_", ".", ":", "*", "-_.:*", strings.Repeat("-", 36), strings.Repeat("-", 37), strings.Repeat("a", 37), strings.Repeat("0", 38), "a b", " a", "a "}
	for _, o := range odd {
		bad = append(bad, o, o+"A", "A"+o, "A"+o+"A", "-"+o)
	}
	for _, s := range bad {
		if c, e := ident.Check(s); c != 0 || e != api.ErrName {
			t.Errorf("Check(%q): %q, %d", s, c, e)
		}
	}
	for _, s := range []string{strings.Repeat("a", 36), strings.Repeat("-", 35) + "a", "a" + strings.Repeat("*", 35)} {
		if c, e := ident.Check(s); c != checkByDefinition(s) || e != api.OK {
			t.Errorf("Check(%q): %q, %d", s, c, e)
		}
	}
}

// P1.3

func TestMakeExamples(t *testing.T) {
	for _, c := range []struct{ country, party, instance, want string }{
		{"de", "8aa", "ca2b3c4d5", "DE-8AA-CA2B3C4D5-J"},
		{"DE", "8AA", "CA2B3C4D5", "DE-8AA-CA2B3C4D5-J"},
		{"dE", "8Aa", "cA2b3C4d5", "DE-8AA-CA2B3C4D5-J"},
	} {
		if s, e := ident.Make(c.country, c.party, c.instance); s != c.want || e != api.OK {
			t.Errorf("%v: %q, %d", c, s, e)
		}
	}
	for _, c := range [][3]string{{"aa", "aaa", "aaaaaaaaa"}, {"ZZ", "ZZZ", "ZZZZZZZZZ"}, {"az", "000", "000000000"}, {"Za", "999", "999999999"}, {"nl", "a0Z", "z9A0b8Y1c"}} {
		body := upperAll(c[0] + "-" + c[1] + "-" + c[2])
		want := body + "-" + string(rune(checkByDefinition(body)))
		if s, e := ident.Make(c[0], c[1], c[2]); s != want || e != api.OK {
			t.Errorf("%v: %q, %d, not %q", c, s, e, want)
		}
	}
}

func makeFails(t *testing.T, country, party, instance string) {
	if s, e := ident.Make(country, party, instance); s != "" || e != api.ErrName {
		t.Helper()
		t.Errorf("Make(%q, %q, %q): %q, %d", country, party, instance, s, e)
	}
}

func TestMakeLengths(t *testing.T) {
	for n := range 40 {
		s := strings.Repeat("a", n)
		if n != 2 {
			makeFails(t, s, "8aa", "ca2b3c4d5")
		}
		if n != 3 {
			makeFails(t, "de", s, "ca2b3c4d5")
		}
		if n != 9 {
			makeFails(t, "de", "8aa", s)
		}
	}
	makeFails(t, "", "", "")
	makeFails(t, "de-", "8aa", "ca2b3c4d5")
	makeFails(t, "d", "e8aa", "ca2b3c4d5")
	makeFails(t, "de", "8a", "aca2b3c4d5")
}

func TestMakeBytes(t *testing.T) {
	good := [3]string{"de", "8aa", "ca2b3c4d5"}
	for part := range good {
		for at := range len(good[part]) {
			for i := range 256 {
				c := good
				c[part] = good[part][:at] + string([]byte{byte(i)}) + good[part][at+1:]
				if !isCharacter(byte(i)) || part == 0 && !isLetter(byte(i)) {
					makeFails(t, c[0], c[1], c[2])
					continue
				}
				body := upperAll(c[0] + "-" + c[1] + "-" + c[2])
				if s, e := ident.Make(c[0], c[1], c[2]); s != body+"-"+string(rune(checkByDefinition(body))) || e != api.OK {
					t.Errorf("%q: %q, %d", c, s, e)
				}
			}
		}
	}
}

func TestMakeOtherCharacters(t *testing.T) {
	for _, o := range odd {
		if n := len(o); n <= 2 {
			makeFails(t, "de"[n:]+o, "8aa", "ca2b3c4d5")
			makeFails(t, o+"de"[n:], "8aa", "ca2b3c4d5")
		}
		if n := len(o); n <= 3 {
			makeFails(t, "de", "8aa"[n:]+o, "ca2b3c4d5")
			makeFails(t, "de", o+"8aa"[n:], "ca2b3c4d5")
		}
		makeFails(t, "de", "8aa", "ca2b3c4d5"[len(o):]+o)
		makeFails(t, "de", "8aa", o+"ca2b3c4d5"[len(o):])
	}
	// as many characters as the parts have, but more bytes
	makeFails(t, "\u00e9\u00e9", "8aa", "ca2b3c4d5")
	makeFails(t, "de", "\u00e9\u00e9\u00e9", "ca2b3c4d5")
	makeFails(t, "de", "8aa", strings.Repeat("\u00e9", 9))
}

// P1.4

func parses(t *testing.T, s, country, party, instance string, want api.Errno) {
	a, b, c, e := ident.Parse(s)
	if a != country || b != party || c != instance || e != want {
		t.Helper()
		t.Errorf("Parse(%q): %q, %q, %q, %d, not %d", s, a, b, c, e, want)
	}
}

func TestParseExamples(t *testing.T) {
	for _, s := range []string{"de-8aa-ca2b3c4d5-j", "DE-8AA-CA2B3C4D5-J", "de-8aa-ca2b3c4d5-J", "DE-8AA-CA2B3C4D5-j", "dE-8Aa-Ca2B3c4D5-j"} {
		parses(t, s, "DE", "8AA", "CA2B3C4D5", api.OK)
	}
	parses(t, "de-8aa-ca2b3c4d5-k", "", "", "", api.ErrSum)
	parses(t, "de-8aa-ca2b3c4d5", "", "", "", api.ErrForm)
}

func TestParseForm(t *testing.T) {
	whole := "DE-8AA-CA2B3C4D5-J"
	for n := range len(whole) {
		parses(t, whole[:n], "", "", "", api.ErrForm)
		parses(t, whole[n+1:], "", "", "", api.ErrForm)
		parses(t, whole[:n]+whole[n+1:], "", "", "", api.ErrForm)
		parses(t, whole[:n]+"A"+whole[n:], "", "", "", api.ErrForm)
	}
	for _, s := range []string{
		whole + "-", whole + "J", whole + "\x00", " " + whole, whole + " ", whole + whole,
		"DE8AACA2B3C4D5J", "DE*8AA*CA2B3C4D5*J", "DE-8AA-CA2B3C4D5J-", "DEA-8A-CA2B3C4D5-J", "D-E8AA-CA2B3C4D5-J", "DE-8AAC-A2B3C4D5-J",
		"------------------", strings.Repeat("A", 18), strings.Repeat("-", 17) + "J",
	} {
		parses(t, s, "", "", "", api.ErrForm)
	}
	for _, o := range odd {
		for at := 0; at+len(o) <= len(whole); at++ {
			parses(t, whole[:at]+o+whole[at+len(o):], "", "", "", api.ErrForm)
		}
	}
}

// TestParseFormFirst has strings whose check character is that of their other characters, but whose form is wrong.
func TestParseFormFirst(t *testing.T) {
	for _, body := range []string{"D1-8AA-CA2B3C4D5", "11-8AA-CA2B3C4D5", "DE-8A.-CA2B3C4D5", "DE-8AA-CA2B3C4D-", "DE-8AA_CA2B3C4D5", "DE-8AA-CA2B3C4D"} {
		parses(t, body+"-"+string(rune(checkByDefinition(body))), "", "", "", api.ErrForm)
		parses(t, body+"-?", "", "", "", api.ErrForm)
	}
}

// TestParseBytes replaces each byte of a contract identifier by every byte. It covers P1.7, too.
func TestParseBytes(t *testing.T) {
	for _, whole := range []string{"DE-8AA-CA2B3C4D5-J", "de-8aa-ca2b3c4d5-j"} {
		for at := range len(whole) {
			for i := range 256 {
				b := byte(i)
				s := whole[:at] + string([]byte{b}) + whole[at+1:]
				hyphen := at == 2 || at == 6 || at == 16
				switch {
				case upper(b) == upper(whole[at]):
					parses(t, s, "DE", "8AA", "CA2B3C4D5", api.OK)
				case hyphen || !isCharacter(b) || at < 2 && !isLetter(b):
					parses(t, s, "", "", "", api.ErrForm)
				default:
					parses(t, s, "", "", "", api.ErrSum)
				}
			}
		}
	}
}

// P1.5

func TestSameExamples(t *testing.T) {
	for _, c := range []struct {
		a, b string
		want bool
	}{
		{"ab-1", "AB-1", true}, {"ab", "ab ", false}, {"", "", true}, {"", "a", false}, {"", "\x00", false},
		{"aBcDeFgHiJkLmNoPqRsTuVwXyZ", "AbCdEfGhIjKlMnOpQrStUvWxYz", true},
		{"ab", "ba", false}, {"ab", "a", false}, {"ab", "abc", false}, {"a", "aa", false},
		{"\u00e9", "\u00c9", false}, {"\u00e9", "\u00e9", true}, {"a\u00e9", "A\u00e9", true}, {"\u00e9a", "\u00e9A", true}, {"\u00e9a", "\u00e9b", false},
		{"k", "\u212a", false}, {"K", "\u212a", false}, {"s", "\u017f", false}, {"S", "\u017f", false}, {"i", "\u0131", false}, {"I", "\u0130", false}, {"ss", "\u00df", false},
		{"\xff", "\xfe", false}, {"\xff", "\ufffd", false}, {"\xff", "\xff", true}, {"x\xffy", "X\xffY", true}, {"x\xffy", "X\xfeY", false},
		{"\xc3", "\xe3", false}, {"\xc3", "\xc3\xa9", false}, {"\xe9", "\xc9", false},
		{"@", "`", false}, {"[", "{", false}, {"\\", "|", false}, {"]", "}", false}, {"^", "~", false}, {"_", "\x7f", false},
		{strings.Repeat("a", 1000), strings.Repeat("A", 1000), true}, {strings.Repeat("a", 1000), strings.Repeat("A", 999) + "B", false}, {strings.Repeat("a", 1000), strings.Repeat("A", 1001), false},
	} {
		if ident.Same(c.a, c.b) != c.want || ident.Same(c.b, c.a) != c.want {
			t.Errorf("Same(%q, %q) is not %v", c.a, c.b, c.want)
		}
	}
}

func TestSameBytes(t *testing.T) {
	for i := range 256 {
		for j := range 256 {
			a, b := string([]byte{byte(i)}), string([]byte{byte(j)})
			want := upper(byte(i)) == upper(byte(j))
			if ident.Same(a, b) != want || ident.Same("x"+a, "X"+b) != want || ident.Same(a+"x", b+"X") != want {
				t.Fatalf("Same(%q, %q) is not %v", a, b, want)
			}
		}
	}
}

// P1.6 and P1.7

func TestInverse(t *testing.T) {
	from := source(6)
	letters := capitals + smalls
	for range 3000 {
		country, party, instance := from.pick(letters, 2), from.pick(letters+digits, 3), from.pick(letters+digits, 9)
		s, e := ident.Make(country, party, instance)
		if e != api.OK || s != upperAll(s) || len(s) != 18 {
			t.Fatalf("Make(%q, %q, %q): %q, %d", country, party, instance, s, e)
		}
		parses(t, s, upperAll(country), upperAll(party), upperAll(instance), api.OK)
		parses(t, lowerAll(s), upperAll(country), upperAll(party), upperAll(instance), api.OK)
	}
}

func TestDetection(t *testing.T) {
	from := source(7)
	letters := capitals + smalls
	for range 100 {
		whole, e := ident.Make(from.pick(letters, 2), from.pick(letters+digits, 3), from.pick(letters+digits, 9))
		if e != api.OK {
			t.Fatal(e)
		}
		for at := range len(whole) {
			if whole[at] == '-' {
				continue
			}
			for _, r := range letters + digits {
				if upper(byte(r)) == whole[at] {
					continue
				}
				want := api.ErrSum
				if at < 2 && !isLetter(byte(r)) {
					want = api.ErrForm
				}
				parses(t, whole[:at]+string(r)+whole[at+1:], "", "", "", want)
			}
		}
	}
}

// R1: no argument makes a function panic.

func TestAnyStrings(t *testing.T) {
	from := source(8)
	bytes := make([]byte, 256)
	for i := range bytes {
		bytes[i] = byte(i)
	}
	for range 5000 {
		a, b, c := from.pick(string(bytes), from.next(40)), from.pick(string(bytes), from.next(6)), from.pick(string(bytes), from.next(12))
		ident.Valid(a)
		ident.Check(a)
		ident.Make(b, b, c)
		ident.Make(a, b, c)
		ident.Parse(a)
		if !ident.Same(a, a) || ident.Same(a, a+b+"x") {
			t.Errorf("Same(%q, %q)", a, b)
		}
	}
	long := strings.Repeat("DE-8AA-CA2B3C4D5-J", 1<<12)
	if _, e := ident.Make(long, long, long); e != api.ErrName {
		t.Error(e)
	}
	if _, e := ident.Check(long); e != api.ErrName {
		t.Error(e)
	}
	parses(t, long, "", "", "", api.ErrForm)
}
