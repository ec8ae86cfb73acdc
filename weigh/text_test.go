package weigh

import (
	"math"
	"math/big"
	"strings"
	"testing"

	"sheaf/api"
)

// known returns weights with their texts.
func known() map[string]complex128 {
	return map[string]complex128{
		"0+0i":                                0,
		"0+1i":                                1i,
		"0-1i":                                -1i,
		"1+0i":                                1,
		"-1+0i":                               -1,
		"-1-1i":                               -1 - 1i,
		"3+0i":                                3,
		"-2+2i":                               -2 + 2i,
		"-7-12i":                              -7 - 12i,
		"10-20i":                              10 - 20i,
		"100+9i":                              100 + 9i,
		"9007199254740992-9007199254740992i":  bound - bound*1i,
		"-9007199254740992+9007199254740992i": -bound + bound*1i,
		"-9007199254740991+9007199254740991i": 1 - bound + (bound-1)*1i,
	}
}

// notTexts returns what no weight has as its text.
func notTexts() []string {
	l := []string{
		"", "i", "+", "-", "?", "1", "1i", "+1i", "-1i", "1+", "1-", "1+i", "1-i", "+i", "-i", "+-i", "1+1", "1-1", "0+0", "+1", "-1", "-",
		"+1+1i", "+0+0i", "++1i", "--1i", "1++1i", "1+-1i", "1-+1i", "1--1i", "-+1+1i", "--1+1i",
		"-0+0i", "-0+1i", "-0-1i", "0-0i", "1-0i", "-1-0i",
		"01+1i", "00+1i", "-01+1i", "1+01i", "1-01i", "1+00i", "0+00i", "-00+0i",
		"1+1ii", "1+1I", "1+1j", "1+1i+1i", "1i+1i", "1+i1", "i1+1", "i+1i", "1+1i1", "1+1-1i", "1+1+1i", "-1-1-1i",
		" ", " 1+1i", "1 +1i", "1+ 1i", "1+1 i", "1+1i ", "1+1i\n", "\t1+1i", "1+1i\x00", "1\x00+1i", "\x001+1i", "(1+1i)",
		"1.0+1i", "1+1.0i", "1e3+1i", "1e+3i", "0x1+1i", "1_0+1i", "1+1_0i", "1,0+1i", "a+1i", "1+ai", "NaN+1i", "Inf+1i", "+Inf+1i", "1+Infi",
		"1−1i", "１+1i", "1+１i", "١+1i", "\xff+1i", "1+\xffi",
	}
	for _, n := range []string{"9007199254740993", "9007199254740994", "10000000000000000", "9223372036854775807", "9223372036854775808", "18446744073709551616", "18446744073709551617"} {
		l = append(l, n+"+0i", "-"+n+"+0i", "0+"+n+"i", "0-"+n+"i", n+"+"+n+"i", "-"+n+"-"+n+"i")
	}
	for _, n := range []int{17, 20, 100, api.MaxLine, api.MaxStream} {
		for _, digit := range []string{"0", "1", "9"} {
			s := strings.Repeat(digit, n)
			l = append(l, s, s+"i", s+"+0i", "-"+s+"+0i", "0+"+s+"i", "0-"+s+"i", s+"+"+s+"i")
		}
		l = append(l, strings.Repeat("0", n)+"1+1i", "1+"+strings.Repeat("0", n)+"1i", "1+1"+strings.Repeat("i", n), strings.Repeat("-", n)+"1+1i", strings.Repeat("+1", n)+"i")
	}
	return l
}

// P4.3: texts that are known, in both directions.
func TestTextKnown(t *testing.T) {
	for s, z := range known() {
		if got := Text(z); got != s {
			t.Errorf("Text(%v): %s, not %s", z, got, s)
		}
		if got, e := Parse(s); !is(got, real(z), imag(z)) || e != api.OK {
			t.Errorf("Parse(%s): %v %d, not %v", s, got, e, z)
		}
	}
}

// P4.3: the texts of all kinds of parts, with another's decimal numbers.
func TestTextOfParts(t *testing.T) {
	for _, re := range numbers() {
		for _, im := range numbers() {
			sign := "+"
			if im < 0 {
				sign = "-"
			}
			second := new(big.Int).Abs(big.NewInt(int64(im)))
			want := big.NewInt(int64(re)).String() + sign + second.String() + "i"
			z := complex(float64(re), float64(im))
			if s := Text(z); s != want {
				t.Errorf("Text(%v): %s, not %s", z, s, want)
			}
			if x, e := Parse(want); !is(x, float64(re), float64(im)) || e != api.OK {
				t.Errorf("Parse(%s): %v %d", want, x, e)
			}
		}
	}
}

// P4.3: every pair of small parts comes back from its text.
func TestSmallTexts(t *testing.T) {
	for re := -120; re <= 120; re++ {
		for im := -120; im <= 120; im++ {
			z := complex(float64(re), float64(im))
			if x, e := Parse(Text(z)); !is(x, float64(re), float64(im)) || e != api.OK {
				t.Errorf("Parse(%s): %v %d, not %v", Text(z), x, e, z)
			}
		}
	}
}

// P4.3: parts that are -0 have the text of 0.
func TestTextOfMinusZero(t *testing.T) {
	minus := math.Copysign(0, -1)
	for _, c := range []struct {
		z    complex128
		want string
	}{
		{complex(minus, minus), "0+0i"},
		{complex(minus, 0), "0+0i"},
		{complex(0, minus), "0+0i"},
		{complex(minus, -4), "0-4i"},
		{complex(-4, minus), "-4+0i"},
	} {
		if s := Text(c.z); s != c.want {
			t.Errorf("Text(%v): %s, not %s", c.z, s, c.want)
		}
	}
}

// P4.3: what is not valid has a question mark, and that is no text of a weight.
func TestTextWrong(t *testing.T) {
	for _, z := range notWeights() {
		if s := Text(z); s != "?" {
			t.Errorf("Text(%v): %s", z, s)
		}
	}
	if s := Text(Join(bound, 0, bound)); s != "?" {
		t.Errorf("Text of a sum beyond the bounds: %s", s)
	}
}

// P4.3: what no weight has as its text.
func TestParseWrong(t *testing.T) {
	for _, s := range notTexts() {
		if z, e := Parse(s); !is(z, 0, 0) || e != api.ErrForm {
			t.Errorf("Parse(%.60q), %d bytes: %v %d", s, len(s), z, e)
		}
	}
}

// P4.3: a text of a weight, with a byte less, or with any byte at any place, or one more: only what is again a text has a weight.
func TestParseChanged(t *testing.T) {
	for s := range known() {
		for i := range len(s) + 1 {
			if i < len(s) {
				expectStrict(t, s[:i]+s[i+1:])
			}
			for b := range 256 {
				expectStrict(t, s[:i]+string([]byte{byte(b)})+s[i:])
				if i < len(s) {
					expectStrict(t, s[:i]+string([]byte{byte(b)})+s[i+1:])
				}
			}
		}
	}
}

// isText tells whether a text has the form that the document gives to those of weights, sign by sign.
func isText(s string) bool {
	first, rest := cutNumber(strings.TrimPrefix(s, "-"))
	if first == "" || first == "0" && s[0] == '-' || rest == "" {
		return false
	}
	second, end := cutNumber(rest[1:])
	if second == "" || second == "0" && rest[0] == '-' || rest[0] != '+' && rest[0] != '-' {
		return false
	}
	return end == "i" && notBeyond(first) && notBeyond(second)
}

// cutNumber cuts the digits at the beginning of s off, or nothing if a 0 stands before another digit.
func cutNumber(s string) (string, string) {
	n := 0
	for n < len(s) && s[n] >= '0' && s[n] <= '9' {
		n++
	}
	if n > 1 && s[0] == '0' {
		return "", s
	}
	return s[:n], s[n:]
}

// notBeyond tells whether a number without leading zeros is at most 2^53.
func notBeyond(s string) bool {
	const greatest = "9007199254740992"
	return len(s) < len(greatest) || len(s) == len(greatest) && s <= greatest
}

// expectStrict holds Parse of any text against isText and Text.
func expectStrict(t *testing.T, s string) {
	t.Helper()
	z, e := Parse(s)
	switch {
	case isText(s) && (e != api.OK || Text(z) != s):
		t.Errorf("Parse(%q): %v %d", s, z, e)
	case !isText(s) && (e != api.ErrForm || !is(z, 0, 0)):
		t.Errorf("Parse(%q), which is no text of a weight: %v %d", s, z, e)
	}
}

// FuzzParse holds Parse of any text against the document's words.
func FuzzParse(f *testing.F) {
	for s := range known() {
		f.Add(s)
	}
	for _, s := range notTexts() {
		if len(s) < 50 {
			f.Add(s)
		}
	}
	f.Fuzz(expectStrict)
}
