package value_test

import (
	"fmt"
	"math"
	"math/rand/v2"
	"strings"
	"testing"

	"hayloft/api"
	"hayloft/value"
)

// written are values and what they are printed as.
var written = []struct {
	v api.Value
	s string
}{
	{api.Value{}, "null"},
	{api.Value{Kind: 1}, "false"},
	{api.Value{Kind: 1, Bool: true}, "true"},
	{api.Value{Kind: 2}, "0"},
	{api.Value{Kind: 2, Int: 7}, "7"},
	{api.Value{Kind: 2, Int: 10}, "10"},
	{api.Value{Kind: 2, Int: -1}, "-1"},
	{api.Value{Kind: 2, Int: -100}, "-100"},
	{api.Value{Kind: 2, Int: math.MaxInt64}, "9223372036854775807"},
	{api.Value{Kind: 2, Int: math.MinInt64}, "-9223372036854775808"},
	{api.Value{Kind: 3}, `""`},
	{api.Value{Kind: 3, Text: "a"}, `"a"`},
	{api.Value{Kind: 3, Text: "a\"\n"}, `"a\"\x0a"`},
	{api.Value{Kind: 3, Text: `"`}, `"\""`},
	{api.Value{Kind: 3, Text: `\`}, `"\\"`},
	{api.Value{Kind: 3, Text: `\"`}, `"\\\""`},
	{api.Value{Kind: 3, Text: `\x0a`}, `"\\x0a"`},
	{api.Value{Kind: 3, Text: "\x1f \x7e\x7f"}, `"\x1f ~\x7f"`},
	{api.Value{Kind: 3, Text: "\x00\x09\x80\xab\xff"}, `"\x00\x09\x80\xab\xff"`},
	{api.Value{Kind: 3, Text: "é"}, `"\xc3\xa9"`},
	{api.Value{Kind: 3, Text: "'`"}, "\"'`\""},
	{api.Value{Kind: 3, Text: "null"}, `"null"`},
	{api.Value{Kind: 3, Text: "7"}, `"7"`},
	{api.Value{Kind: 3, Text: long(api.MaxText)}, `"` + long(api.MaxText) + `"`},
	{api.Value{Kind: 3, Text: strings.Repeat("\n", api.MaxText)}, `"` + strings.Repeat(`\x0a`, api.MaxText) + `"`},
}

func TestPrint(t *testing.T) {
	for _, k := range written {
		if s := value.Print(k.v); s != k.s {
			t.Errorf("P2.5: Print(%+v): %q, want %q", k.v, s, k.s)
		}
	}
	for _, v := range wrongs() {
		if s := value.Print(v); s != "" {
			t.Errorf("P2.5: Print(%+v): %q", v, s)
		}
	}
}

// byteText is how a byte of a text is written.
func byteText(b int) string {
	switch {
	case b == '"' || b == '\\':
		return string([]byte{'\\', byte(b)})
	case b < 32 || b > 126:
		return fmt.Sprintf("\\x%02x", b)
	}
	return string(rune(b))
}

func TestEachByte(t *testing.T) {
	for b := range 256 {
		v := value.Text(string([]byte{'<', byte(b), '>'}))
		s := `"<` + byteText(b) + `>"`
		if got := value.Print(v); got != s {
			t.Errorf("P2.5: a byte %d: %q", b, got)
		}
		if got, e := value.Parse(s); got != v || e != api.OK {
			t.Errorf("P2.5: %q: %+v, %d", s, got, e)
		}
		if byteText(b) != string([]byte{byte(b)}) {
			wantNone(t, `"<`+string([]byte{byte(b)})+`>"`)
		}
		if hex := fmt.Sprintf("\\x%02x", b); byteText(b) != hex {
			wantNone(t, `"<`+hex+`>"`)
		}
		if back := string([]byte{'\\', byte(b)}); byteText(b) != back {
			wantNone(t, `"<`+back+`>"`)
		}
	}
}

func TestParse(t *testing.T) {
	for _, k := range written {
		if v, e := value.Parse(k.s); v != k.v || e != api.OK {
			t.Errorf("P2.5: Parse(%q): %+v, %d", k.s, v, e)
		}
	}
}

// wantNone wants that s is no value's text.
func wantNone(t *testing.T, s string) {
	t.Helper()
	if v, e := value.Parse(s); v != (api.Value{}) || e != api.ErrValueRow {
		t.Errorf("P2.5: Parse(%q): %+v, %d", s, v, e)
	}
}

func TestParseWrong(t *testing.T) {
	for _, s := range []string{
		"", " ", "\x00", "n", "nul", "Null", "NULL", "nil", "nulls", "null ", " null", "nullnull",
		"t", "True", "TRUE", "true ", " true", "true1", "f", "False", "FALSE", "falsetrue", "1true",
		"-", "+", "+0", "+1", "-0", "00", "007", "-01", "-007", "--1", "1-", "+-1", "1 ", " 1", "1\n", "1.", "1.0", "1e3", "0x10", "0b1", "0o7", "1_000", "1,000", "a", "10a", "٣", "Inf", "NaN",
		"9223372036854775808", "-9223372036854775809", "18446744073709551615", "18446744073709551616", "-18446744073709551616", strings.Repeat("9", 500), strings.Repeat("0", 500),
		`"`, `"a`, `a"`, `a`, `"a" `, ` "a"`, `"a""`, `"a"b`, `"a"b"`, `"a""b"`, `"""`, `""""`, `''`, "``", `'a'`, `"a'`,
		`"\"`, `"\`, `"\\\"`, `"a\"`, `\"a\"`,
		`"\n"`, `"\t"`, `"\a"`, `"\/"`, `"\0"`, `"\u000a"`, `"\X0a"`, `"\12"`,
		`"\x"`, `"\x0"`, `"\x0"a`, `"\x`, `"\x0`, `"\x0a`, `"\xg0"`, `"\x0g"`, `"\x 1"`, `"\x+1"`, `"\x-1"`, `"\x_1"`, `"\x0x"`,
		`"\x0A"`, `"\xFF"`, `"\xfF"`, `"\x61"`, `"\x20"`, `"\x7e"`, `"\x22"`, `"\x5c"`,
		"\"\n\"", "\"\x1f\"", "\"\x7f\"", "\"\x80\"", "\"é\"", "\"\xff\"", "\"\x00\"",
		`"` + long(api.MaxText+1) + `"`, `"` + long(1000) + `"`, `"` + strings.Repeat(`\x0a`, api.MaxText+1) + `"`,
		`"` + long(api.MaxText) + `\"`, `"` + long(api.MaxText) + `\""`, `"` + long(api.MaxText) + `\x"`,
		`"a"null`, `null"a"`, `1"a"`, `"a"1`,
	} {
		wantNone(t, s)
	}
}

func TestParseOfPrint(t *testing.T) {
	r := rand.New(rand.NewPCG(2, 5))
	for range 20000 {
		var v api.Value
		if r.IntN(3) == 0 {
			v = value.Int(int64(r.Uint64()) >> r.IntN(64))
		} else {
			b := make([]byte, r.IntN(api.MaxText+1))
			for i := range b {
				b[i] = byte(r.Uint32())
			}
			v = value.Text(string(b))
		}
		s := value.Print(v)
		if got, e := value.Parse(s); got != v || e != api.OK {
			t.Fatalf("P2.6: %+v is printed %q, and that is %+v, %d", v, s, got, e)
		}
	}
}

// Whatever Parse takes, Print writes the same again: of what is written nearly right, too.
func TestPrintOfParse(t *testing.T) {
	const bytes = `"\x0a19f-+ ntruels` + "\n\x7f"
	r := rand.New(rand.NewPCG(2, 7))
	taken := 0
	for range 300000 {
		b := make([]byte, 1+r.IntN(7))
		for i := range b {
			b[i] = bytes[r.IntN(len(bytes))]
		}
		if r.IntN(2) == 0 {
			b[0], b[len(b)-1] = '"', '"'
		}
		v, e := value.Parse(string(b))
		if e != api.OK {
			wantNone(t, string(b))
			continue
		}
		taken++
		if s := value.Print(v); s != string(b) || !value.Right(v) {
			t.Fatalf("P2.6: %q is taken as %+v, and that is printed %q", b, v, s)
		}
	}
	if taken < 1000 {
		t.Errorf("only %d were taken", taken)
	}
}
