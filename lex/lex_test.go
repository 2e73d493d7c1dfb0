package lex_test

import (
	"math/rand"
	"slices"
	"strings"
	"testing"

	"ravelin/api"
	"ravelin/lex"
)

// brief writes tokens as kind:text, with a blank between.
func brief(l []api.Token) string {
	var b []string
	for _, k := range l {
		b = append(b, string(rune('0'+k.Kind))+":"+k.Text)
	}
	return strings.Join(b, " ")
}

func token(kind int, text string, from, to int, n int64) api.Token {
	return api.Token{Kind: kind, Text: text, From: from, To: to, N: n}
}

// P5.1
func TestScan(t *testing.T) {
	for s, want := range map[string]string{
		"":                     "0:",
		" \t\r\n ":             "0:",
		"-- all of it":         "0:",
		"a--b\nc":              "1:a 1:c 0:",
		"a---b\n-- \nc":        "1:a 1:c 0:",
		"a - - b":              "1:a 5:- 5:- 1:b 0:",
		"x..1":                 "1:x 5:.. 3:1 0:",
		"1..2":                 "3:1 5:.. 3:2 0:",
		"a...b":                "1:a 5:.. 5:. 1:b 0:",
		"a->b":                 "1:a 5:-> 1:b 0:",
		"a===b":                "1:a 5:== 5:= 1:b 0:",
		"<==>=~=//%":           "5:<= 5:= 5:>= 5:~= 5:// 5:% 0:",
		"(){}[],:;.#|@*+<>=":   "5:( 5:) 5:{ 5:} 5:[ 5:] 5:, 5:: 5:; 5:. 5:# 5:| 5:@ 5:* 5:+ 5:< 5:>= 0:",
		"_a1 A_ and andy And":  "1:_a1 1:A_ 2:and 1:andy 1:And 0:",
		`"" "a b"`:             "4: 4:a b 0:",
		`"\n\\\"\x41\xfF" x`:   "4:\n\\\"A\xff 1:x 0:",
		`"--"`:                 "4:-- 0:",
		"0x1F 007":             "3:0x1F 3:007 0:",
		"read write any table": "1:read 1:write 1:any 1:table 0:",
	} {
		l, at, e := lex.Scan(s)
		if brief(l) != want || at != 0 || e != api.OK {
			t.Errorf("%q: %q %d %d", s, brief(l), at, e)
		}
	}
	words := "and break channel do else elseif end false function if local nil not or return then true while"
	l, _, _ := lex.Scan(words)
	for _, k := range l[:len(l)-1] {
		if k.Kind != api.TokWord {
			t.Error(k)
		}
	}
	if len(l) != 19 {
		t.Error(len(l))
	}
}

// P5.1
func TestFields(t *testing.T) {
	l, _, _ := lex.Scan(` a "\x00" 0xff==`)
	want := []api.Token{token(1, "a", 1, 2, 0), token(4, "\x00", 3, 9, 0), token(3, "0xff", 10, 14, 255), token(5, "==", 14, 16, 0), token(0, "", 16, 16, 0)}
	if !slices.Equal(l, want) {
		t.Error(l)
	}
	l, _, _ = lex.Scan("9223372036854775807 0xffffffffffffffff")
	if l[0].N != 1<<63-1 || l[1].N != -1 {
		t.Error(l)
	}
}

// P5.1
func TestWrong(t *testing.T) {
	for _, x := range []struct {
		s  string
		at int
		e  api.Errno
	}{
		{"a ! b", 2, api.ErrToken}, {"a / b", 2, api.ErrToken}, {"~", 0, api.ErrToken}, {"\x00", 0, api.ErrToken}, {"é", 0, api.ErrToken}, {"'a'", 0, api.ErrToken}, {"a\x0bb", 1, api.ErrToken}, {"a ^", 2, api.ErrToken},
		{"1a", 0, api.ErrNumber}, {"x 1_0", 2, api.ErrNumber}, {"0x", 0, api.ErrNumber}, {"9223372036854775808", 0, api.ErrNumber}, {"0x11112222333344445", 0, api.ErrNumber}, {"0X1", 0, api.ErrNumber},
		{`x "a`, 2, api.ErrQuote}, {"\"a\n\"", 0, api.ErrQuote}, {`"`, 0, api.ErrQuote}, {`"\`, 0, api.ErrQuote}, {`"\t"`, 0, api.ErrQuote}, {`"\x4"`, 0, api.ErrQuote}, {`"\x4g"`, 0, api.ErrQuote}, {`"\x`, 0, api.ErrQuote}, {`"\X41"`, 0, api.ErrQuote},
		{"\"a\tb\"", 0, api.ErrQuote}, {"\"\x7f\"", 0, api.ErrQuote}, {"\"\x80\"", 0, api.ErrQuote}, {`"\"`, 0, api.ErrQuote}, {"\"\\\n\"", 0, api.ErrQuote},
		{"1a ! \"", 0, api.ErrNumber}, {strings.Repeat(" ", api.MaxSource+1), 0, api.ErrLong}, {strings.Repeat("!", api.MaxSource+1), 0, api.ErrLong},
	} {
		if l, at, e := lex.Scan(x.s); len(l) != 0 || at != x.at || e != x.e {
			t.Errorf("%.20q: %v %d %d", x.s, l, at, e)
		}
	}
	if _, _, e := lex.Scan(strings.Repeat(" ", api.MaxSource)); e != api.OK {
		t.Error(e)
	}
}

// P5.2
func TestName(t *testing.T) {
	for s, want := range map[string]bool{"a": true, "_": true, "a1_": true, "And": true, "any": true, "": false, "1a": false, "and": false, "while": false, "a b": false, " a": false, "é": false, "a.": false, "nil": false, "a\n": false} {
		if lex.Name(s) != want {
			t.Errorf("%q", s)
		}
	}
}

// P5.3
func TestQuote(t *testing.T) {
	for s, want := range map[string]string{"": `""`, "a b": `"a b"`, "\n\"\\": `"\n\"\\"`, "\x00\x1f\x7f\xff~ ": `"\x00\x1f\x7f\xff~ "`, "\t\r": `"\x09\x0d"`} {
		if lex.Quote(s) != want {
			t.Errorf("%q: %s", s, lex.Quote(s))
		}
	}
}

// P5.4
func TestLine(t *testing.T) {
	s := "ab\n\ncd"
	for at, want := range map[int][2]int{-5: {1, 1}, 0: {1, 1}, 1: {1, 2}, 2: {1, 3}, 3: {2, 1}, 4: {3, 1}, 5: {3, 2}, 6: {3, 3}, 7: {3, 3}, 1 << 60: {3, 3}} {
		if l, c := lex.Line(s, at); l != want[0] || c != want[1] {
			t.Error(at, l, c)
		}
	}
	if l, c := lex.Line("", 0); l != 1 || c != 1 {
		t.Error(l, c)
	}
}

// P5.5
func TestBack(t *testing.T) {
	r := rand.New(rand.NewSource(5))
	for range 300 {
		b := make([]byte, r.Intn(30))
		for n := range b {
			b[n] = byte(r.Intn(256) >> r.Intn(3))
		}
		l, _, e := lex.Scan(lex.Quote(string(b)))
		if e != api.OK || len(l) != 2 || l[0].Kind != api.TokStr || l[0].Text != string(b) {
			t.Errorf("%q %v", b, l)
		}
	}
}

// P1: any bytes end without a panic, with a place within the text.
func TestAnyBytes(t *testing.T) {
	r := rand.New(rand.NewSource(6))
	const often = "\"\\xn-0~=a_. \n"
	for range 3000 {
		b := make([]byte, r.Intn(20))
		for n := range b {
			b[n] = often[r.Intn(len(often))]
		}
		if _, at, e := lex.Scan(string(b)); at < 0 || at > len(b) || e == api.OK && at != 0 {
			t.Errorf("%q %d", b, at)
		}
	}
}
