package words

import (
	"regexp"
	"slices"
	"strings"
	"testing"
	"unsafe"

	"waymark/api"
)

// chance makes numbers, the same ones each time.
type chance uint32

func (c *chance) next(most int) int {
	*c = *c*1664525 + 1013904223
	return int(*c>>9) % most
}

func word(at int, s string) api.Token { return api.Token{Kind: api.TWord, At: at, Text: s} }
func num(at int, s string) api.Token  { return api.Token{Kind: api.TNum, At: at, Text: s} }
func semi(at int) api.Token           { return api.Token{Kind: api.TSign, At: at, Text: ";"} }

func splits(t *testing.T, s string, want ...api.Token) {
	t.Helper()
	if got, at, e := Split(s); e != api.OK || at != -1 || !slices.Equal(got, want) {
		t.Errorf("Split(%.60q): %.200v, %d, %v, not %.200v", s, got, at, e, want)
	}
}

func refused(t *testing.T, s string, where int, why api.Errno) {
	t.Helper()
	if got, at, e := Split(s); e != why || at != where || len(got) != 0 {
		t.Errorf("Split(%.60q): %.200v, %d, %v, not %d, %v", s, got, at, e, where, why)
	}
}

const (
	small  = "abcdefghijklmnopqrstuvwxyz"
	digits = "0123456789"
)

// stays tells the bytes that go on what a byte begins.
func stays(kind int) string {
	switch kind {
	case api.TWord:
		return small + digits + "-"
	case api.TNum:
		return digits + "./"
	}
	return ""
}

// begins tells the bytes that begin a token of a kind.
func begins(kind int) string {
	switch kind {
	case api.TWord:
		return small
	case api.TNum:
		return digits
	}
	return ";"
}

func kinds() []int { return []int{api.TWord, api.TNum, api.TSign} }

func TestP1201Nothing(t *testing.T) {
	for _, s := range []string{"", " ", "\n", "  \n \n\n ", "#", "##", "#\n", "#\n#\n", " # a 1 ; \n \n#b", "# A_!\t\r\x00\x80\xff é", "#\n\n#", strings.Repeat(" ", 10000), strings.Repeat("\n", 10000), "#" + strings.Repeat("#", 9999), "#" + strings.Repeat("a", 9999)} {
		splits(t, s)
	}
}

func TestP1201Tokens(t *testing.T) {
	splits(t, "a", word(0, "a"))
	splits(t, "z", word(0, "z"))
	splits(t, "a-", word(0, "a-"))
	splits(t, "a--9-", word(0, "a--9-"))
	splits(t, "avoid-nodes", word(0, "avoid-nodes"))
	splits(t, small+digits+"-", word(0, small+digits+"-"))
	splits(t, "0", num(0, "0"))
	splits(t, "007", num(0, "007"))
	splits(t, "5..//", num(0, "5..//"))
	splits(t, "10.0.0.0/8", num(0, "10.0.0.0/8"))
	splits(t, digits+"./", num(0, digits+"./"))
	splits(t, "99999999999999999999", num(0, "99999999999999999999"))
	splits(t, ";", semi(0))
	splits(t, ";;;", semi(0), semi(1), semi(2))
}

// A token ends where a byte does not go it on, with or without what tells
// nothing between.
func TestP1201SideBySide(t *testing.T) {
	splits(t, "rule b-1 7 from 0 to 3;", word(0, "rule"), word(5, "b-1"), num(9, "7"), word(11, "from"), num(16, "0"), word(18, "to"), num(21, "3"), semi(22))
	splits(t, "7b", num(0, "7"), word(1, "b"))
	splits(t, "7b7", num(0, "7"), word(1, "b7"))
	splits(t, "b7", word(0, "b7"))
	splits(t, "1.b-", num(0, "1."), word(2, "b-"))
	splits(t, "a;1;a", word(0, "a"), semi(1), num(2, "1"), semi(3), word(4, "a"))
	splits(t, "a 7", word(0, "a"), num(2, "7"))
	splits(t, "1 2", num(0, "1"), num(2, "2"))
	splits(t, "\n a\nb \n", word(2, "a"), word(4, "b"))
	splits(t, "a#", word(0, "a"))
	splits(t, "a#b", word(0, "a"))
	splits(t, "a#b\nc", word(0, "a"), word(4, "c"))
	splits(t, "1#\n2", num(0, "1"), num(3, "2"))
	splits(t, ";#;\n;", semi(0), semi(4))
	splits(t, "#a##b\nc#d\n#\n1", word(6, "c"), num(12, "1"))
	splits(t, "a#\xff\x00\r\t\n7", word(0, "a"), num(7, "7"))
}

// Each byte begins what it begins, and nothing else.
func TestP1201EveryByteFirst(t *testing.T) {
	for c := range 256 {
		s := string([]byte{byte(c)})
		switch {
		case strings.Contains(" \n#", s):
			splits(t, s)
		case strings.Contains(small, s):
			splits(t, s, word(0, s))
		case strings.Contains(digits, s):
			splits(t, s, num(0, s))
		case s == ";":
			splits(t, s, semi(0))
		default:
			refused(t, s, 0, api.ErrSyntax)
			refused(t, " "+s, 1, api.ErrSyntax)
			refused(t, "\n"+s+"a", 1, api.ErrSyntax)
			refused(t, "#a\n"+s, 3, api.ErrSyntax)
		}
	}
}

// Each byte behind a token of each kind goes it on, or ends it.
func TestP1201EveryByteBehind(t *testing.T) {
	for _, kind := range kinds() {
		for _, first := range begins(kind) {
			for c := range 256 {
				one, s := string(first), string([]byte{byte(c)})
				token := api.Token{Kind: kind, Text: one}
				switch {
				case strings.Contains(stays(kind), s):
					splits(t, one+s, api.Token{Kind: kind, Text: one + s})
				case strings.Contains(" \n#", s):
					splits(t, one+s, token)
				case strings.Contains(small, s):
					splits(t, one+s, token, word(1, s))
				case strings.Contains(digits, s):
					splits(t, one+s, token, num(1, s))
				case s == ";":
					splits(t, one+s, token, semi(1))
				default:
					refused(t, one+s, 1, api.ErrSyntax)
				}
			}
		}
	}
}

// No byte but 10 ends a comment.
func TestP1201EveryByteInAComment(t *testing.T) {
	for c := range 256 {
		s := string([]byte{byte(c)})
		if s == "\n" {
			splits(t, "a#\nb\nc", word(0, "a"), word(3, "b"), word(5, "c"))
			continue
		}
		splits(t, "#"+s)
		splits(t, "a#"+s+"b\nc", word(0, "a"), word(5, "c"))
	}
}

func TestP1201Refuses(t *testing.T) {
	for s, where := range map[string]int{
		"-":                              0,
		"-a":                             0,
		".5":                             0,
		"/8":                             0,
		"A":                              0,
		"a -1":                           2,
		"a .":                            2,
		"aB":                             1,
		"a_b":                            1,
		"a.b":                            1,
		"a/b":                            1,
		"1-2":                            1,
		"1a2.b":                          3,
		"7-":                             1,
		"rule x 1;\n;-":                  11,
		";.":                             1,
		"a\tb":                           1,
		"a\r\nb":                         1,
		"a\x00":                          1,
		"a\u00a0b":                       1,
		"\u00e9":                         0,
		"ab\u0661":                       2,
		"\xff":                           0,
		"\ufeffa":                        0,
		"# \u00e9\n\u00e9":               5,
		"a \"b\"":                        2,
		"a ! b ?":                        2,
		"a # !\n?":                       6,
		strings.Repeat("a", 9999) + "A":  9999,
		strings.Repeat("1", 9999) + "-":  9999,
		strings.Repeat(";", 9999) + ",":  9999,
		strings.Repeat(" ", 9999) + "\t": 9999,
	} {
		refused(t, s, where, api.ErrSyntax)
	}
}

// The place of a fault has nothing to do with what stands behind it.
func TestP1201FirstFault(t *testing.T) {
	for _, behind := range []string{"", "a", " !", "#\n!", "!!!!", "\x00", "\nrule;"} {
		refused(t, "ab 12;"+"!"+behind, 6, api.ErrSyntax)
		refused(t, "!"+behind, 0, api.ErrSyntax)
	}
}

func TestP1201Long(t *testing.T) {
	for _, part := range []string{"a", "1", ";", " ", "\n", "#", "!", "a ", "a1", "\xff"} {
		for _, n := range []int{10001, 10002, 20000, 65536, 1 << 20} {
			refused(t, strings.Repeat(part, n)[:n], 0, api.ErrLong)
		}
	}
	// ErrLong is named ahead of ErrSyntax: it is told wherever a fault stands.
	refused(t, "!"+strings.Repeat("a", 10000), 0, api.ErrLong)
	refused(t, strings.Repeat("a", 10000)+"!", 0, api.ErrLong)

	splits(t, strings.Repeat("a", 10000), word(0, strings.Repeat("a", 10000)))
	splits(t, strings.Repeat("1", 10000), num(0, strings.Repeat("1", 10000)))
	splits(t, strings.Repeat(" ", 9999)+"a", word(9999, "a"))
	splits(t, "#"+strings.Repeat("\xff", 9997)+"\na", word(9999, "a"))
	refused(t, strings.Repeat("!", 10000), 0, api.ErrSyntax)
	var all []api.Token
	for i := range 10000 {
		all = append(all, semi(i))
	}
	splits(t, strings.Repeat(";", 10000), all...)
}

// form is that of what a text is made of, told another way.
var form = regexp.MustCompile(`^(?:([ \n]|#[^\n]*)|([a-z][a-z0-9-]*)|([0-9][0-9./]*)|(;))`)

// other splits a text of bytes below 128 by that form.
func other(s string) ([]api.Token, int, api.Errno) {
	var out []api.Token
	for at := 0; at < len(s); {
		m := form.FindStringSubmatch(s[at:])
		switch {
		case m == nil:
			return nil, at, api.ErrSyntax
		case m[2] != "":
			out = append(out, word(at, m[2]))
		case m[3] != "":
			out = append(out, num(at, m[3]))
		case m[4] != "":
			out = append(out, semi(at))
		}
		at += len(m[0])
	}
	return out, -1, api.OK
}

// made is a text of parts, most of them right ones.
func (c *chance) made(wrong bool) string {
	parts := []string{"a", "z", "q", "b-1", "rule", "0", "9", "10.0", ".", "/", "-", "#", "# x", "\n", "\n", " ", " ", " ", ";", ";"}
	if !wrong {
		parts = slices.DeleteFunc(parts, func(s string) bool { return s == "." || s == "/" || s == "-" })
	}
	var out strings.Builder
	for range c.next(30) {
		out.WriteString(parts[c.next(len(parts))])
	}
	if wrong && c.next(4) == 0 {
		out.WriteByte(byte(c.next(128)))
		out.WriteString("a 1")
	}
	return out.String()
}

func TestP1201AnyText(t *testing.T) {
	c := chance(1201)
	right := 0
	for i := range 20000 {
		s := c.made(i%2 == 0)
		want, where, e := other(s)
		if e == api.OK {
			right++
			splits(t, s, want...)
		} else {
			refused(t, s, where, e)
		}
	}
	if right < 10000 || right == 20000 {
		t.Errorf("%d of 20,000 were right", right)
	}
}

// What stands between tokens tells nothing: with other blanks and comments
// the tokens are the same, but for where they begin.
func TestP1201WhatTellsNothing(t *testing.T) {
	c := chance(12010)
	gaps := []string{" ", "\n", "  ", " \n ", "#\n", "# ; a 1 !\n", "#\xff\n#\n "}
	for range 2000 {
		l, _, _ := Split(c.made(false))
		var out strings.Builder
		var want []api.Token
		for _, x := range l {
			out.WriteString(gaps[c.next(len(gaps))])
			x.At = out.Len()
			out.WriteString(x.Text)
			want = append(want, x)
		}
		splits(t, out.String()+[]string{"", " ", "\n", "#a"}[c.next(4)], want...)
	}
}

// Is tells just those texts of which Split tells one word, from the first byte
// to the last.
func TestP1201Is(t *testing.T) {
	texts := []string{"", "a", "a;", "ab", "a b", "a\n", "a#", " a", "-", "a-", "-a", "A", "aB", "é", "aé", "a\x00", "1a", "a1", "a.", strings.Repeat("a", 10000), strings.Repeat("a", 9999) + ";"}
	for b := range 256 {
		for _, s := range []string{"", "z", "z-0"} {
			texts = append(texts, s+string([]byte{byte(b)}), s+string([]byte{byte(b)})+"9")
		}
	}
	c := chance(12011)
	for i := range 5000 {
		texts = append(texts, c.made(i%2 == 0))
	}
	for _, s := range texts {
		l, _, _ := Split(s)
		want := len(l) == 1 && l[0] == word(0, s)
		if got := Is(s); got != want {
			t.Errorf("Is(%.60q): %v", s, got)
		}
	}
	// How long a text may be is asked of Split alone.
	if long := strings.Repeat("a", 20000); !Is(long) || Is(long+".") {
		t.Error("Is of a text longer than Split reads")
	}
}

// What is answered is new memory: no list is shared with another answer, and
// no text with what was handed in.
func TestP1202NewMemory(t *testing.T) {
	s := "rule b-1 70 from 0 to 3; # all\nrule c 1;"
	first, _, _ := Split(s)
	want := slices.Clone(first)
	second, _, _ := Split(s)
	clear(second[:cap(second)])
	if !slices.Equal(first, want) {
		t.Errorf("the first answer became %v, not %v", first, want)
	}
	begin := uintptr(unsafe.Pointer(unsafe.StringData(s)))
	for _, x := range first {
		p := uintptr(unsafe.Pointer(unsafe.StringData(x.Text)))
		if begin <= p && p < begin+uintptr(len(s)) {
			t.Errorf("the text of %v is a piece of what was handed in", x)
		}
	}
}

// The tokens stay as they are when the bytes that the text was made of are
// turned.
func TestP1202HandedIn(t *testing.T) {
	for _, text := range []string{"rule b-1 70;", "a ! b", "#", "a;1", strings.Repeat("ab ", 4000)} {
		b := []byte(text)
		s := unsafe.String(unsafe.SliceData(b), len(b))
		got, _, _ := Split(s)
		if s != text {
			t.Errorf("Split turned %.60q", text)
		}
		clear(b)
		want, _, _ := Split(text)
		if !slices.Equal(got, want) {
			t.Errorf("the answer of %.60q became %.200v", text, got)
		}
	}
}

// The same text gets the same answer, whatever was asked between.
func TestP1202SameAgain(t *testing.T) {
	for _, between := range []string{"", "a", "rule x", "#", "!", "a 1 !", strings.Repeat("a ", 5000), strings.Repeat("a", 10001)} {
		Split(between)
		splits(t, "b 2;#", word(0, "b"), num(2, "2"), semi(3))
		Split(between)
		refused(t, "b 2;?", 4, api.ErrSyntax)
	}
}
