package lex

import (
	"bytes"
	"fmt"
	"math/big"
	"regexp"
	"slices"
	"strconv"
	"strings"
	"testing"

	"pendulum/api"
)

func word(text string, line, col int) api.Token {
	return api.Token{Kind: api.TokWord, Text: text, Line: line, Col: col}
}

func number(text string, value, line, col int) api.Token {
	return api.Token{Kind: api.TokNumber, Text: text, Value: value, Line: line, Col: col}
}

func lineEnd(line, col int) api.Token {
	return api.Token{Kind: api.TokLine, Line: line, Col: col}
}

func end(line, col int) api.Token {
	return api.Token{Kind: api.TokEnd, Line: line, Col: col}
}

// short is a text's beginning, to be told where a test fails.
func short(text string) string {
	if len(text) > 60 {
		return fmt.Sprintf("%q.. (%d bytes)", text[:60], len(text))
	}
	return strconv.Quote(text)
}

// reads holds that a text has just these tokens.
func reads(t *testing.T, text string, want ...api.Token) {
	t.Helper()
	l, s := Tokens([]byte(text))
	if s != (api.Spot{}) || !slices.Equal(l, want) {
		t.Fatalf("Tokens(%s): %v, %v; want %v", short(text), l, s, want)
	}
}

// refuses holds that a text has no tokens, but an error at a place.
func refuses(t *testing.T, text string, e api.Errno, line, col int) {
	t.Helper()
	l, s := Tokens([]byte(text))
	if want := (api.Spot{E: e, Line: line, Col: col}); s != want || len(l) != 0 {
		t.Fatalf("Tokens(%s): %v, %v; want none, %v", short(text), l, s, want)
	}
}

var piece = regexp.MustCompile(`\A(?:([a-z][a-z0-9_]*)|([0-9]+)|[ \t]+|#(?s:.*))`)

// plain reads a text by patterns, line by line: what Tokens is held against.
func plain(text string) ([]api.Token, api.Spot) {
	var tokens []api.Token
	most := new(big.Int).Lsh(big.NewInt(1), 40)
	lines := strings.Split(text, "\n")
	for i, line := range lines {
		col := 1
		for rest := []byte(line); len(rest) > 0; {
			m := piece.FindSubmatch(rest)
			if m == nil {
				return nil, api.Spot{E: api.ErrText, Line: i + 1, Col: col}
			}
			if len(m[1]) > 0 {
				tokens = append(tokens, word(string(m[1]), i+1, col))
			}
			if len(m[2]) > 0 {
				value, _ := new(big.Int).SetString(string(m[2]), 10)
				if value.Cmp(most) > 0 {
					return nil, api.Spot{E: api.ErrOver, Line: i + 1, Col: col}
				}
				tokens = append(tokens, number(string(m[2]), int(value.Int64()), i+1, col))
			}
			col += len(m[0])
			rest = rest[len(m[0]):]
		}
		if i < len(lines)-1 {
			tokens = append(tokens, lineEnd(i+1, len(line)+1))
		} else {
			tokens = append(tokens, end(i+1, len(line)+1))
		}
	}
	return tokens, api.Spot{}
}

// asPlain holds Tokens against the plain reading.
func asPlain(t *testing.T, text string) ([]api.Token, api.Spot) {
	t.Helper()
	l, s := Tokens([]byte(text))
	wantL, wantS := plain(text)
	if s != wantS || !slices.Equal(l, wantL) {
		t.Fatalf("Tokens(%s): %v, %v; want %v, %v", short(text), l, s, wantL, wantS)
	}
	return l, s
}

// texts calls f with each text of at most so many of these pieces.
func texts(most int, pieces []string, f func(string)) {
	f("")
	last := []string{""}
	for range most {
		var next []string
		for _, s := range last {
			for _, p := range pieces {
				next = append(next, s+p)
				f(s + p)
			}
		}
		last = next
	}
}

func TestTokensOfLines(t *testing.T) { // P4.1
	reads(t, "ab 12", word("ab", 1, 1), number("12", 12, 1, 4), end(1, 6))
	reads(t, "a", word("a", 1, 1), end(1, 2))
	reads(t, "7", number("7", 7, 1, 1), end(1, 2))
	reads(t, "burst 2\ntask pump 10 9 3",
		word("burst", 1, 1), number("2", 2, 1, 7), lineEnd(1, 8),
		word("task", 2, 1), word("pump", 2, 6), number("10", 10, 2, 11), number("9", 9, 2, 14), number("3", 3, 2, 16), end(2, 17))
	reads(t, "a\nb 1 \n c", word("a", 1, 1), lineEnd(1, 2), word("b", 2, 1), number("1", 1, 2, 3), lineEnd(2, 5), word("c", 3, 2), end(3, 3))
	reads(t, "x # y 1\nz", word("x", 1, 1), lineEnd(1, 8), word("z", 2, 1), end(2, 2))
}

func TestTokensOfNothing(t *testing.T) { // P4.1
	reads(t, "", end(1, 1))
	if l, s := Tokens(nil); s != (api.Spot{}) || !slices.Equal(l, []api.Token{end(1, 1)}) {
		t.Errorf("Tokens(nil): %v, %v", l, s)
	}
	reads(t, " ", end(1, 2))
	reads(t, "\t", end(1, 2))
	reads(t, " \t\t ", end(1, 5))
}

func TestLinesEnds(t *testing.T) { // P4.1
	reads(t, "\n", lineEnd(1, 1), end(2, 1))
	reads(t, "\n\n\n", lineEnd(1, 1), lineEnd(2, 1), lineEnd(3, 1), end(4, 1))
	reads(t, "a\n", word("a", 1, 1), lineEnd(1, 2), end(2, 1))
	reads(t, "a\n\nb", word("a", 1, 1), lineEnd(1, 2), lineEnd(2, 1), word("b", 3, 1), end(3, 2))
	reads(t, "\n\na", lineEnd(1, 1), lineEnd(2, 1), word("a", 3, 1), end(3, 2))
	reads(t, "  \n\t\n ", lineEnd(1, 3), lineEnd(2, 2), end(3, 2))
	reads(t, "12\n34\n", number("12", 12, 1, 1), lineEnd(1, 3), number("34", 34, 2, 1), lineEnd(2, 3), end(3, 1))
}

func TestRemarks(t *testing.T) { // P4.1
	reads(t, "#", end(1, 2))
	reads(t, "# all", end(1, 6))
	reads(t, "#\n", lineEnd(1, 2), end(2, 1))
	reads(t, "a#b", word("a", 1, 1), end(1, 4))
	reads(t, "a #b\n", word("a", 1, 1), lineEnd(1, 5), end(2, 1))
	reads(t, "12#3", number("12", 12, 1, 1), end(1, 5))
	reads(t, "1 ##\t#\n#\n2 # x", number("1", 1, 1, 1), lineEnd(1, 7), lineEnd(2, 2), number("2", 2, 3, 1), end(3, 6))
	reads(t, "a # 1099511627777 A _ !\nb", word("a", 1, 1), lineEnd(1, 24), word("b", 2, 1), end(2, 2))
	reads(t, "\t# \xff\x00\r\x80", end(1, 8))
}

func TestBlanks(t *testing.T) { // P4.1
	reads(t, "\ta \t 1\t", word("a", 1, 2), number("1", 1, 1, 6), end(1, 8))
	reads(t, "  a  b  ", word("a", 1, 3), word("b", 1, 6), end(1, 9))
	reads(t, "1\t2 3", number("1", 1, 1, 1), number("2", 2, 1, 3), number("3", 3, 1, 5), end(1, 6))
}

func TestWordsBesideNumbers(t *testing.T) { // P4.1
	reads(t, "12b", number("12", 12, 1, 1), word("b", 1, 3), end(1, 4))
	reads(t, "12b3_4", number("12", 12, 1, 1), word("b3_4", 1, 3), end(1, 7))
	reads(t, "b12", word("b12", 1, 1), end(1, 4))
	reads(t, "a_1", word("a_1", 1, 1), end(1, 4))
	reads(t, "a_ z__9 q_", word("a_", 1, 1), word("z__9", 1, 4), word("q_", 1, 9), end(1, 11))
	reads(t, "0a0", number("0", 0, 1, 1), word("a0", 1, 2), end(1, 4))
	refuses(t, "1_", api.ErrText, 1, 2)
	refuses(t, "12 _a", api.ErrText, 1, 4)
}

func TestNumbers(t *testing.T) { // P4.1
	for text, value := range map[string]int{
		"0": 0, "1": 1, "9": 9, "10": 10, "90": 90, "1234567890": 1234567890, "1048576": 1 << 20,
		"1099511627775": 1<<40 - 1, "1099511627776": 1 << 40,
		"00": 0, "000": 0, "007": 7, "0010": 10, "01099511627776": 1 << 40,
		strings.Repeat("0", 1000): 0, strings.Repeat("0", 1000) + "1099511627776": 1 << 40,
	} {
		reads(t, text, number(text, value, 1, 1), end(1, len(text)+1))
		reads(t, "a\n "+text+"b", word("a", 1, 1), lineEnd(1, 2), number(text, value, 2, 2), word("b", 2, len(text)+2), end(2, len(text)+3))
	}
}

// over are numbers that are too great: just so, by one sign more, and such whose lowest bits alone would be a small number.
func over() []string {
	l := []string{
		"1099511627777", "1099511627780", "1099511627786", "1099511627800", "1199511627776", "2099511627776", "9999999999999", "10995116277760",
		"01099511627777", strings.Repeat("0", 1000) + "1099511627777", strings.Repeat("9", 23), strings.Repeat("9", 1<<16),
	}
	for _, bits := range []uint{41, 62, 63, 64, 65, 128} {
		for _, more := range []int64{-1, 0, 1, 5} {
			n := new(big.Int).Lsh(big.NewInt(1), bits)
			l = append(l, n.Add(n, big.NewInt(more)).String())
		}
	}
	return l
}

func TestNumbersThatAreOver(t *testing.T) { // P4.1
	for _, text := range over() {
		refuses(t, text, api.ErrOver, 1, 1)
		refuses(t, "  "+text+"\n", api.ErrOver, 1, 3)
		refuses(t, "a\n\n 1 "+text+"b", api.ErrOver, 3, 4)
		refuses(t, "1099511627776 "+text+" # 1", api.ErrOver, 1, 15)
	}
}

func TestWhatStandsFirst(t *testing.T) { // P4.1
	refuses(t, "1099511627777!", api.ErrOver, 1, 1)
	refuses(t, "x 1099511627777 !", api.ErrOver, 1, 3)
	refuses(t, "1\n1099511627777\n!", api.ErrOver, 2, 1)
	refuses(t, "!1099511627777", api.ErrText, 1, 1)
	refuses(t, "x ! 1099511627777", api.ErrText, 1, 3)
	refuses(t, "1\n\n ?\n1099511627777", api.ErrText, 3, 2)
	refuses(t, "A B", api.ErrText, 1, 1)
	refuses(t, "a\nb $\n%", api.ErrText, 2, 3)
	refuses(t, "1099511627777 1099511627778", api.ErrOver, 1, 1)
	refuses(t, "# 1099511627777 !\n1099511627777 !", api.ErrOver, 2, 1)
}

// known tells of a byte whether it may stand outside a remark, in some place.
func known(c byte) bool {
	return strings.IndexByte("abcdefghijklmnopqrstuvwxyz0123456789_ \t\n#", c) >= 0
}

func TestEachByteAtEachPlace(t *testing.T) { // P4.1
	for c := range 256 {
		b := string([]byte{byte(c)})
		for _, text := range []string{b, b + "a", b + "1", "a" + b, "1" + b, "a" + b + "a", "1" + b + "1", " " + b, b + " ", "a\n" + b + "\nc", "ab " + b + " 1\n", b + b} {
			asPlain(t, text)
		}
		if !known(byte(c)) {
			refuses(t, b, api.ErrText, 1, 1)
			refuses(t, b+" a\n", api.ErrText, 1, 1)
			refuses(t, "a\n12"+b+"c\n", api.ErrText, 2, 3)
			refuses(t, "a\n\nab 1"+b+"\n", api.ErrText, 3, 5)
			refuses(t, "ab"+b, api.ErrText, 1, 3)
		}
		if c != '\n' {
			reads(t, "a #"+b, word("a", 1, 1), end(1, 5))
			reads(t, "#"+b+"\n1", lineEnd(1, 3), number("1", 1, 2, 1), end(2, 2))
		}
	}
	refuses(t, "_", api.ErrText, 1, 1)
	refuses(t, "a\r\nb\r\n", api.ErrText, 1, 2)
	refuses(t, "a ä", api.ErrText, 1, 3)
	refuses(t, "\ufeffa", api.ErrText, 1, 1)
	refuses(t, "a -1", api.ErrText, 1, 3)
}

func TestEachShortText(t *testing.T) { // P4.1
	texts(6, []string{"a", "0", "_", " ", "#", "\n", "B"}, func(text string) { asPlain(t, text) })
	texts(4, []string{"z9", "1099511627776", "1099511627777", "\t", "#\r", "\n", "\x00"}, func(text string) { asPlain(t, text) })
}

func TestLongTexts(t *testing.T) { // P4.1, P1
	const many = 1 << 20
	long := strings.Repeat("a", many)
	reads(t, long, word(long, 1, 1), end(1, many+1))
	reads(t, strings.Repeat(" ", many)+"1", number("1", 1, 1, many+1), end(1, many+2))
	reads(t, "#"+long+"\n1", lineEnd(1, many+2), number("1", 1, 2, 1), end(2, 2))
	refuses(t, strings.Repeat("9", many), api.ErrOver, 1, 1)
	refuses(t, strings.Repeat("\n", many)+"!", api.ErrText, many+1, 1)
	zeros := strings.Repeat("0", many)
	reads(t, zeros+"5", number(zeros+"5", 5, 1, 1), end(1, many+2))
	l, s := Tokens([]byte(strings.Repeat("a 1\n", many/4)))
	if s != (api.Spot{}) || len(l) != many/4*3+1 || l[len(l)-1] != end(many/4+1, 1) {
		t.Errorf("%d tokens, %v; want %d", len(l), s, many/4*3+1)
	}
}

// atPlaces holds that the tokens' texts stand in the text where they say, rising, and that lines' ends do.
func atPlaces(t *testing.T, text string, tokens []api.Token) {
	t.Helper()
	lines := strings.Split(text, "\n")
	line, col := 1, 1
	for _, x := range tokens {
		if x.Line != line || x.Col < col || x.Line > len(lines) {
			t.Fatalf("%s: %v stands wrong", short(text), x)
		}
		s := lines[x.Line-1]
		switch x.Kind {
		case api.TokWord, api.TokNumber:
			if x.Text == "" || x.Col < 1 || !strings.HasPrefix(s[x.Col-1:], x.Text) {
				t.Fatalf("%s: %v doesn't stand at its place", short(text), x)
			}
			col = x.Col + len(x.Text)
		default:
			if x.Text != "" || x.Col != len(s)+1 {
				t.Fatalf("%s: %v doesn't stand behind its line", short(text), x)
			}
			line, col = line+1, 1
		}
	}
	if line != len(lines)+1 {
		t.Fatalf("%s: tokens of %d lines", short(text), line-1)
	}
}

// together puts tokens together, with blanks ahead of and behind each, and something behind each line.
func together(tokens []api.Token, blanks, behind string) string {
	var s strings.Builder
	for _, x := range tokens {
		s.WriteString(blanks)
		switch x.Kind {
		case api.TokLine:
			s.WriteString(behind + "\n")
		case api.TokEnd:
			s.WriteString(behind)
		default:
			s.WriteString(x.Text + blanks)
		}
	}
	return s.String()
}

// bare are tokens without their places.
func bare(tokens []api.Token) []api.Token {
	l := slices.Clone(tokens)
	for i := range l {
		l[i].Line, l[i].Col = 0, 0
	}
	return l
}

// again holds that a text which is read is read the same when its tokens are put together.
func again(t *testing.T, text string) {
	t.Helper()
	l, s := Tokens([]byte(text))
	if s != (api.Spot{}) {
		if len(l) != 0 {
			t.Fatalf("Tokens(%s): %v beside %v", short(text), l, s)
		}
		return
	}
	atPlaces(t, text, l)
	for _, blanks := range []string{" ", "\t", " \t "} {
		for _, behind := range []string{"", "# a 1 \x00"} {
			joined := together(l, blanks, behind)
			got, s := Tokens([]byte(joined))
			if s != (api.Spot{}) || !slices.Equal(bare(got), bare(l)) {
				t.Fatalf("%s, put together: Tokens(%s): %v, %v; want those of %v", short(text), short(joined), got, s, l)
			}
		}
	}
}

func TestReadAgain(t *testing.T) { // P4.2
	for _, text := range []string{
		"", "\n", "ab 12", "burst 2 # all\n\n\ttask a_1\t12b\n", "12b3 4 c\n5#6", "007x 0\n\n\n1099511627776", "#\n# a\n\tz_9#", "a\r", "1099511627777",
	} {
		again(t, text)
	}
	texts(5, []string{"a", "0", "_", " ", "#", "\n"}, func(text string) { again(t, text) })
	texts(4, []string{"x_", "30", "1099511627776", "\t", "#!", "\n"}, func(text string) { again(t, text) })
}

func TestWhatIsHandedInStays(t *testing.T) { // P4.3
	for _, text := range []string{"burst 2 # all\n\n\ttask a_1\t12b\n", "a 1099511627777", "a\n!", "#", "\n", "ab12"} {
		// Room behind the text, to see that nothing is written there either.
		whole := []byte(text + "tail 77\n")
		b := whole[:len(text)]
		Tokens(b)
		if !bytes.Equal(whole, []byte(text+"tail 77\n")) {
			t.Errorf("Tokens(%q) made it %q", text, whole)
		}
	}
}

func TestWhatStandsBehindIsNotRead(t *testing.T) { // P4.1
	whole := []byte("ab 12cd!")
	l, s := Tokens(whole[:4])
	if want := []api.Token{word("ab", 1, 1), number("1", 1, 1, 4), end(1, 5)}; s != (api.Spot{}) || !slices.Equal(l, want) {
		t.Errorf("%v, %v; want %v", l, s, want)
	}
}

func TestNewMemory(t *testing.T) { // P4.3
	b := []byte("task pump_1 120 # all\n  fan 3")
	want, _ := plain(string(b))
	first, _ := Tokens(b)
	second, _ := Tokens(b)
	for i := range b {
		b[i] = 'x'
	}
	if !slices.Equal(first, want) {
		t.Errorf("the text was changed, and the tokens with it: %v", first)
	}
	clear(first[:cap(first)])
	if !slices.Equal(second, want) {
		t.Errorf("an answer was changed, and another with it: %v", second)
	}
	if third, _ := Tokens([]byte("task pump_1 120 # all\n  fan 3")); !slices.Equal(third, want) {
		t.Errorf("an answer was changed, and a later one with it: %v", third)
	}
}

func TestNothingIsKept(t *testing.T) { // P4.1, P4.3
	refuses(t, "a\nb 1099511627777", api.ErrOver, 2, 3)
	reads(t, "c", word("c", 1, 1), end(1, 2))
	reads(t, "c\n", word("c", 1, 1), lineEnd(1, 2), end(2, 1))
	refuses(t, "!", api.ErrText, 1, 1)
	reads(t, "", end(1, 1))
}
