package lex

import (
	"fmt"
	"math"
	"math/big"
	"math/rand"
	"regexp"
	"slices"
	"strings"
	"testing"

	"modelcheck/api"
)

// same fails if the result of a call is not the one that is wanted.
func same(t *testing.T, call string, got, want any) {
	t.Helper()
	if g, w := fmt.Sprintf("%#v", got), fmt.Sprintf("%#v", want); g != w {
		t.Errorf("%s: %.300s, want %.300s", call, g, w)
	}
}

// aWord, aNumber, aSymbol and aLine return tokens of the four kinds.
func aWord(text string, at int) api.Token {
	return api.Token{Kind: api.TokWord, Text: text, At: at}
}

func aNumber(text string, n, at int) api.Token {
	return api.Token{Kind: api.TokNumber, Text: text, N: n, At: at}
}

func aSymbol(text string, at int) api.Token {
	return api.Token{Kind: api.TokSymbol, Text: text, At: at}
}

func aLine(at int) api.Token {
	return api.Token{Kind: api.TokLine, Text: "\n", At: at}
}

// scans fails if the tokens of a text are not the ones that are wanted.
func scans(t *testing.T, s string, want ...api.Token) {
	t.Helper()
	if l, fault := Scan(s); !slices.Equal(l, want) || fault != (api.Fault{}) {
		t.Errorf("Scan(%.60q): %.200s %+v, want %.200s", s, fmt.Sprintf("%#v", l), fault, fmt.Sprintf("%#v", want))
	}
}

// fails fails if Scan does not return the fault that is wanted, or returns tokens with it.
func fails(t *testing.T, s string, err api.Errno, at int) {
	t.Helper()
	if l, fault := Scan(s); len(l) > 0 || fault != (api.Fault{Err: err, At: at}) {
		t.Errorf("Scan(%.60q): %d tokens, fault %+v, want the fault %d at %d", s, len(l), fault, err, at)
	}
}

// joins fails if Join does not return what is wanted.
func joins(t *testing.T, want string, err api.Errno, l ...api.Token) {
	t.Helper()
	if s, e := Join(l); s != want || e != err {
		t.Errorf("Join(%.200s): %.200q, error %d, want %.200q, error %d", fmt.Sprintf("%#v", l), s, e, want, err)
	}
}

// without returns tokens without their offsets.
func without(l []api.Token) []api.Token {
	m := slices.Clone(l)
	for k := range m {
		m[k].At = 0
	}
	return m
}

// moved returns tokens with their offsets increased.
func moved(l []api.Token, by int) []api.Token {
	m := slices.Clone(l)
	for k := range m {
		m[k].At += by
	}
	return m
}

const (
	letters   = "abcdefghijklmnopqrstuvwxyzABCDEFGHIJKLMNOPQRSTUVWXYZ"
	digits    = "0123456789"
	someSigns = "(){},;=:"
)

// valueOf returns the value with a decimal notation, by the definitions of chapter 1, or the error.
func valueOf(text string) (int, api.Errno) {
	n, ok := new(big.Int).SetString(text, 10)
	switch {
	case !ok || n.String() != text:
		return 0, api.ErrNumber
	case !n.IsInt64() || n.Int64() < -1<<31 || n.Int64() > 1<<31-1:
		return 0, api.ErrRange
	}
	return int(n.Int64()), api.OK
}

// parts matches a token or a separation at the beginning of a text, with a group for each kind of token.
var parts = regexp.MustCompile(`^(?:([A-Za-z][A-Za-z0-9_]*)|([-0-9][A-Za-z0-9_]*)|([(){},;=:])|(\n)|[ \t]|#[^\n]*)`)

// reference is Scan by its definition, written with regular expressions.
func reference(s string) ([]api.Token, api.Fault) {
	if len(s) > 16384 {
		return nil, api.Fault{Err: api.ErrLimit}
	}
	var l []api.Token
	for at := 0; at < len(s); {
		found := parts.FindStringSubmatch(s[at:])
		if found == nil {
			return nil, api.Fault{Err: api.ErrToken, At: at}
		}
		for kind := 1; kind <= 4; kind++ {
			if found[kind] == "" {
				continue
			}
			x := api.Token{Kind: api.TokenKind(kind), Text: found[kind], At: at}
			if kind == 2 {
				n, err := valueOf(x.Text)
				if err != api.OK {
					return nil, api.Fault{Err: err, At: at}
				}
				x.N = n
			}
			l = append(l, x)
		}
		at += len(found[0])
	}
	return l, api.Fault{}
}

// texts visits all texts of at most most of the given parts.
func texts(most int, parts []string, visit func(s string)) {
	visit("")
	if most == 0 {
		return
	}
	for _, p := range parts {
		texts(most-1, parts, func(s string) { visit(p + s) })
	}
}

// TestExample checks the example of the chapter.
func TestExample(t *testing.T) {
	scans(t, "x1 =-3;# c", aWord("x1", 0), aSymbol("=", 3), aNumber("-3", -3, 4), aSymbol(";", 6))
	fails(t, "a 01", api.ErrNumber, 2)
	fails(t, "_", api.ErrToken, 0)
}

// TestScanWords checks P9.1: words.
func TestScanWords(t *testing.T) {
	for _, s := range []string{
		"a", "z", "A", "Z", "ab", "aB", "Ba", "a0", "a9", "a_", "a__", "x1y2", "r0", "a_b_c", "Z_9", "const", "a00", "aa0b1_c",
		"abcdefghijklmnop", "abcdefghijklmnopq", letters + digits + "_", strings.Repeat("a_0", 2500),
	} {
		scans(t, s, aWord(s, 0))
		scans(t, " "+s+"\t", aWord(s, 1))
		scans(t, s+" "+s, aWord(s, 0), aWord(s, len(s)+1))
		scans(t, s+"-1", aWord(s, 0), aNumber("-1", -1, len(s)))
		scans(t, s+"="+s, aWord(s, 0), aSymbol("=", len(s)), aWord(s, len(s)+1))
		scans(t, s+"#"+s, aWord(s, 0))
		scans(t, s+"\n", aWord(s, 0), aLine(len(s)))
	}
}

// TestScanNumbers checks P9.1: numbers, and texts that begin like numbers.
func TestScanNumbers(t *testing.T) {
	for s, n := range map[string]int{
		"0": 0, "1": 1, "9": 9, "10": 10, "-1": -1, "-9": -9, "-10": -10, "100": 100, "1234567890": 1234567890, "-987654321": -987654321,
		"2147483647": 2147483647, "-2147483648": -2147483648, "2147483646": 2147483646, "-2147483647": -2147483647,
	} {
		scans(t, s, aNumber(s, n, 0))
		scans(t, " \t"+s+" ", aNumber(s, n, 2))
		scans(t, s+" "+s, aNumber(s, n, 0), aNumber(s, n, len(s)+1))
		scans(t, s+"-1", aNumber(s, n, 0), aNumber("-1", -1, len(s)))
		scans(t, ":"+s+":", aSymbol(":", 0), aNumber(s, n, 1), aSymbol(":", len(s)+1))
		scans(t, s+"#0", aNumber(s, n, 0))
		scans(t, s+"\n"+s, aNumber(s, n, 0), aLine(len(s)), aNumber(s, n, len(s)+1))
	}
	for s, err := range map[string]api.Errno{
		"-": api.ErrNumber, "-0": api.ErrNumber, "00": api.ErrNumber, "01": api.ErrNumber, "007": api.ErrNumber, "-01": api.ErrNumber,
		"-00": api.ErrNumber, "1a": api.ErrNumber, "1_": api.ErrNumber, "1_0": api.ErrNumber, "0x1": api.ErrNumber, "1e3": api.ErrNumber,
		"1A": api.ErrNumber, "1Z9": api.ErrNumber, "-a": api.ErrNumber, "-_": api.ErrNumber, "-1a": api.ErrNumber, "-Z": api.ErrNumber,
		"0_": api.ErrNumber, "0a": api.ErrNumber, "2147483648a": api.ErrNumber, "2147483648_": api.ErrNumber, "02147483648": api.ErrNumber,
		"2147483648": api.ErrRange, "-2147483649": api.ErrRange, "4294967296": api.ErrRange, "-4294967297": api.ErrRange,
		"9223372036854775807": api.ErrRange, "9223372036854775808": api.ErrRange, "-9223372036854775809": api.ErrRange,
		"18446744073709551616": api.ErrRange, "18446744073709551617": api.ErrRange, "1" + strings.Repeat("0", 16000): api.ErrRange,
		"-" + strings.Repeat("9", 16000): api.ErrRange, "1" + strings.Repeat("0", 16000) + "_": api.ErrNumber,
	} {
		for _, after := range []string{"", " ", "\t1", "\n", "#", "-", "=", ";_", "+", "\x00"} {
			fails(t, s+after, err, 0)
			fails(t, "a "+s+after, err, 2)
			fails(t, "\n#\n1\t"+s+after, err, 5)
		}
	}
	// The second minus sign is no word character, so the first one is alone.
	fails(t, "--1", api.ErrNumber, 0)
	fails(t, "1--1", api.ErrNumber, 1)
	fails(t, "- 1", api.ErrNumber, 0)
	scans(t, "1-2-3", aNumber("1", 1, 0), aNumber("-2", -2, 1), aNumber("-3", -3, 3))
	scans(t, "a-1", aWord("a", 0), aNumber("-1", -1, 1))
}

// TestScanSymbols checks P9.1: symbols and line feeds.
func TestScanSymbols(t *testing.T) {
	var all []api.Token
	for k, c := range someSigns {
		s := string(c)
		scans(t, s, aSymbol(s, 0))
		scans(t, s+s, aSymbol(s, 0), aSymbol(s, 1))
		scans(t, "a"+s+"1", aWord("a", 0), aSymbol(s, 1), aNumber("1", 1, 2))
		scans(t, " "+s+"a", aSymbol(s, 1), aWord("a", 2))
		all = append(all, aSymbol(s, k))
	}
	scans(t, someSigns, all...)
	scans(t, "\n", aLine(0))
	scans(t, "\n\n\n", aLine(0), aLine(1), aLine(2))
	scans(t, " \n\t\n# c\n", aLine(1), aLine(3), aLine(7))
	scans(t, "a\nb\n", aWord("a", 0), aLine(1), aWord("b", 2), aLine(3))
}

// TestScanSeparation checks P9.1: blanks, tabs and comments, which are no part of a token.
func TestScanSeparation(t *testing.T) {
	for _, s := range []string{
		"", " ", "\t", "  ", "\t\t \t ", "#", "##", "# c", "#\t_", "#\x00\r\xff", "  # a comment ", "#é 日本", "# ( 01 -", strings.Repeat(" \t", 8192),
		"#" + strings.Repeat("#", 16383),
	} {
		scans(t, s)
	}
	for _, s := range []string{"", " ", "\t", "#", "# c", " \t#_ #\r", "#a1=-3;", "#\xff\x00"} {
		scans(t, s+"\n", aLine(len(s)))
		scans(t, "a"+s+"\n"+s+"\nb"+s, aWord("a", 0), aLine(1+len(s)), aLine(2+2*len(s)), aWord("b", 3+2*len(s)))
		scans(t, s+"\n1", aLine(len(s)), aNumber("1", 1, len(s)+1))
		scans(t, ";"+s, aSymbol(";", 0))
	}
	scans(t, "a b\tc  d", aWord("a", 0), aWord("b", 2), aWord("c", 4), aWord("d", 7))
	scans(t, "ab#cd\nef#", aWord("ab", 0), aLine(5), aWord("ef", 6))
	// Only a comment hides the byte that follows it.
	fails(t, "a#\n_", api.ErrToken, 3)
	fails(t, "#\r\n\r", api.ErrToken, 3)
}

// TestScanBytes checks P9.1: each byte alone, at the beginning, inside and at the end of a text.
func TestScanBytes(t *testing.T) {
	const tokens, separations, wordCharacters = letters + digits + someSigns + "\n", " \t#", letters + digits + "_"
	for c := range 256 {
		s := string([]byte{byte(c)})
		switch {
		case c == '-':
			fails(t, s, api.ErrNumber, 0)
		case strings.Contains(separations, s):
			scans(t, s)
		case !strings.Contains(tokens, s):
			fails(t, s, api.ErrToken, 0)
			fails(t, s+"a", api.ErrToken, 0)
			fails(t, "; "+s, api.ErrToken, 2)
			fails(t, "\n"+s+"\n", api.ErrToken, 1)
			scans(t, "#"+s)
			if !strings.Contains(wordCharacters, s) {
				fails(t, "a"+s, api.ErrToken, 1)
				fails(t, "-12"+s+"3", api.ErrToken, 3)
			}
		default:
			l, fault := Scan(s)
			same(t, fmt.Sprintf("Scan(%q)", s), []any{len(l), fault}, []any{1, api.Fault{}})
		}
		for _, text := range []string{s, s + "a", "a" + s, "1" + s, "1" + s + "1", "-" + s, "a" + s + "a", "#" + s + "a", "\n" + s + "\n"} {
			agrees(t, text)
		}
	}
	for _, s := range []string{"é", "日本", "α", "٣", "\u00a0", "\u2028", "\ufeff", "ａ", "\u0301"} {
		fails(t, s, api.ErrToken, 0)
		fails(t, "a"+s, api.ErrToken, 1)
		fails(t, "1"+s, api.ErrToken, 1)
	}
}

// TestScanFaults checks P9.1: of several faults in one text the first one counts.
func TestScanFaults(t *testing.T) {
	faults := map[string]api.Errno{"_": api.ErrToken, "\r": api.ErrToken, "01": api.ErrNumber, "-": api.ErrNumber, "2147483648": api.ErrRange, "-2147483649": api.ErrRange}
	for first, err := range faults {
		for second := range faults {
			fails(t, first+" "+second, err, 0)
			fails(t, "a1\n"+first+"\n"+second+" "+first, err, 3)
			fails(t, "#"+second+"\n"+first+"#"+second, err, len(second)+2)
			fails(t, strings.Repeat(" ", 16384-len(first))+first, err, 16384-len(first))
		}
	}
	fails(t, "a _ 1", api.ErrToken, 2)
	fails(t, "1+2", api.ErrToken, 1)
	fails(t, "a.b", api.ErrToken, 1)
	fails(t, "a\r\n", api.ErrToken, 1)
	fails(t, `"a"`, api.ErrToken, 0)
}

// TestScanLimit checks P9.1: texts of MaxText bytes, and longer ones, whose other faults do not count.
func TestScanLimit(t *testing.T) {
	for _, s := range []string{"a", " ", "#", "\n", ";", "\t"} {
		agrees(t, strings.Repeat(s, 16383))
		agrees(t, strings.Repeat(s, 16384))
		l, fault := Scan(strings.Repeat(s, 16384))
		same(t, "fault of a text of MaxText bytes", fault, api.Fault{})
		if s == ";" || s == "\n" {
			same(t, "number of tokens", len(l), 16384)
			same(t, "last token", l[16383].At, 16383)
		}
	}
	for _, s := range []string{"a", " ", "#", "\n", ";", "_", "0", "9", "-", "\xff"} {
		fails(t, strings.Repeat(s, 16385), api.ErrLimit, 0)
		fails(t, strings.Repeat(s, 100000), api.ErrLimit, 0)
	}
	scans(t, "a"+strings.Repeat(" ", 16382)+"b", aWord("a", 0), aWord("b", 16383))
	scans(t, strings.Repeat("\t", 16382)+"-1", aNumber("-1", -1, 16382))
	fails(t, strings.Repeat("9", 16384), api.ErrRange, 0)
	fails(t, strings.Repeat(" ", 16383)+"_", api.ErrToken, 16383)
	fails(t, " "+strings.Repeat(" ", 16383)+"_", api.ErrLimit, 0)
}

// agrees fails if Scan does not return what its definition says, or if its tokens are not found in the text.
func agrees(t *testing.T, s string) {
	t.Helper()
	l, fault := Scan(s)
	m, want := reference(s)
	if !slices.Equal(l, m) || fault != want {
		t.Fatalf("Scan(%.200q): %.200s %+v, want %.200s %+v", s, fmt.Sprintf("%#v", l), fault, fmt.Sprintf("%#v", m), want)
	}
	after := 0
	for _, x := range l {
		if x.At < after || !strings.HasPrefix(s[x.At:], x.Text) {
			t.Fatalf("Scan(%.200q): the token %+v is not found at its offset", s, x)
		}
		after = x.At + len(x.Text)
	}
}

// someParts are parts of texts: characters of each class, and some that begin no token.
var someParts = []string{"a", "Z", "_", "0", "1", "9", "-", ";", "=", "\n", " ", "\t", "#", "\r", "\xe9"}

// goodParts are parts of texts without faults.
var goodParts = []string{"a", "x_1", "Z9", "0", "-7", "2147483647", "-2147483648", "(", ")", "{", "}", ",", ";", "=", ":", "\n", "\n\n", " ", "\t", "  ", "# c", "#\n"}

// randomText returns a text of up to most parts.
func randomText(r *rand.Rand, parts []string, most int) string {
	var s strings.Builder
	for range r.Intn(most + 1) {
		s.WriteString(parts[r.Intn(len(parts))])
	}
	return s.String()
}

// TestScanTexts checks P9.1: all short texts, and random ones, by the definition of Scan.
func TestScanTexts(t *testing.T) {
	texts(4, someParts, func(s string) { agrees(t, s) })
	texts(3, goodParts, func(s string) { agrees(t, s) })
	r := rand.New(rand.NewSource(1))
	for range 20000 {
		agrees(t, randomText(r, someParts, 30))
		agrees(t, randomText(r, goodParts, 30))
		b := make([]byte, r.Intn(12))
		r.Read(b)
		agrees(t, string(b))
	}
}

// TestJoinResults checks P9.2: the texts of tokens, and the blanks between them.
func TestJoinResults(t *testing.T) {
	joins(t, "", api.OK)
	for _, l := range [][]api.Token{nil, {}, make([]api.Token, 0, 5)} {
		s, err := Join(l)
		same(t, "Join without tokens", []any{s, err}, []any{"", api.OK})
	}
	one := []api.Token{aWord("x_1", 0), aNumber("0", 0, 0), aNumber("-3", -3, 0), aLine(0)}
	for _, c := range someSigns {
		one = append(one, aSymbol(string(c), 0))
	}
	for _, x := range one {
		joins(t, x.Text, api.OK, x)
		for _, y := range one {
			between := " "
			if x.Kind == api.TokLine || y.Kind == api.TokLine {
				between = ""
			}
			joins(t, x.Text+between+y.Text, api.OK, x, y)
			joins(t, x.Text+"\n"+y.Text, api.OK, x, aLine(0), y)
			joins(t, "\n"+x.Text+between+y.Text+"\n", api.OK, aLine(0), x, y, aLine(0))
		}
	}
	joins(t, "x1 = -3 ;\n\nfence ;\n", api.OK, aWord("x1", 0), aSymbol("=", 0), aNumber("-3", -3, 0), aSymbol(";", 0), aLine(0), aLine(0), aWord("fence", 0), aSymbol(";", 0), aLine(0))
	joins(t, "2147483647 -2147483648", api.OK, aNumber("2147483647", 2147483647, 0), aNumber("-2147483648", -2147483648, 0))
	joins(t, "\n\n\n", api.OK, aLine(0), aLine(0), aLine(0))
	joins(t, "a b c 1 2", api.OK, aWord("a", 0), aWord("b", 0), aWord("c", 0), aNumber("1", 1, 0), aNumber("2", 2, 0))
	// Offsets are ignored.
	joins(t, "a b", api.OK, aWord("a", 100), aWord("b", -7))
	joins(t, "1\n;", api.OK, aNumber("1", 1, math.MaxInt), aLine(math.MinInt), aSymbol(";", 0))
}

// someKinds are the kinds of tokens, and kinds that do not exist.
var someKinds = []api.TokenKind{1, 2, 3, 4, 0, 5, 6, -1, -2, 256, 257, 1 << 32, 1<<32 + 1, math.MaxInt, math.MinInt}

// someTexts are texts of tokens of each kind, and texts that are not those of a token.
var someTexts = []string{
	"a", "Z", "x_1", "r0", "(", ")", "{", "}", ",", ";", "=", ":", "\n", "0", "1", "5", "-7", "2147483647", "-2147483648",
	"", " ", "\t", "#", "# c", "#\n", "_", "_a", "-", "--1", "+1", "\r", "\x00", "é", "\xff", ".",
	"a b", "a ", " a", "a\t", "\na", "a\n", "a#", "a-", "a-1", "-a", "a;", "a=", "aé", "a\xff", "a\x00", "a a", "a\r", "ab.",
	"5 ", " 5", "5 5", "5\n", "5#", "5;", "5-", "5-5", "5a", "5_", "5é", "05", "-05", "-0", "00", "0x5", "5e0", "5.", "- 5", "--5",
	"()", "; ", " ;", ";;", ";\n", "\n;", ";#", "=1", "\n\n", "\n ", " \n", "\r\n", "\n\r", "\n#", "#\n#",
	"2147483648", "-2147483649", "4294967296", "4294967301", "9223372036854775808", "18446744073709551621",
}

// isToken reports whether a token is valid, by the definition of Scan: the token is all of its text.
func isToken(x api.Token) bool {
	l, fault := reference(x.Text)
	x.At = 0
	return fault == api.Fault{} && slices.Equal(l, []api.Token{x})
}

// TestJoinInvalid checks P9.2: tokens that are not valid, anywhere in a list, and valid ones among similar tokens.
func TestJoinInvalid(t *testing.T) {
	valid := 0
	for _, kind := range someKinds {
		for _, text := range someTexts {
			n, _ := valueOf(text)
			for k, number := range []int{0, n, 1, 5, -5, n + 1, n - 1, -n, n + 1<<32, n - 1<<32, 1 << 31, math.MaxInt, math.MinInt} {
				x := api.Token{Kind: kind, Text: text, N: number, At: k}
				if isToken(x) {
					valid++
					joins(t, text, api.OK, x)
					continue
				}
				joins(t, "", api.ErrToken, x)
				joins(t, "", api.ErrToken, x, aLine(0))
				joins(t, "", api.ErrToken, aWord("a", 0), aNumber("5", 5, 0), x)
				joins(t, "", api.ErrToken, aWord("a", 0), x, aSymbol(";", 0))
			}
		}
	}
	if valid < 19 {
		t.Errorf("only %d valid tokens", valid)
	}
	joins(t, "", api.ErrToken, api.Token{})
	joins(t, "", api.ErrToken, aWord("", 0), aWord("a", 0))
	joins(t, "", api.ErrToken, aWord("a b", 0))
	joins(t, "", api.ErrToken, aNumber("a", 0, 0))
	joins(t, "", api.ErrToken, aNumber("5", 4, 0))
	joins(t, "", api.ErrToken, aSymbol("\n", 0))
	joins(t, "", api.ErrToken, aSymbol("()", 0))
	joins(t, "", api.ErrToken, api.Token{Kind: api.TokLine, Text: "\n\n"})
	joins(t, "", api.ErrToken, api.Token{Kind: api.TokWord, Text: "a", N: 1})
	joins(t, "", api.ErrToken, api.Token{Kind: 0, Text: "# c"})
}

// TestJoinLimit checks P9.2: results of MaxText bytes, longer ones, and tokens that are not valid among them.
func TestJoinLimit(t *testing.T) {
	long := strings.Repeat("x", 16384)
	joins(t, long, api.OK, aWord(long, 0))
	joins(t, "", api.ErrLimit, aWord(long+"x", 0))
	joins(t, long[1:]+"\n", api.OK, aWord(long[1:], 0), aLine(0))
	joins(t, "", api.ErrLimit, aWord(long, 0), aLine(0))
	joins(t, "", api.ErrLimit, aLine(0), aWord(long, 0))
	joins(t, long[2:]+" ;", api.OK, aWord(long[2:], 0), aSymbol(";", 0))
	joins(t, "", api.ErrLimit, aWord(long[1:], 0), aSymbol(";", 0))
	joins(t, "", api.ErrLimit, aSymbol(";", 0), aWord(long[1:], 0))
	lines := slices.Repeat([]api.Token{aLine(0)}, 16384)
	joins(t, strings.Repeat("\n", 16384), api.OK, lines...)
	joins(t, "", api.ErrLimit, append(lines, aLine(0))...)
	// The text of 8192 symbols has 8191 blanks.
	signs := slices.Repeat([]api.Token{aSymbol(";", 0)}, 8192)
	joins(t, strings.Repeat("; ", 8191)+";", api.OK, signs...)
	joins(t, strings.Repeat("; ", 8191)+";\n", api.OK, append(slices.Clone(signs), aLine(0))...)
	joins(t, "", api.ErrLimit, append(slices.Clone(signs), aSymbol(";", 0))...)
	joins(t, "", api.ErrLimit, append(slices.Clone(signs), aLine(0), aLine(0))...)
	joins(t, "", api.ErrLimit, slices.Repeat([]api.Token{aWord("abc", 0)}, 100000)...)
	// A token that is not valid counts first, wherever it is.
	for _, wrong := range []api.Token{{}, aWord("", 0), aWord("_", 0), aNumber("1", 2, 0), {Kind: api.TokLine, Text: "\n", N: 1}} {
		joins(t, "", api.ErrToken, aWord(long+"x", 0), wrong)
		joins(t, "", api.ErrToken, wrong, aWord(long+"x", 0))
		joins(t, "", api.ErrToken, append(slices.Repeat([]api.Token{aWord("abc", 0)}, 10000), wrong)...)
	}
	joins(t, "", api.ErrToken, aWord(long+"x", 0), aWord(long+" x", 0))
}

// TestPosition checks P9.3: every offset of texts with and without line feeds, and offsets outside.
func TestPosition(t *testing.T) {
	is := func(s string, at, l, c int, ok bool) {
		t.Helper()
		gotLine, gotColumn, gotOk := Position(s, at)
		same(t, fmt.Sprintf("Position(%.60q, %d)", s, at), []any{gotLine, gotColumn, gotOk}, []any{l, c, ok})
	}
	is("ab\ncd", 0, 1, 1, true)
	is("ab\ncd", 1, 1, 2, true)
	is("ab\ncd", 2, 1, 3, true)
	is("ab\ncd", 3, 2, 1, true)
	is("ab\ncd", 4, 2, 2, true)
	is("ab\ncd", 5, 2, 3, true)
	is("ab\ncd", 6, 0, 0, false)
	is("ab\ncd", -1, 0, 0, false)
	is("", 0, 1, 1, true)
	is("", 1, 0, 0, false)
	is("", -1, 0, 0, false)
	is("\n", 0, 1, 1, true)
	is("\n", 1, 2, 1, true)
	is("\n", 2, 0, 0, false)
	is("\n\n\na", 2, 3, 1, true)
	is("\n\n\na", 3, 4, 1, true)
	is("\n\n\na", 4, 4, 2, true)
	is("a", math.MaxInt, 0, 0, false)
	is("a", math.MinInt, 0, 0, false)
	// Bytes count, whatever they are: no other one ends a line.
	is("é\r\n\ta", 2, 1, 3, true)
	is("é\r\n\ta", 4, 2, 1, true)
	is("é\r\n\ta", 5, 2, 2, true)
	is("\xff\r\v\f\u2028\x00_", 8, 1, 9, true)
	// Unlike Scan, Position takes texts of any length.
	long := strings.Repeat("abc\n", 10000)
	is(long, 40000, 10001, 1, true)
	is(long, 39999, 10000, 4, true)
	is(long, 40001, 0, 0, false)
	is(strings.Repeat("a", 20000), 20000, 1, 20001, true)
	texts(7, []string{"a", "\n"}, func(s string) {
		l, c := 1, 1
		for at := range len(s) {
			is(s, at, l, c, true)
			if c++; s[at] == '\n' {
				l, c = l+1, 1
			}
		}
		is(s, len(s), l, c, true)
		is(s, len(s)+1, 0, 0, false)
		is(s, -1, 0, 0, false)
	})
}

// returns fails if the text of tokens that were joined does not give them again.
func returns(t *testing.T, l []api.Token) (string, bool) {
	t.Helper()
	s, err := Join(l)
	if err == api.ErrLimit {
		return "", false
	}
	again, fault := Scan(s)
	if err != api.OK || fault != (api.Fault{}) || !slices.Equal(without(l), without(again)) {
		t.Fatalf("Scan of Join(%.200s) = %.200q: %.200s, errors %d %+v", fmt.Sprintf("%#v", l), s, fmt.Sprintf("%#v", again), err, fault)
	}
	return s, true
}

// TestRoundTrip checks P9.4: tokens, and texts without faults, are the same after joining and scanning.
func TestRoundTrip(t *testing.T) {
	trip := func(s string) {
		t.Helper()
		l, fault := Scan(s)
		if fault != (api.Fault{}) {
			return
		}
		if joined, ok := returns(t, l); ok && len(joined) > len(s)+len(l) {
			t.Fatalf("the text %q of %d tokens becomes %q", s, len(l), joined)
		} else if !ok && len(s)+len(l) <= 16384 {
			t.Fatalf("the tokens of the text %.200q have no text", s)
		}
	}
	texts(4, someParts, trip)
	texts(3, goodParts, trip)
	trip(strings.Repeat("\n", 16384))
	trip(strings.Repeat(";", 8192))
	trip(strings.Repeat("a", 16384))
	trip(strings.Repeat("a ", 8192))
	trip(strings.Repeat("=1", 5461))
	r := rand.New(rand.NewSource(2))
	for range 3000 {
		trip(randomText(r, goodParts, 200))
		var l []api.Token
		for range r.Intn(60) {
			l = append(l, randomToken(r))
		}
		returns(t, l)
	}
}

// randomToken returns a valid token with any offset.
func randomToken(r *rand.Rand) api.Token {
	at := r.Intn(100) - 50
	switch r.Intn(4) {
	case 0:
		text := letters[r.Intn(52):][:1]
		for range r.Intn(8) {
			text += (letters + digits + "_")[r.Intn(63):][:1]
		}
		return aWord(text, at)
	case 1:
		n := int(int32(r.Uint32())) >> r.Intn(32)
		return aNumber(fmt.Sprint(n), n, at)
	case 2:
		return aSymbol(someSigns[r.Intn(8):][:1], at)
	}
	return aLine(at)
}

// TestLocality checks P9.5: the tokens, or the fault, of two texts with a line feed between them.
func TestLocality(t *testing.T) {
	both := func(a, b string) {
		t.Helper()
		l, fault := Scan(a + "\n" + b)
		first, firstFault := Scan(a)
		second, secondFault := Scan(b)
		want, wantFault := slices.Concat(first, []api.Token{aLine(len(a))}, moved(second, len(a)+1)), api.Fault{}
		if firstFault.Err != api.OK {
			want, wantFault = nil, firstFault
		} else if secondFault.Err != api.OK {
			want, wantFault = nil, api.Fault{Err: secondFault.Err, At: secondFault.At + len(a) + 1}
		}
		if !slices.Equal(l, want) || fault != wantFault {
			t.Fatalf("Scan of %q and %q: %+v %+v, want %+v %+v", a, b, l, fault, want, wantFault)
		}
	}
	texts(2, someParts, func(a string) {
		texts(2, someParts, func(b string) { both(a, b) })
	})
	r := rand.New(rand.NewSource(3))
	for range 5000 {
		both(randomText(r, goodParts, 20), randomText(r, goodParts, 20))
		both(randomText(r, goodParts, 20), randomText(r, someParts, 3))
	}
	both(strings.Repeat("a ", 4000), strings.Repeat(";", 8000))
	both(strings.Repeat("#", 8192), strings.Repeat("1", 5)+strings.Repeat(" ", 8186))
}

// TestMemory checks rule 7 of LANGUAGE.md: arguments are neither changed nor kept, and results are new memory.
func TestMemory(t *testing.T) {
	l := []api.Token{aWord("a", 3), aNumber("-5", -5, -1), aLine(7), aSymbol(";", 2), aWord("behind", 9), {Kind: 9}}
	before := slices.Clone(l)
	for length := range len(l) + 1 {
		Join(l[:length])
		same(t, "tokens after Join", l, before)
	}
	s, err := Join(l[:4])
	clear(l)
	same(t, "Join after its argument has changed", []any{s, err}, []any{"a -5\n;", api.OK})

	const text = "a = -5;\nb"
	first, _ := Scan(text)
	second, _ := Scan(text)
	want := slices.Clone(first)
	clear(first)
	_ = append(first[:0], slices.Repeat([]api.Token{aLine(1)}, cap(first))...)
	same(t, "tokens after other tokens of the same text have changed", second, want)
	third, fault := Scan(text)
	same(t, "Scan again", []any{third, fault}, []any{want, api.Fault{}})
	// A call with a fault leaves nothing behind for the next one.
	fails(t, text+" _", api.ErrToken, 10)
	scans(t, "b", aWord("b", 0))
}

// FuzzScan compares Scan with its definition, and checks P9.3 to P9.5 for any text.
func FuzzScan(f *testing.F) {
	for _, s := range []string{"", "x1 =-3;# c", "a 01", "_", "-0", "2147483648", "a#\n\n1-2", "é"} {
		f.Add(s)
	}
	f.Fuzz(func(t *testing.T, s string) {
		agrees(t, s)
		if l, fault := Scan(s); fault == (api.Fault{}) {
			returns(t, l)
		}
		for at := range len(s) + 1 {
			l, c, ok := Position(s, at)
			before := strings.Split(s[:at], "\n")
			if l != len(before) || c != len(before[len(before)-1])+1 || !ok {
				t.Fatalf("Position(%q, %d) = %d, %d, %t", s, at, l, c, ok)
			}
		}
	})
}
