package token_test

import (
	"fmt"
	"math/rand"
	"strings"
	"testing"

	"workflow/api"
	"workflow/token"
)

func TestScanExamples(t *testing.T) { // P7.1
	checkScan(t, "let x = 10;", tokWord(0, "let"), tokName(4, "x"), tokSign(6, "="), tokInt(8, 10), tokSign(10, ";"))
	checkFault(t, "a !b", 2, api.ErrForm)
	checkFault(t, "12ab", 0, api.ErrForm)
	checkFault(t, `"ab`, 0, api.ErrShort)
	checkScan(t, "a<=b", tokName(0, "a"), tokSign(1, "<="), tokName(3, "b"))
	checkScan(t, "a< =b", tokName(0, "a"), tokSign(1, "<"), tokSign(3, "="), tokName(4, "b"))
}

func TestScanProgram(t *testing.T) { // P7.1
	checkScan(t, "func main(x) { return x + 1; }",
		tokWord(0, "func"), tokName(5, "main"), tokSign(9, "("), tokName(10, "x"), tokSign(11, ")"), tokSign(13, "{"),
		tokWord(15, "return"), tokName(22, "x"), tokSign(24, "+"), tokInt(26, 1), tokSign(27, ";"), tokSign(29, "}"))
	checkScan(t, "while not(a[i].k!=-3)\n\t{undo f(\"u\",7%2);}",
		tokWord(0, "while"), tokWord(6, "not"), tokSign(9, "("), tokName(10, "a"), tokSign(11, "["), tokName(12, "i"), tokSign(13, "]"),
		tokSign(14, "."), tokName(15, "k"), tokSign(16, "!="), tokSign(18, "-"), tokInt(19, 3), tokSign(20, ")"), tokSign(23, "{"),
		tokWord(24, "undo"), tokName(29, "f"), tokSign(30, "("), tokText(31, "u"), tokSign(34, ","), tokInt(35, 7), tokSign(36, "%"),
		tokInt(37, 2), tokSign(38, ")"), tokSign(39, ";"), tokSign(40, "}"))
}

func TestScanBlanks(t *testing.T) { // P7.1
	for _, s := range []string{"", " ", "\t", "\n", " \t\n\n\t ", strings.Repeat("\n", api.MaxSource)} {
		checkScan(t, s)
	}
	checkScan(t, "\n\ta \tb\n", tokName(2, "a"), tokName(5, "b"))
	// There are no other blanks, and no comments.
	for _, s := range []string{"\r", "\v", "\f", "\x00", "\x85", "\xa0", "\u00a0", "\u2003", "\ufeff", "#", "\\"} {
		checkFault(t, s, 0, api.ErrForm)
		checkFault(t, " "+s+" a", 1, api.ErrForm)
		checkFault(t, "a"+s+"b", 1, api.ErrForm)
		checkFault(t, "1"+s, 1, api.ErrForm)
		checkFault(t, "a\n"+s, 2, api.ErrForm)
	}
	checkScan(t, "//a", tokSign(0, "/"), tokSign(1, "/"), tokName(2, "a"))
}

func TestScanBytes(t *testing.T) { // P7.1
	for b := range 256 {
		c := string([]byte{byte(b)})
		checkModel(t, c)
		for _, x := range []string{"a", "A", "_", "0", "1", "9", `"`, `"a`, "\\", `"\`, `"\x`, `"\x4`, `"\x4a`, "=", "!", "<", ">", "-", " ", "\n", "a1_", "10"} {
			checkModel(t, x+c)
			checkModel(t, c+x)
			checkModel(t, x+c+x)
			checkModel(t, x+c+`"`)
			checkModel(t, x+c+`0"`)
		}
	}
}

func TestScanShortTexts(t *testing.T) { // P7.1
	for _, s := range words("ax_09 \"\\=!<", 5) {
		checkModel(t, s)
	}
	for _, s := range words("\"\\x0aAg", 7) {
		checkModel(t, `"`+s)
	}
}

// TestScanMixtures joins pieces at random; the generator begins anew from the same number in every run.
func TestScanMixtures(t *testing.T) { // P7.1
	pieces := strings.Fields(keywords + " " + signs)
	pieces = append(pieces, "a", "x1", "_", "Z9_a", "ifx", "If", "0", "7", "42", "9223372036854775807", `""`, `"a b"`, `"\"\\\n\t\x0f"`)
	odd := []string{"!", "00", "12a", "9223372036854775808", `"`, `"\`, "\x80", "#", strings.Repeat("n", 64), strings.Repeat("n", 65)}
	r := rand.New(rand.NewSource(7))
	for range 5000 {
		var b strings.Builder
		for range r.Intn(20) {
			b.WriteString(pieces[r.Intn(len(pieces))])
			if r.Intn(40) == 0 {
				b.WriteString(odd[r.Intn(len(odd))])
			}
			b.WriteString([]string{"", " ", "\t", "\n", " \n "}[r.Intn(5)])
		}
		checkModel(t, b.String())
	}
}

func TestScanSourceLimit(t *testing.T) { // P7.1
	full := strings.Repeat(" ", api.MaxSource-1)
	checkScan(t, full+"a", tokName(api.MaxSource-1, "a"))
	checkScan(t, "a"+full, tokName(0, "a"))
	checkFault(t, full+"#", api.MaxSource-1, api.ErrForm)
	// The length is looked at first, whatever the text contains.
	for _, s := range []string{full + "  ", full + "aa", "#" + full + " ", "1a" + full, strings.Repeat("n", 100) + full, `"` + full + " ", strings.Repeat("a ", 1<<19)} {
		checkFault(t, s, 0, api.ErrSize)
	}
	l, at, e := token.Scan(strings.Repeat(";", api.MaxSource))
	if len(l) != api.MaxSource+1 || at != 0 || e != api.OK {
		t.Errorf("Scan of %d signs: %d tokens, %d, %d", api.MaxSource, len(l), at, e)
	}
}

func TestScanFirstFault(t *testing.T) { // P7.1
	faults := map[string]api.Errno{
		"#": api.ErrForm, "!": api.ErrForm, "01": api.ErrForm, "1a": api.ErrForm, "99999999999999999999": api.ErrRange,
		strings.Repeat("n", 65): api.ErrName, `"` + strings.Repeat("s", 4097) + `"`: api.ErrSize, `"\q"`: api.ErrForm,
	}
	for s, e := range faults {
		for other := range faults {
			checkFault(t, "a "+s+" "+other, 2, e)
		}
		checkFault(t, s, 0, e)
		checkFault(t, "a;"+s+` "`, 2, e)
		checkFault(t, "let\n"+s+";", 4, e)
	}
	checkFault(t, `a "b" "c 01 #`, 6, api.ErrShort)
}

func TestScanWords(t *testing.T) { // P7.1
	for _, k := range strings.Fields(keywords) {
		checkScan(t, k, tokWord(0, k))
		checkScan(t, " "+k+";", tokWord(1, k), tokSign(len(k)+1, ";"))
		for _, s := range []string{k + "_", k + "1", "_" + k, k + k, strings.ToUpper(k), strings.ToUpper(k[:1]) + k[1:], "x" + k} {
			checkScan(t, s, tokName(0, s))
		}
	}
	for _, s := range []string{"_", "__", "a", "Z", "_0", "x9", "main", "len", "activity", "continueAs", "in", "undefined", letters, letters[20:] + "0123456789"} {
		checkScan(t, s, tokName(0, s))
		checkScan(t, "."+s+"-", tokSign(0, "."), tokName(1, s), tokSign(1+len(s), "-"))
	}
	checkScan(t, `a"b"c`, tokName(0, "a"), tokText(1, "b"), tokName(4, "c"))
	checkFault(t, "aé", 1, api.ErrForm)
}

func TestScanNameLimit(t *testing.T) { // P7.1
	for _, c := range []string{"n", "_", "Q"} {
		most, more := strings.Repeat(c, api.MaxName), strings.Repeat(c, api.MaxName+1)
		checkScan(t, most, tokName(0, most))
		checkScan(t, most+"("+most, tokName(0, most), tokSign(api.MaxName, "("), tokName(api.MaxName+1, most))
		for _, s := range []string{more, most + "1", more + "é", strings.Repeat(c, api.MaxSource-4)} {
			checkFault(t, s, 0, api.ErrName)
			checkFault(t, "x = "+s, 4, api.ErrName)
		}
	}
	checkFault(t, strings.Repeat("while", 13), 0, api.ErrName)
	most := "a" + strings.Repeat("7", api.MaxName-1)
	checkScan(t, most, tokName(0, most))
	checkFault(t, most+"7", 0, api.ErrName)
}

func TestScanIntegers(t *testing.T) { // P7.1
	for n := range 1200 {
		checkScan(t, fmt.Sprint(n), tokInt(0, n))
	}
	for shift := range 63 {
		for _, n := range []int{1<<shift - 1, 1 << shift, 1<<shift + 1} {
			checkScan(t, fmt.Sprintf("(%d)", n), tokSign(0, "("), tokInt(1, n), tokSign(len(fmt.Sprint(n))+1, ")"))
		}
	}
	checkScan(t, "9223372036854775807", tokInt(0, greatest))
	// A minus sign is a token of its own.
	checkScan(t, "-9223372036854775807", tokSign(0, "-"), tokInt(1, greatest))
	checkFault(t, "-9223372036854775808", 1, api.ErrRange)
	for _, s := range []string{
		"9223372036854775808", "9223372036854775810", "9300000000000000000", "10000000000000000000", "18446744073709551615",
		"18446744073709551616", "18446744073709551617", "36893488147419103233", strings.Repeat("9", 1000), "1" + strings.Repeat("0", api.MaxSource-3),
	} {
		checkFault(t, s, 0, api.ErrRange)
		checkFault(t, " "+s, 1, api.ErrRange)
	}
}

func TestScanIntegerForm(t *testing.T) { // P7.1
	for _, s := range []string{
		"00", "01", "007", "0000000000000000000", "09223372036854775808", "0" + strings.Repeat("9", 100), "0x10", "0x", "0b1", "0_", "00a",
		"1a", "1Z", "1_", "1_000", "1e3", "12ab", "1if", "1and", "9223372036854775807a", "9223372036854775808a", strings.Repeat("9", 100) + "_",
	} {
		checkFault(t, s, 0, api.ErrForm)
		checkFault(t, "x = "+s+";", 4, api.ErrForm)
		checkFault(t, `"x"`+s, 3, api.ErrForm)
	}
	for i := range len(letters) {
		checkFault(t, "0"+letters[i:i+1], 0, api.ErrForm)
		checkFault(t, "10"+letters[i:i+1], 0, api.ErrForm)
		checkScan(t, "10 "+letters[i:i+1], tokInt(0, 10), tokName(3, letters[i:i+1]))
	}
	checkScan(t, "0", tokInt(0, 0))
	checkScan(t, "0 0", tokInt(0, 0), tokInt(2, 0))
	checkScan(t, "1.5", tokInt(0, 1), tokSign(1, "."), tokInt(2, 5))
	checkScan(t, "+1", tokSign(0, "+"), tokInt(1, 1))
	checkScan(t, `1"a"`, tokInt(0, 1), tokText(1, "a"))
	checkFault(t, "1é", 1, api.ErrForm)
}

func TestScanLiterals(t *testing.T) { // P7.1
	for literal, text := range map[string]string{
		`""`: "", `" "`: " ", `"ab c"`: "ab c", `"\""`: `"`, `"\\"`: `\`, `"\n\t"`: "\n\t", `"\x00\x0a\x41\x7f\xff"`: "\x00\nA\x7f\xff",
		`"\\\""`: `\"`, `"\\n"`: `\n`, `"\x5c\x22"`: `\"`, `"\x414"`: "A4", `"//{}'"`: "//{}'", `"~"`: "~", `"if 1"`: "if 1", `"\xc3\xa9"`: "é",
	} {
		checkScan(t, literal, tokText(0, text))
		checkScan(t, literal+literal, tokText(0, text), tokText(len(literal), text))
		checkScan(t, "a:"+literal+"\n,", tokName(0, "a"), tokSign(1, ":"), tokText(2, text), tokSign(3+len(literal), ","))
	}
	for b := range 256 {
		checkScan(t, fmt.Sprintf(`"\x%02x"`, b), tokText(0, string([]byte{byte(b)})))
		if c := fmt.Sprintf("%02X", b); c != strings.ToLower(c) {
			checkFault(t, `"\x`+c+`"`, 0, api.ErrForm)
		}
	}
}

func TestScanLiteralForm(t *testing.T) { // P7.1
	for _, s := range []string{
		`"\q"`, `"\r"`, `"\a"`, `"\0"`, `"\N"`, `"\T"`, `"\X41"`, `"\u0041"`, `"\'"`, `"\/"`, `"\ "`, "\"\\\n\"", "\"\\\t\"",
		`"\x"`, `"\x4"`, `"\x4g"`, `"\xg4"`, `"\x4G"`, `"\xA0"`, `"\x 4"`, `"\x-1"`, `"\x+1"`, `"\x\x"`, "\"\\x4\n\"",
		"\"a\nb\"", "\"a\tb\"", "\"\r\"", "\"\x00\"", "\"\x1f\"", "\"\x7f\"", "\"\x80\"", "\"\xff\"", `"é"`, "\"\u00a0\"",
	} {
		checkFault(t, s, 0, api.ErrForm)
		checkFault(t, "a = "+s, 4, api.ErrForm)
		// The byte is found whether or not the literal ends.
		checkFault(t, s[:len(s)-1]+"#", 0, api.ErrForm)
		checkFault(t, strings.TrimSuffix(s, `"`)+"\n", 0, api.ErrForm)
	}
	for _, s := range []string{`"`, `"a`, `"\`, `"a\"`, `"\x`, `"\x4`, `"\x4a`, `"\\\`, `"\n`, `" `, `"a; b = 01`} {
		checkFault(t, s, 0, api.ErrShort)
		checkFault(t, `"x"`+s, 3, api.ErrShort)
		checkFault(t, "a; "+s, 3, api.ErrShort)
	}
	checkFault(t, `"\xg`, 0, api.ErrForm)
	checkFault(t, `"\q`, 0, api.ErrForm)
	checkFault(t, "'a'", 0, api.ErrForm)
	checkFault(t, "`a`", 0, api.ErrForm)
}

func TestScanTextLimit(t *testing.T) { // P7.1
	for literal, text := range map[string]string{"s": "s", `\n`: "\n", `\\`: `\`, `\"`: `"`, " ": " "} {
		most, more := strings.Repeat(literal, api.MaxText), strings.Repeat(literal, api.MaxText+1)
		checkScan(t, `"`+most+`"`, tokText(0, strings.Repeat(text, api.MaxText)))
		checkFault(t, ` "`+more+`"`, 1, api.ErrSize)
		checkFault(t, `"`+more+`"#`, 0, api.ErrSize)
		checkFault(t, `"`+most+most[:len(literal)*10]+`"`, 0, api.ErrSize)
		// The length is found behind the closing quotation mark, so what stands in front of that is found first.
		checkFault(t, `"`+more, 0, api.ErrShort)
		checkFault(t, `"`+more+`\`, 0, api.ErrShort)
		checkFault(t, `"`+more+`\x4`, 0, api.ErrShort)
		checkFault(t, `"`+more+"\n\"", 0, api.ErrForm)
		checkFault(t, `"`+more+`\q"`, 0, api.ErrForm)
	}
	// The limit counts the bytes of the string, not those of the literal.
	codes := strings.Repeat(`\x41`, 4000)
	checkScan(t, `"`+codes+strings.Repeat("A", 96)+`"`, tokText(0, strings.Repeat("A", api.MaxText)))
	checkFault(t, `"`+codes+strings.Repeat("A", 97)+`"`, 0, api.ErrSize)
	checkFault(t, `"`+strings.Repeat("s", api.MaxSource-2)+`"`, 0, api.ErrSize)
}

func TestScanSigns(t *testing.T) { // P7.1
	all := strings.Fields(signs)
	for _, s := range all {
		checkScan(t, s, tokSign(0, s))
		checkScan(t, "a"+s+"7", tokName(0, "a"), tokSign(1, s), tokInt(1+len(s), 7))
		for _, other := range all {
			checkScan(t, s+" "+other, tokSign(0, s), tokSign(len(s)+1, other))
			checkModel(t, s+other)
			checkModel(t, s+other+"=")
		}
	}
	checkScan(t, "===", tokSign(0, "=="), tokSign(2, "="))
	checkScan(t, "====", tokSign(0, "=="), tokSign(2, "=="))
	checkScan(t, "<==", tokSign(0, "<="), tokSign(2, "="))
	checkScan(t, "=<", tokSign(0, "="), tokSign(1, "<"))
	checkScan(t, "<>", tokSign(0, "<"), tokSign(1, ">"))
	checkScan(t, "!=!=", tokSign(0, "!="), tokSign(2, "!="))
	checkScan(t, "+=", tokSign(0, "+"), tokSign(1, "="))
	checkScan(t, "<!=", tokSign(0, "<"), tokSign(1, "!="))
	for _, s := range []string{"!", "! =", "!!=", "!a", "!\n=", "!1"} {
		checkFault(t, s, 0, api.ErrForm)
	}
	checkFault(t, "=!", 1, api.ErrForm)
	checkFault(t, "a != !b", 5, api.ErrForm)
	for _, s := range strings.Split("# $ & ' ? @ \\ ^ ` | ~", " ") {
		checkFault(t, s, 0, api.ErrForm)
		checkFault(t, "a "+s+"=", 2, api.ErrForm)
	}
}

func TestScanMemory(t *testing.T) { // P7.1
	src := "let x = 10;"
	l, _, _ := token.Scan(src)
	for i := range l {
		l[i] = tokName(99, "changed")
	}
	checkScan(t, src, tokWord(0, "let"), tokName(4, "x"), tokSign(6, "="), tokInt(8, 10), tokSign(10, ";"))
}
