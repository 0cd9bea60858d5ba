package tests

import (
	"encoding/json"
	"math/rand"
	"regexp"
	"slices"
	"strconv"
	"strings"
	"testing"

	"loop.example/g00345/impl"
)

// readsFilter asks that s is read, and written as want.
func readsFilter(t *testing.T, s, want string) {
	t.Helper()
	f, ok := impl.ReadFilter(s)
	if !ok || !impl.FilterOk(f) || impl.FilterText(f) != want {
		t.Errorf("%q: %v, %q, not %q", s, ok, impl.FilterText(f), want)
	}
}

func TestReadFilter(t *testing.T) {
	for s, want := range map[string]string{
		// without blanks
		".a|.b,.c//.d==.e+.f-.g?":     ".a | .b, .c // .d == .e + .f - .g?",
		"1<2":                         "1 < 2",
		"1<=2":                        "1 <= 2",
		"1!=2":                        "1 != 2",
		"1==2":                        "1 == 2",
		"1//2":                        "1 // 2",
		".<.":                         ". < .",
		".?":                          ".?",
		".[]?//.[0]":                  ".[]? // .[0]",
		"{a:.,b:{c:[]}}":              "{a: ., b: {c: []}}",
		"[[[]]]":                      "[[[]]]",
		"[{}]":                        "[{}]",
		`"a"+"b"`:                     `"a" + "b"`,
		`if"a"then"b"else"c"end`:      `if "a" then "b" else "c" end`,
		"if(1)then(2)else(3)end":      "if 1 then 2 else 3 end",
		"if[]then{}else[]end":         "if [] then {} else [] end",
		"if-1then-2else-3end":         "if -1 then -2 else -3 end",
		"if.a?then.b?else.c?end":      "if .a? then .b? else .c? end",
		"if 1then 2else 3end":         "if 1 then 2 else 3 end",
		"length+length":               "length + length",
		"length,keys|not":             "length, keys | not",
		"select(.)|select(select(.))": "select(.) | select(select(.))",
		"if.a then.b else.c end":      "if .a then .b else .c end",
		"if . then . else . end|.":    "if . then . else . end | .",
		"if . then . else . end?":     "if . then . else . end?",
		"null//false//true":           "null // false // true",
		"if if 1 then 2 else 3 end then if 4 then 5 else 6 end else if 7 then 8 else 9 end end": "if if 1 then 2 else 3 end then if 4 then 5 else 6 end else if 7 then 8 else 9 end end",
		// with blanks and bytes 10
		" . ":                              ".",
		"\n.\n":                            ".",
		" \n \n.a \n \n":                   ".a",
		" 1 ":                              "1",
		"\n\"a\"\n":                        `"a"`,
		" length\n":                        "length",
		".[ ]":                             ".[]",
		".[\n]":                            ".[]",
		".[ 1 ]":                           ".[1]",
		".[\n-1\n]":                        ".[-1]",
		" .[ 1 ] ":                         ".[1]",
		"[ ]":                              "[]",
		"[ \n ]":                           "[]",
		"{ }":                              "{}",
		"{\n\n}":                           "{}",
		"{ a : 1 , b : 2 }":                "{a: 1, b: 2}",
		"{\na\n:\n1\n,\nb\n:\n2\n}":        "{a: 1, b: 2}",
		"select ( . )":                     "select(.)",
		"select\n(\n.\n)\n":                "select(.)",
		"if\n.\nthen\n.\nelse\n.\nend\n":   "if . then . else . end",
		"  if  1  then  2  else  3  end  ": "if 1 then 2 else 3 end",
		".a ?":                             ".a?",
		".a ? ?\n? ":                       ".a???",
		".a ??":                            ".a??",
		"1  |  2\n|\n3":                    "1 | 2 | 3",
		"1 , 2\n,\n3":                      "1, 2, 3",
		"1\n//\n2":                         "1 // 2",
		"1 \n==\n 2":                       "1 == 2",
		"1\n<\n2":                          "1 < 2",
		"( 1 )":                            "1",
		"(\n(\n1\n)\n)":                    "1",
		// parentheses
		"(.)":                                 ".",
		"((((((((((.a))))))))))":              ".a",
		"(.a)?":                               ".a?",
		"((.a)?)?":                            ".a??",
		"(.a|.b)|.c":                          "(.a | .b) | .c",
		".a|(.b|.c)":                          ".a | .b | .c",
		"(.a|(.b))|(.c)":                      "(.a | .b) | .c",
		"(1)+(2)":                             "1 + 2",
		"(1+2)-(3)":                           "1 + 2 - 3",
		"(1+(2-3))":                           "1 + (2 - 3)",
		"((1)==(2))":                          "1 == 2",
		"[(1,2)]":                             "[1, 2]",
		"[(1|2)]":                             "[1 | 2]",
		"{a:((1))}":                           "{a: 1}",
		"{a:(1//2)}":                          "{a: 1 // 2}",
		"{a:((1|2))}":                         "{a: (1 | 2)}",
		"select((1))":                         "select(1)",
		"select((1,2))":                       "select(1, 2)",
		"if (1|2) then (3,4) else (5==6) end": "if 1 | 2 then 3, 4 else 5 == 6 end",
		"(if . then . else . end)":            "if . then . else . end",
		"(select(.))":                         "select(.)",
		"(\"(\")":                             `"("`,
		"(1,2),3":                             "1, 2, 3",
		"1,(2),3":                             "1, 2, 3",
		"(1//2)//3":                           "(1 // 2) // 3",
		"1//(2//3)":                           "1 // 2 // 3",
		"(1<2)<3":                             "(1 < 2) < 3",
		"1<(2<3)":                             "1 < (2 < 3)",
		"(1<2)//(3<4)":                        "1 < 2 // 3 < 4",
		// a - and numbers
		"1-1":                      "1 - 1",
		"1 - 1":                    "1 - 1",
		"1 -1":                     "1 - 1",
		"1- 1":                     "1 - 1",
		"1 - -1":                   "1 - -1",
		"1--1":                     "1 - -1",
		"1 --1":                    "1 - -1",
		"1\n-\n-1":                 "1 - -1",
		"-1":                       "-1",
		" -1":                      "-1",
		"-1-1":                     "-1 - 1",
		"-1--1":                    "-1 - -1",
		"-1 -1 -1":                 "-1 - 1 - 1",
		".a-1":                     ".a - 1",
		".a -1":                    ".a - 1",
		".a - -1":                  ".a - -1",
		".-1":                      ". - 1",
		".--1":                     ". - -1",
		".[]-1":                    ".[] - 1",
		".[1]-1":                   ".[1] - 1",
		"[]-1":                     "[] - 1",
		"{}-1":                     "{} - 1",
		"(1)-1":                    "1 - 1",
		"(-1)":                     "-1",
		"[-1]":                     "[-1]",
		"{a:-1}":                   "{a: -1}",
		"{a:-1,b:-2}":              "{a: -1, b: -2}",
		"select(-1)":               "select(-1)",
		"\"a\"-1":                  "\"a\" - 1",
		"length-1":                 "length - 1",
		"null-1":                   "null - 1",
		".a?-1":                    ".a? - 1",
		"if 1 then 2 else 3 end-1": "if 1 then 2 else 3 end - 1",
		"1|-1":                     "1 | -1",
		"1,-1":                     "1, -1",
		"1//-1":                    "1 // -1",
		"1==-1":                    "1 == -1",
		"1!=-1":                    "1 != -1",
		"1<-1":                     "1 < -1",
		"1<=-1":                    "1 <= -1",
		"1+-1":                     "1 + -1",
		"1-(-1)":                   "1 - -1",
		"1-.a":                     "1 - .a",
		"1-(.a)":                   "1 - .a",
		"1-length":                 "1 - length",
		"-1?":                      "-1?",
		"0":                        "0",
		"10":                       "10",
		"-10":                      "-10",
		"0-0":                      "0 - 0",
		"1000000000000000":         "1000000000000000",
		"-1000000000000000":        "-1000000000000000",
		".[80]":                    ".[80]",
		".[-80]":                   ".[-80]",
		".[0]":                     ".[0]",
		// names and words
		".ifx":                              ".ifx",
		"._1":                               "._1",
		".A":                                ".A",
		".a1b2":                             ".a1b2",
		".then|.else":                       ".then | .else",
		"if .then then .else else .end end": "if .then then .else else .end end",
		"if . then 1 else 2 end":            "if . then 1 else 2 end",
		"{if:.if,then:.then}":               "{if: .if, then: .then}",
		"{length:length,not:not}":           "{length: length, not: not}",
		"{null:null,true:true}":             "{null: null, true: true}",
		// texts in quotes
		`"\u0041\u006a\u006A\/\b\t\n\f\r\"\\"`:   `"Ajj/\b\t\n\f\r\"\\"`,
		`"\u0000\u001f\u007f"`:                   `"\u0000\u001f\u007f"`,
		`"\u007F"`:                               `"\u007f"`,
		"\"\x7f\"":                               `"\u007f"`,
		`"/"`:                                    `"/"`,
		`" . | "`:                                `" . | "`,
		`"a"|"b","c"`:                            `"a" | "b", "c"`,
		`"if . then"`:                            `"if . then"`,
		`[""]`:                                   `[""]`,
		`"\""`:                                   `"\""`,
		`"\\"`:                                   `"\\"`,
		`"` + strings.Repeat(`\u0061`, 60) + `"`: `"` + strings.Repeat("a", 60) + `"`,
		`"` + strings.Repeat("\x7f", 60) + `"`:   `"` + strings.Repeat(`\u007f`, 60) + `"`,
	} {
		readsFilter(t, s, want)
		readsFilter(t, want, want)
	}
}

func TestReadNoFilter(t *testing.T) {
	for _, s := range []string{
		"", " ", "\n", "  \n ", "x", "A", "_", "$", "@", "&", "'", "'a'", "`", "~", "^", "%", "*", ";", "#", "\\", "\x00",
		// text behind a filter
		". .", "..", ".a.b", ".a .b", ".a[1]", ".a[]", ".[1][2]", ".[][]", "1 2", "1 .", ".1", ".1a", "1.", "1.5", "1e3", "1a", `"a""b"`, `"a" "b"`, "length length", "length keys", "[][]", "{}{}", "()()", "(1)(2)", "(1) 2", "1 (2)", "not 1",
		"1 null", "null null", "select(.)(.)", "select(.) .", "if 1 then 2 else 3 end end", "if 1 then 2 else 3 end 4", ".a?b", ".a? b", ".?.", "1?2", ".\x00", ".a\x00", ".a \x00", "\x00.", "1\x00", "length\x00", ". then", "1 then 2", "1 else 2", "1 end",
		". #", ". # a", "#\n.", "// .", ". //",
		// not closed, not opened
		"(", ")", "()", "( )", "(.", ".)", "((.)", "(.))", "(.]", "(.}", "[", "]", "[.", ".]", "[[]", "[]]", "[.)", "[.}", "[}", "[)", "{", "}", "{a:1", "{a:1]", "{a:1)", "{]", "{)", "a:1}", "{{}", "{}}", ".[", ".[1", ".[1)", ".[1}", ".[)", "1]", ".]", "[(1])", "([1)]", "(1,2", "[1,2", "[1|2", "select(", "select(.", "select(.]", "select)", "select.", "select .", "select", "select()", "select( )", "select[.]",
		// a point's name or [ behind a blank
		". a", ".\na", ". [1]", ".\n[1]", ". []", ". [ ]", ".  a", ". _", ". length",
		".[a]", ".[.]", ".[.a]", ".[\"a\"]", ".[1,2]", ".[1|2]", ".[(1)]", ".[1-1]", ".[1+1]", ".[1 1]", ".[--1]", ".[+1]", ".[]1]", ".[null]", ".[-]", ".[1:2]", ".[]]", ".[[]]", ".\"a\"", ".(a)", ".(1)", ".{}", ".-", ".?.a",
		// a - and its digits
		"- 1", "-\n1", "-", "--1", "---1", "- -1", "-.a", "- .a", "-(1)", "-length", "-null", "-[]", "-\"a\"", "-a", "1 - - 1", "1-- 1", "1---1", "1 -", "1-", "1 - - -1", ".[- 1]", ".[-\n1]", "[- 1]", "(- 1)", "1 + - 1", "+1", "+ 1", "1 ++ 1", "1 +", "+",
		"-0", "-00", "00", "01", "-01", "007", "1-01", "1 - 00", ".[00]", ".[01]", ".[-0]", ".[-01]", "[01]",
		"1000000000000001", "-1000000000000001", "9999999999999999", "9223372036854775807", "9223372036854775808", "-9223372036854775808", "18446744073709551616", "18446744073709551617", strings.Repeat("9", 100), ".[81]", ".[-81]", ".[100]", ".[18446744073709551617]", ".[" + strings.Repeat("1", 50) + "]", "1_000", "0x1", "1,000", "0 0",
		// comparisons in a row
		"1==2==3", "1==2!=3", "1!=2<3", "1<2<3", "1<2<=3", "1<=2==3", "1 < 2 < 3", ".a < .b < .c", "1+2<3+4<5", "1<2 == 3<4", "0 | 1<2<3", "0, 1<2<3", "0 // 1<2<3", "1<2<3 | 0", "1<2<3 // 0", "[1<2<3]", "(1<2<3)", "{a:1<2<3}", "(1<2)<3<4", "1<2<(3<4)", "1<(2)<3",
		// signs
		"1 / 2", "1 /2", "1/2", "1 / / 2", "1///2", "1 // / 2", "1////2", "/", "//", "1 = 2", "1=2", "1 = = 2", "1===2", "1====2", "1 == = 2", "=", "==", "1 ! 2", "1!2", "1 ! = 2", "1!==2", "1!!=2", "!", "!=", "!.", "!1", "1 < = 2", "1<==2", "1<<2", "1<<=2", "1 <= = 2", "1 =< 2", "1 > 2", "1 >= 2", "1>2", "1 <> 2", "<", "<=", "1 <", "< 1", "1 ==", "== 1", "1 & 2", "1 && 2", "1 and 2", "1 or 2", "1 * 2", "1 % 2", "1 || 2", "1 | | 2", "|", "| 1", "1 |", ",", ", 1", "1 ,", "1,,2", "1, ,2", "?", "? .", "??", "|?", "1|?", "1 | ? 2", "1 ?? 2", ":", "1:2", "a:1",
		// lists and maps
		"[,]", "[1,]", "[,1]", "[1,,2]", "[|]", "[1|]", "[1 2]", "[1:2]", "{,}", "{a}", "{a:}", "{a 1}", "{a:1,}", "{,a:1}", "{a:1,,b:2}", "{a:1 b:2}", "{a:1;b:2}", "{a:1,b}", "{a:1,2}", "{:1}", "{1:1}", "{1a:1}", "{\"a\":1}", "{.a:1}", "{(\"a\"):1}", "{a-b:1}", "{a b:1}", "{a::1}", "{a:1:2}", "{a=1}", "{a,b}", "{a:1|2}", "{a:1,b:2|3}", "{a:|}", "{a:1,|}", "{a: .b | .c}", "{$a:1}", "{a?:1}", "{a.b:1}", "{\u00e9:1}", "{a\x80:1}",
		"{b:1,a:2}", "{a:1,a:2}", "{a:1,b:2,b:3}", "{a:1,B:2}", "{ab:1,a:2}", "{a:1,_:2}", "{a:1,b:2,c:3,d:4,e:5,f:6}", "{a:{b:1,a:2}}", "{" + strings.Repeat("k", 61) + ":1}",
		// words
		"fly", "lengths", "lengt", "Length", "LENGTH", "key", "keyss", "no", "nots", "notnot", "nul", "nulll", "nullnull", "Null", "True", "FALSE", "tru", "truee", "truefalse", "fals", "falsee", "empt", "emptyempty", "sel", "selec(.)", "selects(.)", "Select(.)", "sel ect(.)", "length1", "not_", "null1", "true_", "select1(.)", "lengthkeys", "length.", "1length", "nul l", "null.", "then", "else", "end", "if", "i f . then . else . end",
		"if . then 1 end", "if . then 1 else end", "if . then else 2 end", "if then 1 else 2 end", "if . 1 else 2 end", "if . then 1 2 end", "if . then 1 else 2", "if . else 1 then 2 end", "if . then 1 else 2 then 3 end", "if . then 1 else 2 else 3 end", "if . then 1 elif . then 2 else 3 end", "if . the 1 else 2 end", "if . then 1 els 2 end", "if . then 1 else 2 en", "if . then 1 else 2 ends", "if . Then 1 else 2 end", "if . then 1 else 2 END", "IF . then 1 else 2 end", "if1then2else3end", "if 1 then2 else 3 end", "if 1 then 2 else3 end", "if1 then 2 else 3 end", "if.then 1 else 2 end", "if . then.else 2 end", "if . then 1 else.end", "ifthen", "if.", "if . then", "if . then 1", "if . then 1 else", "if(. then 1 else 2 end)", "if . then (1 else 2) end", "if . then [1 else 2 end]", "iftrue then 1 else 2 end", "if truethen 1 else 2 end", "if . then 1 else 2end1", "if . , then 1 else 2 end", "if . | then 1 else 2 end", "then 1", "else 1", "end 1", "fi", "ifif", "if if", "def f: .;", "select(if)",
		// texts in quotes
		`"`, `"a`, `a"`, `"\`, `"\"`, `"\x"`, `"\u"`, `"\u00"`, `"\u004"`, `"\u0080"`, `"\u00ff"`, `"\u0100"`, `"\ud800"`, `"\u004g"`, `"\U0041"`, `"\a"`, `"\0"`, `"\'"`, `"\B"`, "\"\n\"", "\"\t\"", "\"\r\"", "\"\x00\"", "\"\x1f\"", "\"\x80\"", "\"\xff\"", "\"\u00e9\"", `'a'`, `"a" b"`, `"` + strings.Repeat("a", 61) + `"`, `"` + strings.Repeat(`\u0061`, 61) + `"`,
		// bytes past 127, and blanks that are none
		"\x80", "\xff", ".\x80", "\x80.", ".a\x80", ".\u00e9", ".a\u00e9", "1\x80", "length\xff", ". \x80", ".\u00a0", "\u00a0.", "\u2003.", "\ufeff.", "\t.", ".\t", "\r.", ".\r", ".\r\n", "\v.", ".\f", "1\t|\t2", "1 |\t2", "[\t]", "[1\r]", "{\ta:1}", ".[\t1]", "if\t.\tthen\t.\telse\t.\tend",
		// names
		"." + strings.Repeat("k", 61), "." + strings.Repeat("k", 999), "." + strings.Repeat("k", 60) + "1", ".0", ".9a", ".0_", "$a", ".$a", ".a-b", ".a$", ".@a",
	} {
		refusesFilter(t, s)
	}
}

// padded answers s with blanks and bytes 10 behind it, of n bytes in all.
func padded(s string, n int) string {
	return s + strings.Repeat(" \n", n)[:n-len(s)]
}

func TestFiltersOfAThousandBytes(t *testing.T) {
	for _, s := range []string{".", ".a | 1", `"a"`, "if . then . else . end", "length"} {
		f, ok := impl.ReadFilter(s)
		if !ok {
			t.Fatal(s)
		}
		for n := 997; n <= 1000; n++ {
			says(t, padded(s, n), f)
			says(t, strings.Repeat("\n", n-len(s))+s, f)
			if odd := (n - len(s)) / 2; n-len(s) == 2*odd {
				says(t, strings.Repeat("(", odd)+s+strings.Repeat(")", odd), f)
			}
		}
		for _, n := range []int{1001, 1002, 1500, 4000, 4001, 100000} {
			refusesFilter(t, padded(s, n))
			refusesFilter(t, strings.Repeat(" ", n-len(s))+s)
		}
		refusesFilter(t, strings.Repeat("(", 600)+s+strings.Repeat(")", 600))
	}
	for n := range 1000 {
		refusesFilter(t, strings.Repeat("(", n))
		refusesFilter(t, strings.Repeat("[", n))
		refusesFilter(t, strings.Repeat("{a:", n))
		refusesFilter(t, strings.Repeat("if ", n))
		refusesFilter(t, strings.Repeat("(", n)+"."+strings.Repeat(")", n+1))
	}
	refusesFilter(t, strings.Repeat("(", 100000))
}

// row joins n of s.
func row(s string, n int, between string) string {
	return strings.Join(slices.Repeat([]string{s}, n), between)
}

func TestReadFiltersWithinTheLimits(t *testing.T) {
	// a path down a row has as many nodes as that has kids
	for _, sign := range []string{",", "+", "-", "|", "//"} {
		for n := 2; n <= 45; n++ {
			s := row(".", n, sign)
			if _, ok := impl.ReadFilter(s); ok != (n <= 12) {
				t.Error(n, s)
			}
		}
	}
	for n := range 40 {
		for _, s := range []string{strings.Repeat("[", n) + "." + strings.Repeat("]", n), "." + strings.Repeat("?", n), strings.Repeat("select(", n) + "." + strings.Repeat(")", n), strings.Repeat("{a:", n) + "." + strings.Repeat("}", n), strings.Repeat("([", n) + "." + strings.Repeat("])", n), strings.Repeat("if 1 then ", n) + "." + strings.Repeat(" else 2 end", n)} {
			if _, ok := impl.ReadFilter(s); ok != (n <= 11) {
				t.Error(n, s, ok)
			}
		}
	}
	// few on a path, so that the nodes count, and then those on a path
	eight := "[" + row(".", 4, ",") + "]"
	for n := 1; n <= 9; n++ {
		for extra := range 12 {
			s := row(eight, n, "|") + strings.Repeat("?", extra)
			nodes, deep := 8*n+n-1+extra, n+extra+4
			f, ok := impl.ReadFilter(s)
			if ok != (nodes <= 40 && deep <= 12) {
				t.Error(n, extra, s, len(f), ok)
			}
			if ok && len(f) != nodes {
				t.Error(len(f), nodes)
			}
		}
	}
	for n := 36; n <= 44; n++ {
		s := otherFilterText(manyNodes(n), int64(n-1))
		f, ok := impl.ReadFilter(s)
		if ok != (n <= 40) || ok && len(f) != n {
			t.Error(n, s, len(f))
		}
	}
	for n := 1; n <= 70; n++ {
		name := strings.Repeat("k", n)
		for _, s := range []string{"." + name, "{" + name + ":1}", `"` + name + `"`} {
			if _, ok := impl.ReadFilter(s); ok != (n <= 60) {
				t.Error(n, s)
			}
		}
	}
	for n := int64(-100); n <= 100; n++ {
		s := ".[" + strconv.FormatInt(n, 10) + "]"
		if _, ok := impl.ReadFilter(s); ok != (n >= -80 && n <= 80) {
			t.Error(s)
		}
	}
}

// piece tells signs, words, numbers and texts apart; a name stands with its point.
var piece = regexp.MustCompile(`^(?:\.[A-Za-z_][A-Za-z0-9_]*|\.\[|[A-Za-z0-9_]+|//|==|!=|<=|"(?:[^"\\]|\\.)*"|[-.\[\](){}:,|<+?])`)

// pieces answers what s is made of, without blanks; false when something else stands there.
func pieces(s string) ([]string, bool) {
	var all []string
	for {
		s = strings.TrimLeft(s, " \n")
		if s == "" {
			return all, true
		}
		p := piece.FindString(s)
		if p == "" {
			return nil, false
		}
		// digits end where letters begin; a word goes on with them
		if p[0] >= '0' && p[0] <= '9' {
			p = p[:len(p)-len(strings.TrimLeft(p, "0123456789"))]
		}
		s = s[len(p):]
		if p == "-" && s != "" && s[0] >= '0' && s[0] <= '9' && mayBegin(all) {
			digits := s[:len(s)-len(strings.TrimLeft(s, "0123456789"))]
			p, s = p+digits, s[len(digits):]
		}
		all = append(all, p)
	}
}

// mayBegin tells whether a filter, or the number of a place, may begin behind these pieces.
func mayBegin(ahead []string) bool {
	if len(ahead) == 0 {
		return true
	}
	return slices.Contains(strings.Fields("( [ .[ : | , // == != < <= + - if then else"), ahead[len(ahead)-1])
}

// otherFilter reads s by cutting its pieces where it binds least, over and over.
func otherFilter(s string) ([]impl.FNode, bool) {
	all, ok := pieces(s)
	if !ok || len(s) > 1000 {
		return nil, false
	}
	f, ok := cut(all)
	if !ok || !impl.FilterOk(f) {
		return nil, false
	}
	return f, true
}

// outside answers the places of those signs that stand in nothing else.
func outside(all []string, signs string) []int {
	var at []int
	deep := 0
	for i, p := range all {
		if i+1 < len(all) && all[i+1] == ":" {
			continue // a name of a map, whatever word it is
		}
		switch p {
		case "(", "[", ".[", "{", "if":
			deep++
		case ")", "]", "}", "end":
			deep--
		}
		if deep == 0 && slices.Contains(strings.Fields(signs), p) {
			at = append(at, i)
		}
	}
	return at
}

func cutAt(all []string, i int, k int64) ([]impl.FNode, bool) {
	a, ok := cut(all[:i])
	b, fine := cut(all[i+1:])
	return kind(k, a, b), ok && fine
}

func cut(all []string) ([]impl.FNode, bool) {
	if len(all) == 0 || len(all) > 500 {
		return nil, false
	}
	if at := outside(all, "|"); len(at) > 0 {
		return cutAt(all, at[0], impl.FlPipe)
	}
	if at := outside(all, ","); len(at) > 0 {
		return cutAt(all, at[len(at)-1], impl.FlComma)
	}
	if at := outside(all, "//"); len(at) > 0 {
		return cutAt(all, at[0], impl.FlAlt)
	}
	if at := outside(all, "== != < <="); len(at) > 0 {
		k := map[string]int64{"==": impl.FlEq, "!=": impl.FlNe, "<": impl.FlLt, "<=": impl.FlLe}[all[at[0]]]
		f, ok := cutAt(all, at[0], k)
		return f, ok && len(at) == 1
	}
	if at := outside(all, "+ -"); len(at) > 0 {
		last := at[len(at)-1]
		return cutAt(all, last, map[string]int64{"+": impl.FlAdd, "-": impl.FlSub}[all[last]])
	}
	if all[len(all)-1] == "?" {
		f, ok := cut(all[:len(all)-1])
		return kind(impl.FlTry, f), ok
	}
	return cutWhole(all)
}

// cutWhole reads what binds most.
func cutWhole(all []string) ([]impl.FNode, bool) {
	first, last := all[0], all[len(all)-1]
	if len(all) == 1 {
		return cutOne(first)
	}
	in := all[1 : len(all)-1]
	switch first + last {
	case "()":
		return cut(in)
	case ".[]":
		if len(in) == 0 {
			return kind(impl.FlEach), true
		}
		n, ok := decimal(in[0])
		return placed(n), ok && len(in) == 1
	case "[]":
		if len(in) == 0 {
			return kind(impl.FlList), true
		}
		f, ok := cut(in)
		return kind(impl.FlList, f), ok
	case "{}":
		return cutMap(in)
	case "select)":
		if len(in) == 0 || in[0] != "(" {
			return nil, false
		}
		f, ok := cut(in[1:])
		return kind(impl.FlSelect, f), ok
	case "ifend":
		return cutIf(in)
	}
	return nil, false
}

func cutMap(in []string) ([]impl.FNode, bool) {
	if len(in) == 0 {
		return table(nil), true
	}
	var names []string
	var kids [][]impl.FNode
	from := 0
	for _, to := range append(outside(in, ","), len(in)) {
		part := in[from:max(from, to)]
		if len(part) < 3 || part[1] != ":" || len(outside(part, "|")) > 0 {
			return nil, false
		}
		f, ok := cut(part[2:])
		if !ok {
			return nil, false
		}
		names, kids = append(names, part[0]), append(kids, f)
		from = to + 1
	}
	return table(names, kids...), true
}

func cutIf(in []string) ([]impl.FNode, bool) {
	at := outside(in, "then else")
	if len(at) != 2 || in[at[0]] != "then" || in[at[1]] != "else" {
		return nil, false
	}
	a, ok := cut(in[:at[0]])
	b, fine := cut(in[at[0]+1 : at[1]])
	c, good := cut(in[at[1]+1:])
	return kind(impl.FlIf, a, b, c), ok && fine && good
}

var decimals = regexp.MustCompile(`^(0|-?[1-9][0-9]*)$`)

func decimal(s string) (int64, bool) {
	if !decimals.MatchString(s) {
		return 0, false
	}
	n, err := strconv.ParseInt(s, 10, 64)
	return n, err == nil
}

func cutOne(p string) ([]impl.FNode, bool) {
	if k, ok := map[string]int64{".": impl.FlSelf, "length": impl.FlLength, "keys": impl.FlKeys, "not": impl.FlNot, "empty": impl.FlEmpty}[p]; ok {
		return kind(k), true
	}
	switch {
	case p == "null" || p == "true" || p == "false" || p[0] == '"':
		v, ok := impl.ReadJson(p)
		return constant(v), ok && (p[0] != '"' || json.Valid([]byte(p)))
	case p[0] == '.' && p != ".[":
		return named(p[1:]), true
	}
	n, ok := decimal(p)
	return count(n), ok
}

// looseFilter writes the node n of f with blanks and bytes 10 where they may stand or none, and with more parentheses than needed.
func looseFilter(r *rand.Rand, f []impl.FNode, n int64) string {
	var out strings.Builder
	all, _ := pieces(looseParens(r, f, n, 0))
	for i, p := range all {
		if strings.HasPrefix(p, `"`) {
			v, _ := impl.ReadJson(p)
			p = `"` + looseQuotes(r, v[0].S) + `"`
		}
		blanks := strings.Repeat([]string{" ", "\n", " \n"}[r.Intn(3)], r.Intn(3))
		if i > 0 && blanks == "" && runTogether(all[i-1], p) {
			blanks = " "
		}
		out.WriteString(blanks + p)
	}
	return out.String() + strings.Repeat(" \n", r.Intn(2))
}

// runTogether tells whether the two would be another one without a blank between.
func runTogether(a, b string) bool {
	const letters = "abcdefghijklmnopqrstuvwxyzABCDEFGHIJKLMNOPQRSTUVWXYZ_"
	if a == "." {
		return strings.Contains(letters, b[:1])
	}
	word := strings.Contains(letters, a[:1]) || a[0] == '.' && a[1] != '['
	return word && strings.Contains(letters+"0123456789", b[:1])
}

// looseParens puts parentheses where they must stand, and at times where they may.
func looseParens(r *rand.Rand, f []impl.FNode, n int64, least int) string {
	m := f[n]
	own := rank(m.Kind)
	ahead, behind := own, own+1
	switch m.Kind {
	case impl.FlPipe, impl.FlAlt:
		ahead, behind = own+1, own
	case impl.FlEq, impl.FlNe, impl.FlLt, impl.FlLe:
		ahead = own + 1
	}
	kid := func(i, least int) string { return looseParens(r, f, m.Kids[i], least) }
	s := ""
	switch {
	case m.Kind == impl.FlTry:
		s = kid(0, own) + " ?"
	case own < 5:
		text := ""
		for _, j := range joints {
			if j.kind == m.Kind {
				text = j.text
			}
		}
		s = kid(0, ahead) + text + kid(1, behind)
	case m.Kind == impl.FlList && len(m.Kids) == 1:
		s = "[" + kid(0, 0) + "]"
	case m.Kind == impl.FlSelect:
		s = "select(" + kid(0, 0) + ")"
	case m.Kind == impl.FlIf:
		s = "if " + kid(0, 0) + " then " + kid(1, 0) + " else " + kid(2, 0) + " end"
	case m.Kind == impl.FlMap:
		var row []string
		for i, name := range m.Names {
			row = append(row, name+":"+kid(i, 2))
		}
		s = "{" + strings.Join(row, ",") + "}"
	default:
		s = otherFilterText(f, n)
	}
	for own < least || r.Intn(6) == 0 {
		s, own = "("+s+")", 6
	}
	return s
}

func TestLooseFiltersComeBack(t *testing.T) {
	r := rand.New(rand.NewSource(64))
	back := 0
	for _, f := range someFilters(65, 3000) {
		for range 4 {
			s := looseFilter(r, f, int64(len(f)-1))
			if len(s) > 1000 {
				refusesFilter(t, s)
				continue
			}
			back++
			g, ok := impl.ReadFilter(s)
			if !ok || !sameFilter(f, g) {
				t.Fatalf("%v: %q, %v %v", f, s, g, ok)
			}
			if h, ok := otherFilter(s); !ok || !sameFilter(f, h) {
				t.Fatalf("the other reader: %v: %q, %v %v", f, s, h, ok)
			}
		}
	}
	if back < 8000 {
		t.Error(back)
	}
}

// readAlike asks that both readers say the same, and tells whether they read s.
func readAlike(t *testing.T, s string) bool {
	t.Helper()
	f, ok := impl.ReadFilter(s)
	g, fine := otherFilter(s)
	if ok != fine || !sameFilter(f, g) {
		t.Fatalf("%q: %v %v, by the other reader %v %v", s, f, ok, g, fine)
	}
	if ok {
		written := impl.FilterText(f)
		if again, ok := impl.ReadFilter(written); ok != (len(written) <= 1000) || ok && !sameFilter(f, again) {
			t.Fatalf("%q does not come back from its own text", s)
		}
	}
	return ok
}

const filterPieces = ". .a .[ ] [ ( ) { } a : , | // == < <= + - ? 1 -1 0 \"x\" length null select if then else end"

// Rows of up to three pieces, all that there are, with no blanks and with one between.
func TestShortRowsOfPieces(t *testing.T) {
	all := strings.Fields(filterPieces)
	read := 0
	var grow func(bare, spaced string, more int)
	grow = func(bare, spaced string, more int) {
		for _, p := range all {
			s, spaced := bare+p, spaced+" "+p
			if readAlike(t, spaced) {
				read++
			}
			if readAlike(t, s) {
				read++
			}
			if more > 1 {
				grow(s, spaced, more-1)
			}
		}
	}
	grow("", "", 3)
	if read < 500 {
		t.Error(read)
	}
}

func TestLongRowsOfPieces(t *testing.T) {
	r := rand.New(rand.NewSource(66))
	all := strings.Fields(filterPieces)
	operands := strings.Fields(". .a 1 -1 (.) [] (1,2) (1|2)")
	signs := strings.Fields("| , // == != < <= + - ? ?| ?- ?==")
	read, refused := 0, 0
	tell := func(s string) {
		if readAlike(t, s) {
			read++
		} else {
			refused++
		}
	}
	for range 30000 {
		var b strings.Builder
		for range 4 + r.Intn(6) {
			b.WriteString(all[r.Intn(len(all))] + []string{"", " ", "\n"}[r.Intn(3)])
		}
		tell(b.String())
	}
	for range 30000 {
		s := operands[r.Intn(len(operands))]
		for range 1 + r.Intn(7) {
			s += []string{"", " "}[r.Intn(2)] + signs[r.Intn(len(signs))] + []string{"", " "}[r.Intn(2)] + operands[r.Intn(len(operands))]
		}
		tell(s)
	}
	if read < 5000 || refused < 5000 {
		t.Error(read, refused)
	}
}

func changedFilter(r *rand.Rand, s string) string {
	const bytesToTry = ".[](){}:,|/=!<+-?\"\\ \n01aZ_\t\x00\x7f\x80"
	all := strings.Fields(filterPieces)
	for range 1 + r.Intn(2) {
		at := r.Intn(len(s) + 1)
		to := at + r.Intn(min(len(s)-at, 6)+1)
		switch r.Intn(6) {
		case 0:
			s = s[:at] + string(bytesToTry[r.Intn(len(bytesToTry))]) + s[at:]
		case 1:
			s = s[:at] + s[min(at+1, len(s)):]
		case 2:
			s = s[:at] + all[r.Intn(len(all))] + s[at:]
		case 3:
			s = s[:at] + s[to:]
		case 4:
			s = s[:to] + s[at:]
		case 5:
			s = s[:at] + "(" + s[at:to] + ")" + s[to:]
		}
	}
	return s
}

func TestFiltersReadAsTheOtherReaderReads(t *testing.T) {
	r := rand.New(rand.NewSource(67))
	read, refused := 0, 0
	for _, f := range someFilters(68, 3000) {
		s := looseFilter(r, f, int64(len(f)-1))
		if r.Intn(2) == 0 {
			s = impl.FilterText(f)
		}
		for range 10 {
			if readAlike(t, changedFilter(r, s)) {
				read++
			} else {
				refused++
			}
		}
	}
	if read < 2000 || refused < 2000 {
		t.Error(read, refused)
	}
}

// No pair of parentheses that is written could be left out.
func TestParenthesesStandWhereTheyMust(t *testing.T) {
	pairs := 0
	for _, f := range someFilters(69, 2000) {
		s := impl.FilterText(f)
		all, _ := pieces(s)
		if len(s) > 1000 {
			continue
		}
		for i, p := range all {
			if p != "(" || i > 0 && all[i-1] == "select" {
				continue
			}
			end := i + outside(all[i:], ")")[0]
			pairs++
			bare := strings.Join(slices.Concat(all[:i], all[i+1:end], all[end+1:]), " ")
			if g, ok := impl.ReadFilter(bare); ok && sameFilter(f, g) {
				t.Fatalf("%q, and %q says the same", s, bare)
			}
		}
	}
	if pairs < 1000 {
		t.Error(pairs)
	}
}

func TestEachByteInAFilter(t *testing.T) {
	for c := range 256 {
		raw := string([]byte{byte(c)})
		for _, s := range []string{
			raw, raw + ".", "." + raw, ".a" + raw, ".a" + raw + "b", "." + raw + "a", "1" + raw, raw + "1", "1" + raw + "2", "1 " + raw + " 2", "1 <" + raw + " 2", "1 /" + raw + " 2", "1 =" + raw + "2", "1 !" + raw + "2", "1 |" + raw + "2",
			"[" + raw + "]", ".[" + raw + "]", ".[1" + raw + "]", ".[" + raw + "1]", "{" + raw + "}", "{" + raw + ":1}", "{a" + raw + ":1}", "{a:" + raw + "1}", "{a:1" + raw + "b:2}", "(" + raw + ".)", "(." + raw, "[." + raw, "length" + raw, raw + "length", "select" + raw + "(.)", "select" + raw + ".)",
			"if" + raw + ". then . else . end", "if ." + raw + "then . else . end", "if . then" + raw + ". else . end", "if 1" + raw + "then 2 else 3 end", "if . then 1 else 2" + raw + "end", "if . then 1 else 2 end" + raw,
			`"` + raw + `"`, `"\` + raw + `"`, `"\u00` + raw + `1"`, `"\u000` + raw + `"`, `"a"` + raw, raw + `"a"`, "-" + raw, "-" + raw + "1", "1-" + raw + "1", ".a" + raw + "1", ".?" + raw,
		} {
			readAlike(t, s)
		}
		if c > 32 && c < 127 {
			continue
		}
		for _, s := range []string{
			raw + ".a", ".a" + raw, ".a" + raw + "|.b", ".a|" + raw + ".b", "[" + raw + ".a]", "[.a" + raw + "]", ".[" + raw + "]", ".[1" + raw + "]", "{a" + raw + ":1}", "{" + raw + "}", "{a:1," + raw + "b:2}", "(" + raw + ".a)", "select" + raw + "(.a)", "if" + raw + ".a then.b else.c end", "if.a" + raw + "then.b else.c end", ".a<" + raw + ".b", `"x"` + raw, raw + `"x"`, "1" + raw + "-1", "1" + raw, raw + "1", "length" + raw, ".a" + raw + "?", "?" + raw,
		} {
			blank := c == ' ' || c == '\n'
			if _, ok := impl.ReadFilter(s); ok != (blank && s[0] != '?') {
				t.Errorf("%q", s)
			}
		}
	}
}
