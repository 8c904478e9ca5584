package ddltext

import (
	"fmt"
	"maps"
	"math"
	"math/rand"
	"reflect"
	"slices"
	"strconv"
	"strings"
	"testing"

	"haulage/api"
	"haulage/ddl"
	"haulage/typ"
	"haulage/value"
)

var (
	tInt  = api.Type{Kind: api.KInt}
	tLong = api.Type{Kind: api.KLong}
	null  = api.Value{}
)

func text(most int) api.Type  { return api.Type{Kind: api.KText, Max: most} }
func bytes(most int) api.Type { return api.Type{Kind: api.KBytes, Max: most} }

func vInt(n int64) api.Value    { return api.Value{Kind: api.KInt, N: n} }
func vLong(n int64) api.Value   { return api.Value{Kind: api.KLong, N: n} }
func vText(s string) api.Value  { return api.Value{Kind: api.KText, S: s} }
func vBytes(s string) api.Value { return api.Value{Kind: api.KBytes, S: s} }

func repeated(length int) string { return strings.Repeat("a", length) }

func column(name string, t api.Type) api.Column { return api.Column{Name: name, Type: t} }

func nullable(c api.Column) api.Column {
	c.Null = true
	return c
}

func withDefault(c api.Column, v api.Value) api.Column {
	c.Default = v
	return c
}

// columns returns so many columns, c0 and so on.
func columns(count int) []api.Column {
	var l []api.Column
	for i := range count {
		l = append(l, column("c"+strconv.Itoa(i), tInt))
	}
	return l
}

// The changes, each with the fields of its Op.
func dCreate(table, key string, cols ...api.Column) api.DDL {
	return api.DDL{Op: api.DCreate, Table: table, Key: key, Cols: cols}
}

func dDrop(table string) api.DDL { return api.DDL{Op: api.DDrop, Table: table} }

func dRename(table, to string) api.DDL { return api.DDL{Op: api.DRename, Table: table, To: to} }

func dAdd(table string, c api.Column) api.DDL {
	return api.DDL{Op: api.DAdd, Table: table, Column: c.Name, Type: c.Type, Null: c.Null, Default: c.Default}
}

func dCut(table, column string) api.DDL {
	return api.DDL{Op: api.DCut, Table: table, Column: column}
}

func dCall(table, column, to string) api.DDL {
	return api.DDL{Op: api.DCall, Table: table, Column: column, To: to}
}

func dWiden(table, column string, t api.Type) api.DDL {
	return api.DDL{Op: api.DWiden, Table: table, Column: column, Type: t}
}

func dPreset(table, column string, v api.Value) api.DDL {
	return api.DDL{Op: api.DPreset, Table: table, Column: column, Default: v}
}

// ordinary returns a printable change of each Op, in the order of the Ops.
func ordinary() []api.DDL {
	return []api.DDL{
		dCreate("t", "a", column("a", tInt), nullable(withDefault(column("b", text(5)), vText("x")))),
		dDrop("t"),
		dRename("t", "u"),
		dAdd("t", nullable(withDefault(column("b", text(5)), vText("x")))),
		dCut("t", "b"),
		dCall("t", "b", "c"),
		dWiden("t", "b", text(9)),
		dPreset("t", "b", vText("x")),
	}
}

// noNames returns strings that are not names.
func noNames() []string {
	return []string{
		"", repeated(17), repeated(1000), "A", "aA", "1", "1a", "_", "_a", "a-b", "a.b", "a b", " a", "a ", "a\n", "\t", "é", "aé", "a\x00", "\xff", `"a"`, "a(", ",",
	}
}

// noTypes returns types that are not valid.
func noTypes() []api.Type {
	return []api.Type{
		{}, {Max: 5}, {Kind: -1}, {Kind: 5}, {Kind: 5, Max: 5}, {Kind: math.MaxInt}, {Kind: math.MinInt}, {Kind: api.KInt, Max: 1}, {Kind: api.KLong, Max: -1},
		text(0), text(-1), text(121), text(math.MaxInt), bytes(0), bytes(-5), bytes(121), bytes(1<<32 + 5),
	}
}

// noValues returns values that are not valid.
func noValues() []api.Value {
	return []api.Value{
		{N: 1}, {S: "x"}, {Kind: -1}, {Kind: 5}, {Kind: math.MaxInt}, {Kind: api.KInt, N: 1, S: "x"}, vInt(math.MaxInt32 + 1), vInt(math.MinInt32 - 1), vInt(math.MinInt64),
		{Kind: api.KLong, S: "x"}, {Kind: api.KText, N: 1}, vText(repeated(121)), vText("\xff"), {Kind: api.KBytes, N: 1, S: "x"}, vBytes(repeated(121)),
	}
}

// rightValues returns valid values of all Kinds, not null.
func rightValues() []api.Value {
	return []api.Value{
		vInt(0), vInt(5), vInt(-5), vInt(math.MaxInt32), vInt(math.MinInt32), vLong(0), vLong(5), vLong(-5), vLong(math.MaxInt64), vLong(math.MinInt64),
		vText(""), vText("x"), vText("null"), vText(" default "), vText(`a"b\c`), vText("\n\t\x00\x7f"), vText("é, (€) 😀"), vText(repeated(120)), vText(strings.Repeat("\x01", 120)),
		vBytes(""), vBytes("x"), vBytes("\x00\xff"), vBytes(strings.Repeat("\xfe", 120)),
	}
}

// rightTypes returns valid types of all Kinds.
func rightTypes() []api.Type {
	return []api.Type{tInt, tLong, text(1), text(5), text(99), text(120), bytes(1), bytes(10), bytes(120)}
}

// texts returns changes and, independently of what prints them, their texts.
func texts() map[string]api.DDL {
	a := column("a", tInt)
	return map[string]api.DDL{
		"create t (a int) key a":                                                                           dCreate("t", "a", a),
		"create t (a int, b text(5) null default \"x\") key a":                                             ordinary()[0],
		"create t (a int, a int) key b":                                                                    dCreate("t", "b", a, a),
		"create t (a long null, b bytes(120)) key b":                                                       dCreate("t", "b", nullable(column("a", tLong)), column("b", bytes(120))),
		"create t (a int default 0, b int default -5l) key a":                                              dCreate("t", "a", withDefault(a, vInt(0)), withDefault(column("b", tInt), vLong(-5))),
		"create t (a int default x\"00ff\", b text(1) default \"\") key c":                                 dCreate("t", "c", withDefault(a, vBytes("\x00\xff")), withDefault(column("b", text(1)), vText(""))),
		"create t (c0 int, c1 int, c2 int, c3 int, c4 int, c5 int, c6 int, c7 int, c8 int, c9 int) key c9": dCreate("t", "c9", columns(10)...),
		"create key (key int, null int null, default int default 1) key key":                               dCreate("key", "key", column("key", tInt), nullable(column("null", tInt)), withDefault(column("default", tInt), vInt(1))),
		"drop t":                                  dDrop("t"),
		"drop drop":                               dDrop("drop"),
		"drop aaaaaaaaaaaaaaaa":                   dDrop(repeated(16)),
		"drop z9_":                                dDrop("z9_"),
		"rename t to u":                           dRename("t", "u"),
		"rename t to t":                           dRename("t", "t"),
		"rename to to to":                         dRename("to", "to"),
		"add t b int":                             dAdd("t", column("b", tInt)),
		"add t b long null":                       dAdd("t", nullable(column("b", tLong))),
		"add t b int default 5":                   dAdd("t", withDefault(column("b", tInt), vInt(5))),
		"add t b int default -5l":                 dAdd("t", withDefault(column("b", tInt), vLong(-5))),
		"add t b text(5) default \"x\"":           dAdd("t", withDefault(column("b", text(5)), vText("x"))),
		"add t b bytes(4) default x\"00ff\"":      dAdd("t", withDefault(column("b", bytes(4)), vBytes("\x00\xff"))),
		"add t b int null default 5":              dAdd("t", nullable(withDefault(column("b", tInt), vInt(5)))),
		"add t b long null default 5l":            dAdd("t", nullable(withDefault(column("b", tLong), vLong(5)))),
		"add t b text(120) null default \"null\"": dAdd("t", nullable(withDefault(column("b", text(120)), vText("null")))),
		"add t b bytes(1) null default x\"\"":     dAdd("t", nullable(withDefault(column("b", bytes(1)), vBytes("")))),
		"add null null text(5) null default \"a \\\" , \\n)\"": dAdd("null", nullable(withDefault(column("null", text(5)), vText("a \" , \n)")))),
		"cut t b":                             dCut("t", "b"),
		"cut cut cut":                         dCut("cut", "cut"),
		"call t b to c":                       dCall("t", "b", "c"),
		"call to to to to":                    dCall("to", "to", "to"),
		"widen t b text(9)":                   dWiden("t", "b", text(9)),
		"widen t b long":                      dWiden("t", "b", tLong),
		"widen int long bytes(120)":           dWiden("int", "long", bytes(120)),
		"preset t b null":                     dPreset("t", "b", null),
		"preset t b -5l":                      dPreset("t", "b", vLong(-5)),
		"preset t b -2147483648":              dPreset("t", "b", vInt(math.MinInt32)),
		"preset t b 9223372036854775807l":     dPreset("t", "b", vLong(math.MaxInt64)),
		"preset t b \"x\"":                    dPreset("t", "b", vText("x")),
		"preset t b x\"0a\"":                  dPreset("t", "b", vBytes("\n")),
		"preset null null null":               dPreset("null", "null", null),
		"preset preset default \"default 1\"": dPreset("preset", "default", vText("default 1")),
	}
}

// changes returns many printable changes, no two of them equal: each Op with
// each of several names, types and values, and columns of all forms.
func changes() []api.DDL {
	var l []api.DDL
	for _, s := range slices.Sorted(maps.Keys(texts())) {
		l = append(l, texts()[s])
	}
	names := []string{"t", "b", "null", "default", "key", "to", "create", "x", "l", "int", "text", "a1", repeated(15), repeated(16)}
	for _, a := range names {
		l = append(l, dDrop(a), dCut(a, a), dCall(a, a, a), dCreate(a, a, column(a, tInt), nullable(column(a, tInt))))
		for _, b := range names {
			l = append(l, dRename(a, b), dCut(a, b), dCall(a, b, "t"), dCall("t", a, b), dAdd(a, column(b, tInt)), dCreate("t", a, column(b, tInt)))
			l = append(l, dCreate(a, b, column("b", tInt)), dCreate("t", "b", column(a, tInt), column(b, tInt)))
			l = append(l, dWiden(a, b, tInt), dPreset(a, b, null))
		}
	}
	var all []api.Column
	for _, t := range rightTypes() {
		l = append(l, dWiden("t", "b", t))
		for _, v := range append(rightValues(), null) {
			c := withDefault(column("b", t), v)
			all = append(all, c, nullable(c))
		}
	}
	for _, v := range rightValues() {
		l = append(l, dPreset("t", "b", v))
	}
	for i, c := range all {
		l = append(l, dAdd("t", c), dCreate("t", "b", c), dCreate("t", "b", c, all[(i*7+3)%len(all)]))
		l = append(l, dCreate("t", "b", slices.Repeat([]api.Column{c}, 1+i%10)...))
	}
	return distinct(l)
}

func distinct(l []api.DDL) []api.DDL {
	var kept []api.DDL
	found := map[string]bool{}
	for _, d := range l {
		if whole := fmt.Sprintf("%#v", d); !found[whole] {
			found[whole] = true
			kept = append(kept, d)
		}
	}
	return kept
}

// forms are the chapter's table, each with the parts of its text: a column as
// C, columns with commas between them as L.
var forms = map[int]string{
	api.DCreate: "create Table ( L ) key Key",
	api.DDrop:   "drop Table",
	api.DRename: "rename Table to To",
	api.DAdd:    "add Table C",
	api.DCut:    "cut Table Column",
	api.DCall:   "call Table Column to To",
	api.DWiden:  "widen Table Column Type",
	api.DPreset: "preset Table Column Default",
}

func typeText(t api.Type) string {
	s, _ := typ.Print(t)
	return s
}

func valueText(v api.Value) string {
	s, _ := value.Print(v)
	return s
}

func columnTokens(c api.Column) []string {
	l := []string{c.Name, typeText(c.Type)}
	if c.Null {
		l = append(l, "null")
	}
	if c.Default.Kind != api.KNull {
		l = append(l, "default", valueText(c.Default))
	}
	return l
}

// tokens returns the words, punctuation characters, types and values of the
// text of d, which is printable.
func tokens(d api.DDL) []string {
	var l []string
	for _, part := range strings.Fields(forms[d.Op]) {
		switch part {
		case "Table":
			l = append(l, d.Table)
		case "Column":
			l = append(l, d.Column)
		case "To":
			l = append(l, d.To)
		case "Key":
			l = append(l, d.Key)
		case "Type":
			l = append(l, typeText(d.Type))
		case "Default":
			l = append(l, valueText(d.Default))
		case "C":
			l = append(l, columnTokens(api.Column{Name: d.Column, Type: d.Type, Null: d.Null, Default: d.Default})...)
		case "L":
			for i, c := range d.Cols {
				if i > 0 {
					l = append(l, ",")
				}
				l = append(l, columnTokens(c)...)
			}
		default:
			l = append(l, part)
		}
	}
	return l
}

// joined returns the tokens with what gap returns ahead of each of them.
func joined(l []string, gap func(before, token string) string) string {
	s, before := "", ""
	for _, token := range l {
		s += gap(before, token) + token
		before = token
	}
	return s
}

// oneSpace is the gap of the text as the chapter has it.
func oneSpace(before, token string) string {
	if before == "" || before == "(" || token == "," || token == ")" {
		return ""
	}
	return " "
}

const letters = "abcdefghijklmnopqrstuvwxyz"

const nameBytes = letters + "0123456789_"

// leastSpace is a blank only where two tokens would become one without it.
func leastSpace(before, token string) string {
	if before != "" && strings.Contains(nameBytes, before[len(before)-1:]) && strings.Contains(nameBytes, token[:1]) {
		return "\n"
	}
	return ""
}

// firstOf returns the longest prefix of s of these bytes.
func firstOf(s, bytes string) string {
	return s[:len(s)-len(strings.TrimLeft(s, bytes))]
}

func firstWord(s string) string {
	if firstOf(s, letters) == "" {
		return ""
	}
	return firstOf(s, nameBytes)
}

// readByDefinition says what Parse returns: the parts of a form are a list of
// what must still stand there, and a column adds its own parts to it.
func readByDefinition(s string) (api.DDL, int, api.Errno) {
	var d api.DDL
	var cols []api.Column
	at := len(firstOf(s, " \t\n"))
	first := firstWord(s[at:])
	for op, form := range forms {
		if strings.HasPrefix(form, first+" ") {
			d.Op = op
		}
	}
	if d.Op == 0 {
		return api.DDL{}, at, api.ErrForm
	}
	parts := strings.Fields(forms[d.Op])
	for len(parts) > 0 {
		part := parts[0]
		parts = parts[1:]
		at += len(firstOf(s[at:], " \t\n"))
		word := firstWord(s[at:])
		size, e := 0, api.OK
		switch part {
		case "L":
			parts = append([]string{"C", "more"}, parts...)
		case "C":
			cols = append(cols, api.Column{})
			parts = append([]string{"Name", "Ctype", "Cnull", "Cdefault"}, parts...)
		case "more":
			if strings.HasPrefix(s[at:], ",") {
				size = 1
				parts = append([]string{"below10", "C", "more"}, parts...)
			}
		case "below10":
			if len(cols) >= 10 {
				e = api.ErrLimit
			}
		case "Table", "Column", "To", "Key", "Name":
			place := map[string]*string{"Table": &d.Table, "Column": &d.Column, "To": &d.To, "Key": &d.Key}[part]
			if part == "Name" {
				place = &cols[len(cols)-1].Name
			}
			if word == "" {
				e = api.ErrForm
			} else if len(word) > 16 {
				e = api.ErrName
			}
			*place, size = word, len(word)
		case "Type":
			d.Type, size, e = typ.Read(s[at:])
		case "Ctype":
			cols[len(cols)-1].Type, size, e = typ.Read(s[at:])
		case "Default":
			d.Default, size, e = value.Read(s[at:])
		case "Cnull":
			if word == "null" {
				size = 4
				cols[len(cols)-1].Null = true
			}
		case "Cdefault":
			if word == "default" {
				size = 7
				parts = append([]string{"Cvalue"}, parts...)
			}
		case "Cvalue":
			var v api.Value
			v, size, e = value.Read(s[at:])
			if e == api.OK && v.Kind == api.KNull {
				e = api.ErrNull
			}
			cols[len(cols)-1].Default = v
		case "(", ")":
			size = 1
			if !strings.HasPrefix(s[at:], part) {
				e = api.ErrForm
			}
		default:
			size = len(part)
			if word != part {
				e = api.ErrForm
			}
		}
		if e != api.OK {
			return api.DDL{}, at, e
		}
		at += size
	}
	at += len(firstOf(s[at:], " \t\n"))
	if at < len(s) {
		return api.DDL{}, at, api.ErrExtra
	}
	if d.Op == api.DAdd {
		d.Column, d.Type, d.Null, d.Default = cols[0].Name, cols[0].Type, cols[0].Null, cols[0].Default
		cols = nil
	}
	d.Cols = cols
	return d, at, api.OK
}

// checkParse checks all results, which are zero if there is an error.
func checkParse(t *testing.T, s string, want api.DDL, wantAt int, wantE api.Errno) {
	t.Helper()
	d, at, e := Parse(s)
	if !ddl.Same(d, want) || at != wantAt || e != wantE {
		t.Errorf("Parse(%q) is %v, %d, %d, want %v, %d, %d", s, d, at, e, want, wantAt, wantE)
	}
	if e != api.OK && !reflect.DeepEqual(d, api.DDL{}) {
		t.Errorf("Parse(%q) returns %v beside the error %d", s, d, e)
	}
}

func checkRejected(t *testing.T, s string, at int, e api.Errno) {
	t.Helper()
	checkParse(t, s, api.DDL{}, at, e)
}

func checkPrint(t *testing.T, d api.DDL, want string, wantE api.Errno) {
	t.Helper()
	got, e := Print(d)
	if got != want || e != wantE {
		t.Errorf("Print(%v) is %q, %d, want %q, %d", d, got, e, want, wantE)
	}
	if can := Can(d); can != (wantE == api.OK) {
		t.Errorf("Can(%v) is %t", d, can)
	}
}

func checkNotPrintable(t *testing.T, what string, d api.DDL) {
	t.Helper()
	if got, e := Print(d); got != "" || e != api.ErrArg {
		t.Errorf("%s: Print(%v) is %q, %d", what, d, got, e)
	}
	if Can(d) {
		t.Errorf("%s: Can(%v) is true", what, d)
	}
}

// checkReading holds Parse against the definition, and what it accepts against
// P10.3.
func checkReading(t *testing.T, s string) {
	t.Helper()
	want, at, e := readByDefinition(s)
	checkParse(t, s, want, at, e)
	d, _, e := Parse(s)
	if e != api.OK {
		return
	}
	printed, e := Print(d)
	if !Can(d) || e != api.OK {
		t.Errorf("Parse(%q) is %v, which is not printable", s, d)
	}
	checkParse(t, printed, d, len(printed), api.OK)
}

// P10.1 and P10.2: the texts of changes of each Op, the chapter's example
// among them.
func TestPrintAndParse(t *testing.T) {
	for s, d := range texts() {
		checkPrint(t, d, s, api.OK)
		checkParse(t, s, d, len(s), api.OK)
	}
	for i, d := range ordinary() {
		if d.Op != i+1 || !Can(d) {
			t.Errorf("Can(%v) is false", d)
		}
	}
	checkRejected(t, "add t b text(0)", 8, api.ErrRange)
}

// P10.1: many changes, held against the chapter's table.
func TestPrintAgainstTheDefinition(t *testing.T) {
	for _, d := range changes() {
		checkPrint(t, d, joined(tokens(d), oneSpace), api.OK)
	}
}

// P10.1: columns with and without null, and with each Kind of default.
func TestColumns(t *testing.T) {
	for _, c := range []struct {
		c    api.Column
		text string
	}{
		{column("a", tInt), "a int"},
		{column("a", bytes(7)), "a bytes(7)"},
		{nullable(column("a", tLong)), "a long null"},
		{withDefault(column("a", tInt), vInt(-1)), "a int default -1"},
		{withDefault(column("a", tLong), vLong(1)), "a long default 1l"},
		{withDefault(column("a", text(2)), vText("\"")), `a text(2) default "\""`},
		{withDefault(column("a", bytes(2)), vBytes("\"")), `a bytes(2) default x"22"`},
		{nullable(withDefault(column("a", tInt), vInt(-1))), "a int null default -1"},
		{nullable(withDefault(column("a", tLong), vLong(1))), "a long null default 1l"},
		{nullable(withDefault(column("a", text(2)), vText(""))), `a text(2) null default ""`},
		{nullable(withDefault(column("a", bytes(2)), vBytes(""))), `a bytes(2) null default x""`},
		{withDefault(column("a", tInt), vText("does not fit")), `a int default "does not fit"`},
	} {
		for s, d := range map[string]api.DDL{
			"add t " + c.text:                                     dAdd("t", c.c),
			"create t (" + c.text + ") key a":                     dCreate("t", "a", c.c),
			"create t (" + c.text + ", b int) key b":              dCreate("t", "b", c.c, column("b", tInt)),
			"create t (b int, " + c.text + ") key b":              dCreate("t", "b", column("b", tInt), c.c),
			"create t (" + c.text + ", " + c.text + ") key other": dCreate("t", "other", c.c, c.c),
		} {
			checkPrint(t, d, s, api.OK)
			checkParse(t, s, d, len(s), api.OK)
		}
	}
}

// P10.1
func TestNumberOfColumns(t *testing.T) {
	for count := range 14 {
		d := dCreate("t", "c0", columns(count)...)
		if count == 0 || count > 10 {
			checkNotPrintable(t, strconv.Itoa(count)+" columns", d)
			continue
		}
		checkPrint(t, d, joined(tokens(d), oneSpace), api.OK)
	}
	checkNotPrintable(t, "empty Cols", api.DDL{Op: api.DCreate, Table: "t", Key: "a", Cols: []api.Column{}})
	checkNotPrintable(t, "100000 columns", dCreate("t", "a", slices.Repeat(columns(1), 100000)...))
}

// P10.1: changes that are not well formed.
func TestPrintRejectsWhatIsNotWellFormed(t *testing.T) {
	for _, op := range []int{math.MinInt, -1, 0, 9, 10, 1<<32 + api.DDrop, math.MaxInt} {
		checkNotPrintable(t, "Op", api.DDL{Op: op})
		checkNotPrintable(t, "Op", api.DDL{Op: op, Table: "t"})
	}
	checkNotPrintable(t, "zero", api.DDL{})
	for _, d := range ordinary() {
		for field, alter := range map[string]func(d *api.DDL){
			"Column":  func(d *api.DDL) { d.Column = "x" },
			"To":      func(d *api.DDL) { d.To = "x" },
			"Key":     func(d *api.DDL) { d.Key = "x" },
			"Type":    func(d *api.DDL) { d.Type = tInt },
			"Null":    func(d *api.DDL) { d.Null = true },
			"Default": func(d *api.DDL) { d.Default = vInt(1) },
			"Cols":    func(d *api.DDL) { d.Cols = columns(1) },
		} {
			x := d
			alter(&x)
			if ddl.Plain(x) != Can(x) {
				t.Errorf("%s: Can(%v) is %t", field, x, Can(x))
			}
			if !ddl.Plain(x) {
				checkNotPrintable(t, field, x)
			}
		}
		d.Cols = append([]api.Column{}, d.Cols...)
		if !Can(d) {
			t.Errorf("Can(%v), with empty Cols, is false", d)
		}
	}
	checkNotPrintable(t, "Id", dCreate("t", "a", api.Column{Id: 1, Name: "a", Type: tInt}))
	checkNotPrintable(t, "Id", dCreate("t", "a", column("a", tInt), api.Column{Id: 1, Name: "b", Type: tInt}))
}

// P10.1: each name of each Op.
func TestPrintRejectsNames(t *testing.T) {
	for _, n := range noNames() {
		for _, d := range []api.DDL{
			dCreate(n, "a", columns(2)...),
			dCreate("t", n, columns(2)...),
			dCreate("t", n, column(n, tInt)),
			dCreate("t", "a", column(n, tInt), column("b", tInt)),
			dCreate("t", "a", column("b", tInt), column(n, tInt), column("c", tInt)),
			dCreate("t", "a", append(columns(9), column(n, tInt))...),
			dDrop(n),
			dRename(n, "u"),
			dRename("t", n),
			dAdd(n, column("b", tInt)),
			dAdd("t", column(n, tInt)),
			dCut(n, "b"),
			dCut("t", n),
			dCall(n, "b", "c"),
			dCall("t", n, "c"),
			dCall("t", "b", n),
			dWiden(n, "b", tInt),
			dWiden("t", n, tInt),
			dPreset(n, "b", null),
			dPreset("t", n, null),
		} {
			checkNotPrintable(t, "name", d)
		}
	}
}

// P10.1: each type and each value of each Op.
func TestPrintRejectsTypesAndValues(t *testing.T) {
	for _, x := range noTypes() {
		c := column("b", x)
		for _, d := range []api.DDL{
			dAdd("t", c), dAdd("t", nullable(c)), dWiden("t", "b", x),
			dCreate("t", "b", c), dCreate("t", "a", c, column("a", tInt)), dCreate("t", "a", column("a", tInt), nullable(c)), dCreate("t", "a", append(columns(9), c)...),
		} {
			checkNotPrintable(t, "type", d)
		}
	}
	for _, v := range noValues() {
		c := withDefault(column("b", text(5)), v)
		for _, d := range []api.DDL{
			dAdd("t", c), dAdd("t", nullable(c)), dPreset("t", "b", v),
			dCreate("t", "b", c), dCreate("t", "a", c, column("a", tInt)), dCreate("t", "a", column("a", tInt), nullable(c)), dCreate("t", "a", append(columns(9), c)...),
		} {
			checkNotPrintable(t, "value", d)
		}
	}
}

// P10.2: blanks of each kind, and none where none is needed.
func TestParseBlanks(t *testing.T) {
	create, add := ordinary()[0], ordinary()[3]
	for _, c := range []struct {
		s string
		d api.DDL
	}{
		{" drop t", dDrop("t")},
		{"drop t ", dDrop("t")},
		{"\tdrop\tt\t", dDrop("t")},
		{"\n\n drop \t\n t\n \t", dDrop("t")},
		{"create t(a int,b text(5)null default\"x\")key a", create},
		{"create\nt\n(\na\nint\n,\nb\ntext(5)\nnull\ndefault\n\"x\"\n)\nkey\na\n", create},
		{"  create  t  (  a  int  ,  b  text(5)  null  default  \"x\"  )  key  a  ", create},
		{"\t create \n\tt(\t\ta int\t,b\ttext(5) null\tdefault\t\"x\"\t)\tkey\ta", create},
		{"create t(a int default-5,b int default 5l)key a", dCreate("t", "a", withDefault(column("a", tInt), vInt(-5)), withDefault(column("b", tInt), vLong(5)))},
		{"create t(a int null,b bytes(1)default x\"\")key a", dCreate("t", "a", nullable(column("a", tInt)), withDefault(column("b", bytes(1)), vBytes("")))},
		{"add t b text(5)null default\"x\"", add},
		{"add\tt\nb text(5)\n\nnull\t\tdefault  \"x\"\n", add},
		{"rename\n\tt to\t\tu", dRename("t", "u")},
		{"cut  t\tb\n", dCut("t", "b")},
		{"call\tt\tb\tto\tc", dCall("t", "b", "c")},
		{"widen  t  b  text(9)  ", dWiden("t", "b", text(9))},
		{"preset t b\"x\"", dPreset("t", "b", vText("x"))},
		{"preset t bx\"00\"", dPreset("t", "bx", vText("00"))},
		{"preset t b-5", dPreset("t", "b", vInt(-5))},
		{"preset\nt\nb\nnull\n", dPreset("t", "b", null)},
		{strings.Repeat(" \t\n", 10000) + "drop" + strings.Repeat("\n\t ", 10000) + "t" + strings.Repeat(" ", 10000), dDrop("t")},
	} {
		checkParse(t, c.s, c.d, len(c.s), api.OK)
	}
	for b := range 256 {
		s := string([]byte{byte(b)})
		blank := s == " " || s == "\t" || s == "\n"
		if d, at, e := Parse("drop" + s + "t" + s); blank && (e != api.OK || at != 7 || d.Table != "t") || !blank && e == api.OK {
			t.Errorf("between words the byte %d gives %v, %d, %d", b, d, at, e)
		}
		if strings.Contains(nameBytes, s) {
			continue
		}
		if _, at, e := Parse("drop t" + s); blank && (e != api.OK || at != 7) || !blank && (e != api.ErrExtra || at != 6) {
			t.Errorf("behind the end the byte %d gives %d, %d", b, at, e)
		}
		if _, at, e := Parse(s); blank && (e != api.ErrForm || at != 1) || !blank && (e != api.ErrForm || at != 0) {
			t.Errorf("alone the byte %d gives %d, %d", b, at, e)
		}
	}
}

// P10.2: texts that are rejected, with the index and the error of each.
func TestParseRejects(t *testing.T) {
	for _, c := range []struct {
		s  string
		at int
		e  api.Errno
	}{
		{"", 0, api.ErrForm},
		{" ", 1, api.ErrForm},
		{" \t\n", 3, api.ErrForm},
		{"\r", 0, api.ErrForm},
		{" (", 1, api.ErrForm},
		{"dropp t", 0, api.ErrForm},
		{"dro t", 0, api.ErrForm},
		{"drop_ t", 0, api.ErrForm},
		{"drop1 t", 0, api.ErrForm},
		{"dropt", 0, api.ErrForm},
		{"Drop t", 0, api.ErrForm},
		{"DROP t", 0, api.ErrForm},
		{"key t", 0, api.ErrForm},
		{"to t", 0, api.ErrForm},
		{"null", 0, api.ErrForm},
		{"default", 0, api.ErrForm},
		{"t drop", 0, api.ErrForm},
		{"(drop t)", 0, api.ErrForm},
		{"5", 0, api.ErrForm},
		{"\n creat t (a int) key a", 2, api.ErrForm},
		{repeated(17), 0, api.ErrForm},

		{"drop", 4, api.ErrForm},
		{"drop ", 5, api.ErrForm},
		{" drop \n ", 8, api.ErrForm},
		{"drop-t", 4, api.ErrForm},
		{"drop T", 5, api.ErrForm},
		{"drop 1t", 5, api.ErrForm},
		{"drop _t", 5, api.ErrForm},
		{"drop \"t\"", 5, api.ErrForm},
		{"drop " + repeated(17), 5, api.ErrName},
		{"drop " + repeated(17) + " x", 5, api.ErrName},
		{"drop  " + repeated(100000), 6, api.ErrName},
		{"drop t x", 7, api.ErrExtra},
		{"drop t\n\t x ", 9, api.ErrExtra},
		{"drop tT", 6, api.ErrExtra},
		{"drop t-", 6, api.ErrExtra},
		{"drop t;", 6, api.ErrExtra},
		{"drop t\r\n", 6, api.ErrExtra},
		{"drop t\u00a0", 6, api.ErrExtra},
		{"drop t drop t", 7, api.ErrExtra},
		{"drop t \xff", 7, api.ErrExtra},

		{"rename t u", 9, api.ErrForm},
		{"rename t", 8, api.ErrForm},
		{"rename t too u", 9, api.ErrForm},
		{"rename t t u", 9, api.ErrForm},
		{"rename t TO u", 9, api.ErrForm},
		{"rename t " + repeated(17), 9, api.ErrForm},
		{"rename t to", 11, api.ErrForm},
		{"rename to u", 10, api.ErrForm},
		{"rename t to 5", 12, api.ErrForm},
		{"rename t to " + repeated(17), 12, api.ErrName},
		{"rename t to u v", 14, api.ErrExtra},
		{"rename t to u,", 13, api.ErrExtra},

		{"cut t", 5, api.ErrForm},
		{"cut t b c", 8, api.ErrExtra},
		{"cut t b int", 8, api.ErrExtra},
		{"call t b", 8, api.ErrForm},
		{"call t to c", 10, api.ErrForm},
		{"call t b c", 9, api.ErrForm},
		{"call t b to c d", 14, api.ErrExtra},

		{"widen t b", 9, api.ErrForm},
		{"widen t int", 11, api.ErrForm},
		{"widen t b text", 10, api.ErrForm},
		{"widen t b text (5)", 10, api.ErrForm},
		{"widen t b text( 5)", 10, api.ErrForm},
		{"widen t b text(121)", 10, api.ErrRange},
		{"widen t b long null", 15, api.ErrExtra},
		{"widen t b long default 5l", 15, api.ErrExtra},
		{"widen t b int(5)", 13, api.ErrExtra},
		{"widen t b text(5)5", 17, api.ErrExtra},

		{"preset t b", 10, api.ErrForm},
		{"preset t null", 13, api.ErrForm},
		{"preset t b default 5", 11, api.ErrForm},
		{"preset t b nul", 11, api.ErrForm},
		{"preset t b nullnull", 11, api.ErrForm},
		{"preset t b null null", 16, api.ErrExtra},
		{"preset t b 5 5", 13, api.ErrExtra},
		{"preset t b 5x", 12, api.ErrExtra},
		{"preset t b 5ll", 13, api.ErrExtra},
		{"preset t b 5 l", 13, api.ErrExtra},
		{"preset t b5", 11, api.ErrForm},
		{"preset t bx\"00", 11, api.ErrForm},
		{"preset t b \"a\"\"b\"", 14, api.ErrExtra},
		{"preset t b - 5", 11, api.ErrForm},
		{"preset t b \" \t\"", 11, api.ErrForm},
	} {
		checkRejected(t, c.s, c.at, c.e)
	}
}

// P10.2: faults of columns, in DAdd and in DCreate.
func TestParseRejectsColumns(t *testing.T) {
	for _, c := range []struct {
		s   string
		add int
		e   api.Errno
		// What DCreate returns instead, if it differs.
		create int
		eC     api.Errno
	}{
		{"b", 7, api.ErrForm, 0, 0},
		{"b null", 8, api.ErrForm, 0, 0},
		{"int", 9, api.ErrForm, 0, 0},
		{"b intnull", 8, api.ErrForm, 0, 0},
		{"b int5", 8, api.ErrForm, 0, 0},
		{"b in", 8, api.ErrForm, 0, 0},
		{"b text(0)", 8, api.ErrRange, 0, 0},
		{"b text(01)", 8, api.ErrForm, 0, 0},
		{"b text(99999999999999999999)", 8, api.ErrRange, 0, 0},
		{"b int default", 19, api.ErrForm, 0, 0},
		{"b int default ", 20, api.ErrForm, 0, 0},
		{"b int default null", 20, api.ErrNull, 0, 0},
		{"b int default\n\tnull", 21, api.ErrNull, 0, 0},
		{"b int null default null", 25, api.ErrNull, 0, 0},
		{"b int default null null", 20, api.ErrNull, 0, 0},
		{"b int default nullx", 20, api.ErrForm, 0, 0},
		{"b int default default", 20, api.ErrForm, 0, 0},
		{"b int default 01", 20, api.ErrForm, 0, 0},
		{"b int default 2147483648", 20, api.ErrRange, 0, 0},
		{"b int default \"", 20, api.ErrForm, 0, 0},
		{"b int default x\"0\"", 20, api.ErrForm, 0, 0},
		{"b int default \"" + repeated(121) + "\"", 20, api.ErrLimit, 0, 0},
		{"b int default 5 null", 22, api.ErrExtra, 22, api.ErrForm},
		{"b int default 5 default 5", 22, api.ErrExtra, 22, api.ErrForm},
		{"b int null null", 17, api.ErrExtra, 17, api.ErrForm},
		{"b int null default 5 null", 27, api.ErrExtra, 27, api.ErrForm},
		{"b int null default 5 default 6", 27, api.ErrExtra, 27, api.ErrForm},
		{"b int nul", 12, api.ErrExtra, 12, api.ErrForm},
		{"b int nullx", 12, api.ErrExtra, 12, api.ErrForm},
		{"b int Null", 12, api.ErrExtra, 12, api.ErrForm},
		{"b int defaul 5", 12, api.ErrExtra, 12, api.ErrForm},
		{"b int default5", 12, api.ErrExtra, 12, api.ErrForm},
		{"b int default_ 5", 12, api.ErrExtra, 12, api.ErrForm},
		{"b int nulldefault 5", 12, api.ErrExtra, 12, api.ErrForm},
		{"b int 5", 12, api.ErrExtra, 12, api.ErrForm},
		{"b int \"x\"", 12, api.ErrExtra, 12, api.ErrForm},
		{"b int default 5l5", 22, api.ErrExtra, 22, api.ErrForm},
		{"b int(5)", 11, api.ErrExtra, 11, api.ErrForm},
		{"b text(5)(", 15, api.ErrExtra, 15, api.ErrForm},
		{repeated(17) + " int", 6, api.ErrName, 0, 0},
		{"5 int", 6, api.ErrForm, 0, 0},
	} {
		checkRejected(t, "add t "+c.s, c.add, c.e)
		if c.eC == api.OK {
			c.create, c.eC = c.add, c.e
		}
		for _, start := range []string{"create t (", "create t(", "create t (a int, ", "create t (a int null default 5,", "create t ( c int,c int , "} {
			for _, end := range []string{"", ") key a", ", c int) key a"} {
				checkRejected(t, start+c.s+end, c.create-len("add t ")+len(start), c.eC)
			}
		}
	}
}

// P10.2: faults of DCreate.
func TestParseRejectsCreate(t *testing.T) {
	for _, c := range []struct {
		s  string
		at int
		e  api.Errno
	}{
		{"create", 6, api.ErrForm},
		{"create (a int) key a", 7, api.ErrForm},
		{"create t", 8, api.ErrForm},
		{"create t ", 9, api.ErrForm},
		{"create t a int) key a", 9, api.ErrForm},
		{"create t [a int) key a", 9, api.ErrForm},
		{"create t ((a int)) key a", 10, api.ErrForm},
		{"create t (", 10, api.ErrForm},
		{"create t ()", 10, api.ErrForm},
		{"create t ( ) key a", 11, api.ErrForm},
		{"create t (,a int) key a", 10, api.ErrForm},
		{"create t (a)", 11, api.ErrForm},
		{"create t (a int", 15, api.ErrForm},
		{"create t (a int ", 16, api.ErrForm},
		{"create t (a int key a", 16, api.ErrForm},
		{"create t (a int] key a", 15, api.ErrForm},
		{"create t (a int; b int) key a", 15, api.ErrForm},
		{"create t (a int b int) key a", 16, api.ErrForm},
		{"create t (a int.b int) key a", 15, api.ErrForm},
		{"create t (a int,", 16, api.ErrForm},
		{"create t (a int,) key a", 16, api.ErrForm},
		{"create t (a int, ) key a", 17, api.ErrForm},
		{"create t (a int,,b int) key a", 16, api.ErrForm},
		{"create t (a int), key a", 16, api.ErrForm},
		{"create t (a int)) key a", 16, api.ErrForm},
		{"create t (a int)", 16, api.ErrForm},
		{"create t (a int) a", 17, api.ErrForm},
		{"create t (a int) keys a", 17, api.ErrForm},
		{"create t (a int) ke a", 17, api.ErrForm},
		{"create t (a int) Key a", 17, api.ErrForm},
		{"create t (a int) keya", 17, api.ErrForm},
		{"create t (a int) key", 20, api.ErrForm},
		{"create t (a int) key ", 21, api.ErrForm},
		{"create t (a int) key 5", 21, api.ErrForm},
		{"create t (a int) key (a)", 21, api.ErrForm},
		{"create t (a int) key " + repeated(17), 21, api.ErrName},
		{"create t (a int) key a b", 23, api.ErrExtra},
		{"create t (a int) key a, b", 22, api.ErrExtra},
		{"create t (a int) key a)", 22, api.ErrExtra},
		{"create t (a int) key a \n;", 24, api.ErrExtra},
		{"create " + repeated(17) + " (a int) key a", 7, api.ErrName},
	} {
		checkRejected(t, c.s, c.at, c.e)
	}
}

// P10.2: the comma behind the tenth column, whatever follows it.
func TestParseTooManyColumns(t *testing.T) {
	var list []string
	for i := range 10 {
		list = append(list, "c"+strconv.Itoa(i)+" int")
		open := "create t (" + strings.Join(list, ", ")
		d := dCreate("t", "c0", columns(i+1)...)
		checkParse(t, open+") key c0", d, len(open)+8, api.OK)
		checkRejected(t, open, len(open), api.ErrForm)
		for _, tail := range []string{"", ") key c0", ",", "5", "\x00", "(", "\"", repeated(17), "C int) key c0", "\xff", "key c0", "c10", "c10 text(0)"} {
			for _, gap := range []string{"", " ", "\t", "\n\n \t"} {
				if i < 9 {
					checkReading(t, open+","+gap+tail)
					continue
				}
				checkRejected(t, open+","+gap+tail, len(open)+1+len(gap), api.ErrLimit)
				checkRejected(t, open+" \n,"+gap+tail, len(open)+3+len(gap), api.ErrLimit)
			}
		}
	}
	open := "create t (" + strings.Join(list, ",")
	checkRejected(t, open+",c10 int) key c0", len(open)+1, api.ErrLimit)
	checkRejected(t, open+strings.Repeat(",c int", 100000)+") key c0", len(open)+1, api.ErrLimit)
	checkRejected(t, open+" c10 int) key c0", len(open)+1, api.ErrForm)
	wrong := strings.Replace(open, "c3 int", "c3 5nt", 1)
	checkRejected(t, wrong+",c10 int) key c0", strings.Index(wrong, "5nt"), api.ErrForm)
}

// piece is a token, and what must stand there: a word w, a name n, a type t, a
// value v, a default d, a punctuation character p, or a word o that may be
// left out.
type piece struct {
	kind  string
	token string
}

// pieces returns the text of each Op as pieces.
func pieces() [][]piece {
	var all [][]piece
	for _, s := range []string{
		`w create n t p ( n a t int p , n b t text(5) o null o default d "x" p ) w key n a`,
		`w create n t p ( n a t long o default d 5l p ) w key n a`,
		`w drop n t`,
		`w rename n t w to n u`,
		`w add n t n b t int`,
		`w add n t n b t bytes(9) o null o default d x"00"`,
		`w cut n t n b`,
		`w call n t n b w to n c`,
		`w widen n t n b t text(9)`,
		`w preset n t n b v -5`,
	} {
		var l []piece
		fields := strings.Fields(s)
		for i := 0; i < len(fields); i += 2 {
			l = append(l, piece{fields[i], fields[i+1]})
		}
		all = append(all, l)
	}
	return all
}

// written returns the pieces with blanks between them, and where the i-th one
// begins.
func written(l []piece, i int) (s string, at int) {
	for j, p := range l {
		if j > 0 {
			s += " \n"
		}
		if j == i {
			at = len(s)
		}
		s += p.token
	}
	return s, at
}

// checkPlace puts the tokens at the place of the i-th piece, each of which
// must give the error there.
func checkPlace(t *testing.T, l []piece, i int, e api.Errno, tokens ...string) {
	t.Helper()
	for _, token := range tokens {
		other := slices.Clone(l)
		other[i].token = token
		s, at := written(other, i)
		checkRejected(t, s, at, e)
	}
}

// P10.2: each error at each place of each Op's text.
func TestParseAtEachPlace(t *testing.T) {
	for _, l := range pieces() {
		whole, _ := written(l, 0)
		if d, at, e := Parse(whole); e != api.OK || at != len(whole) || !Can(d) {
			t.Errorf("Parse(%q) is %v, %d, %d", whole, d, at, e)
		}
		for i, p := range l {
			_, at := written(l, i)
			switch p.kind {
			case "w":
				checkPlace(t, l, i, api.ErrForm, p.token+"x", p.token+"_", p.token[:1], strings.ToUpper(p.token), "x", repeated(16), repeated(17), "5", "_", "-", "(", `"x"`, "\x00", "\xff")
			case "n":
				checkPlace(t, l, i, api.ErrForm, "5", "5a", "_a", "A", "-", ".", "(", ")", ",", `"a"`, "é", "\x00", "\xff", "\r")
				checkPlace(t, l, i, api.ErrName, repeated(17), repeated(18), repeated(10000), strings.Repeat("null_", 4))
				checkNames(t, l, i)
			case "t":
				checkPlace(t, l, i, api.ErrForm, "in", "ints", "x", "Int", "null", "text", "bytes(", "text()", "text(x)", "text(05)", "text(-0)", "text(5", "text(5 )", "5", "-", ")", ",", "\"int\"", "\xff", repeated(17))
				checkPlace(t, l, i, api.ErrRange, "text(0)", "text(-1)", "text(121)", "bytes(121)", "bytes(2147483647)", "text(9223372036854775808)", "text(9223372036854775808")
			case "d":
				checkPlace(t, l, i, api.ErrNull, "null")
				fallthrough
			case "v":
				checkPlace(t, l, i, api.ErrForm, "nul", "nullx", "NULL", "true", "x", "l", "-", "-0", "01", "+5", ".5", `"`, `"a`, `"\x41"`, `"\xff"`, `"a\"`, "\"\t\"", `x"0"`, `x"0A"`, `x"`, "'a'", ")", "(", "\xff", repeated(17))
				checkPlace(t, l, i, api.ErrRange, "2147483648", "-2147483649", "9223372036854775808", "9223372036854775808l", "-9223372036854775809l")
				checkPlace(t, l, i, api.ErrLimit, `"`+repeated(121)+`"`, `x"`+strings.Repeat("00", 121)+`"`)
			case "p":
				// Without it the next piece is at its place.
				checkRejected(t, whole[:at]+whole[at+3:], at, api.ErrForm)
				checkPlace(t, l, i, api.ErrForm, "[", "]", ";", ".", "-", "x", "5", "\"", "\x00", "\xff", repeated(17))
			}
			if i > 0 && p.kind != "o" {
				checkRejected(t, whole[:at], at, api.ErrForm)
				checkRejected(t, whole[:at-2], at-2, api.ErrForm)
			}
		}
		for _, extra := range []string{"x", "5", "(", ")", ",", ";", "\"", "key", "\x00", "\r", "\xff", repeated(17)} {
			checkRejected(t, whole+" \t"+extra, len(whole)+2, api.ErrExtra)
			if !strings.Contains(nameBytes, extra[:1]) {
				checkRejected(t, whole+extra, len(whole), api.ErrExtra)
			}
		}
	}
}

// checkNames checks that each of these names can stand at the place of the
// i-th piece.
func checkNames(t *testing.T, l []piece, i int) {
	t.Helper()
	for _, n := range []string{"x", "z9_", "a_", repeated(16), "null", "default", "key", "to", "create", "drop", "int", "text", "l"} {
		other := slices.Clone(l)
		other[i].token = n
		s, _ := written(other, i)
		d, at, e := Parse(s)
		if e != api.OK || at != len(s) || tokens(d)[i] != n {
			t.Errorf("Parse(%q) is %v, %d, %d", s, d, at, e)
		}
	}
}

// P10.2 and P10.3: tables, columns and keys that are called as words of the
// text.
func TestNamesThatAreWords(t *testing.T) {
	for _, n := range []string{"create", "drop", "rename", "add", "cut", "call", "widen", "preset", "key", "to", "null", "default", "int", "long", "text", "bytes", "x", "l"} {
		c := column(n, text(5))
		for _, d := range []api.DDL{
			dCreate(n, n, c), dCreate(n, n, nullable(c), c), dCreate(n, n, withDefault(c, vText(n)), nullable(withDefault(c, vText(n)))),
			dDrop(n), dRename(n, n), dAdd(n, c), dAdd(n, nullable(c)), dAdd(n, withDefault(c, vBytes(n))), dAdd(n, nullable(withDefault(c, vInt(1)))),
			dCut(n, n), dCall(n, n, n), dWiden(n, n, text(5)), dPreset(n, n, null), dPreset(n, n, vText(n)),
		} {
			checkPrint(t, d, joined(tokens(d), oneSpace), api.OK)
			for _, gap := range []func(a, b string) string{oneSpace, leastSpace} {
				s := joined(tokens(d), gap)
				checkParse(t, s, d, len(s), api.OK)
			}
		}
	}
}

// P10.3: the text of a change is parsed to it, whatever blanks are inserted.
func TestBlanksAreInserted(t *testing.T) {
	random := rand.New(rand.NewSource(10))
	someBlanks := func(before, token string) string {
		s := leastSpace(before, token)
		for range random.Intn(4) {
			s += string(" \t\n"[random.Intn(3)])
		}
		return s
	}
	for _, d := range changes() {
		printed, e := Print(d)
		if e != api.OK {
			t.Errorf("Print(%v) is %d", d, e)
		}
		checkParse(t, printed, d, len(printed), api.OK)
		for _, gap := range []func(a, b string) string{leastSpace, someBlanks, someBlanks} {
			s := joined(tokens(d), gap) + someBlanks("", "")
			checkParse(t, s, d, len(s), api.OK)
		}
	}
}

// P10.3: a single blank more, at each place between two tokens.
func TestOneBlankIsInserted(t *testing.T) {
	for _, d := range texts() {
		l := tokens(d)
		for i := range len(l) + 1 {
			for _, blank := range []string{" ", "\t", "\n"} {
				place := 0
				s := joined(append(l, ""), func(before, token string) string {
					place++
					if place == i+1 {
						return blank + oneSpace(before, token)
					}
					return oneSpace(before, token)
				})
				checkParse(t, s, d, len(s), api.OK)
			}
		}
	}
}

// P10.3: unlike changes have unlike texts.
func TestUnlikeChangesHaveUnlikeTexts(t *testing.T) {
	owner := map[string]api.DDL{}
	for _, d := range changes() {
		s, e := Print(d)
		if e != api.OK {
			t.Errorf("Print(%v) is %d", d, e)
		}
		if other, ok := owner[s]; ok {
			t.Errorf("%v and %v have the text %q", d, other, s)
		}
		owner[s] = d
	}
}

// P10.2 and P10.3: each text with each byte put in, replaced and removed.
func TestParseOfAlteredTexts(t *testing.T) {
	for s := range texts() {
		checkReading(t, s)
		for i := range len(s) {
			checkReading(t, s[:i])
			checkReading(t, s[i:])
			checkReading(t, s[:i]+s[i+1:])
			for b := range 256 {
				other := string([]byte{byte(b)})
				checkReading(t, s[:i]+other+s[i:])
				checkReading(t, s[:i]+other+s[i+1:])
			}
		}
	}
}

// P10.2 and P10.3: each text with a token put in, replaced, removed, and with
// two exchanged.
func TestParseOfAlteredTokens(t *testing.T) {
	extras := []string{"", "create", "key", "to", "null", "default", "t", repeated(17), "int", "text(5)", "text(0)", "5", "-5l", "01", `"x"`, `x"00"`, "(", ",", ")", "5 null", "\xff"}
	for _, d := range texts() {
		l := tokens(d)
		for i := range l {
			for _, extra := range extras {
				checkReading(t, strings.Join(slices.Insert(slices.Clone(l), i, extra), " "))
				checkReading(t, strings.Join(slices.Concat(l[:i], []string{extra}, l[i+1:]), "\t"))
				checkReading(t, joined(slices.Concat(l[:i], []string{extra}, l[i+1:]), func(a, b string) string { return "" }))
			}
			for j := range l {
				other := slices.Clone(l)
				other[i], other[j] = other[j], other[i]
				checkReading(t, strings.Join(other, "\n"))
			}
		}
	}
}

// P1 and P10.2: arbitrary sequences of tokens and of bytes.
func TestParseOfArbitraryTexts(t *testing.T) {
	random := rand.New(rand.NewSource(3))
	words := strings.Fields(`create drop rename add cut call widen preset key to null default t b int long text(5) bytes(120) text(0) 5 -5 5l 01 "x" "\n" x"00" x"0" ( ( ) ) , , ; `)
	for range 100000 {
		s := ""
		for range 1 + random.Intn(12) {
			s += words[random.Intn(len(words))] + strings.Repeat(" ", random.Intn(3))
		}
		checkReading(t, s)
		checkReading(t, "create t (b int"+s)
	}
	for range 20000 {
		s := make([]byte, random.Intn(40))
		random.Read(s)
		checkReading(t, string(s))
		checkReading(t, "add t b int default "+string(s))
		checkReading(t, "preset t b "+string(s))
	}
}

// R3
func TestArgumentsAreNotModified(t *testing.T) {
	for _, d := range append(ordinary(), dCreate("t", "c0", columns(10)...), dCreate("t", "A", columns(11)...), dCreate("", "", api.Column{Id: 3}, api.Column{})) {
		// The spare capacity would show what is written behind the slice.
		d.Cols = append(slices.Clone(d.Cols), api.Column{Name: "behind"})[:len(d.Cols)]
		given, cols := d, slices.Clone(d.Cols[:len(d.Cols)+1])
		first, e := Print(d)
		Can(d)
		if !ddl.Same(d, given) || !slices.Equal(d.Cols[:len(d.Cols)+1], cols) {
			t.Errorf("a call modified the change %v", given)
		}
		if again, e2 := Print(d); again != first || e2 != e {
			t.Errorf("Print(%v) is %q, %d, and then %q, %d", d, first, e, again, e2)
		}
	}
}

// R3
func TestResultsAreNewMemory(t *testing.T) {
	for s, want := range texts() {
		first, _, _ := Parse(s)
		second, _, _ := Parse(s)
		for i := range first.Cols {
			first.Cols[i] = api.Column{Id: 9, Name: "overwritten"}
		}
		_ = append(first.Cols, api.Column{Name: "appended"})
		if !ddl.Same(second, want) {
			t.Errorf("after writing into another result of Parse(%q) one is %v", s, second)
		}
		checkParse(t, s, want, len(s), api.OK)
	}
	d := ordinary()[0]
	s, _ := Print(d)
	d.Cols[0] = api.Column{Name: "overwritten"}
	if later, _ := Print(ordinary()[0]); later != s || !strings.Contains(s, "a int") {
		t.Errorf("after writing into an argument the text is %q", later)
	}
}
