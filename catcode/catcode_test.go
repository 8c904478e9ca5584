package catcode

import (
	"encoding/binary"
	"fmt"
	"math"
	"math/rand"
	"reflect"
	"slices"
	"strconv"
	"strings"
	"testing"
	"unicode/utf8"

	"haulage/api"
	"haulage/ddl"
	"haulage/ddltext"
	"haulage/schema"
)

var (
	tInt  = api.Type{Kind: api.KInt}
	tLong = api.Type{Kind: api.KLong}
	null  = api.Value{}
)

func text(most int) api.Type  { return api.Type{Kind: api.KText, Max: most} }
func bytes(most int) api.Type { return api.Type{Kind: api.KBytes, Max: most} }

func vInt(n int64) api.Value    { return api.Value{Kind: api.KInt, N: n} }
func vLong(n int64) api.Value   { return api.Value{Kind: api.KLong, N: n} }
func vText(s string) api.Value  { return api.Value{Kind: api.KText, S: s} }
func vBytes(s string) api.Value { return api.Value{Kind: api.KBytes, S: s} }

func repeated(length int) string { return strings.Repeat("a", length) }

func column(id int, name string, t api.Type) api.Column {
	return api.Column{Id: id, Name: name, Type: t}
}

func nullable(c api.Column) api.Column {
	c.Null = true
	return c
}

func withDefault(c api.Column, v api.Value) api.Column {
	c.Default = v
	return c
}

// columns returns so many columns, c0 and so on, with the Ids 0 and so on.
func columns(count int) []api.Column {
	var l []api.Column
	for i := range count {
		l = append(l, column(i, "c"+strconv.Itoa(i), tInt))
	}
	return l
}

// table returns a table whose Key is the Id of its first column, and whose Next
// is above that of the last one.
func table(id int, name string, cols ...api.Column) api.Table {
	t := api.Table{Id: id, Name: name, Cols: cols}
	if len(cols) > 0 {
		t.Key, t.Next = cols[0].Id, cols[len(cols)-1].Id+1
	}
	return t
}

// tables returns a catalog of so many tables, t0 and so on.
func tables(count int) api.Catalog {
	var c api.Catalog
	for i := range count {
		c.Tables = append(c.Tables, table(i, "t"+strconv.Itoa(i), columns(1)...))
	}
	return c
}

func catalog(l ...api.Table) api.Catalog { return api.Catalog{Tables: l} }

// The changes, each with the fields of its Op.
func dCreate(table, key string, cols ...api.Column) api.DDL {
	return api.DDL{Op: api.DCreate, Table: table, Key: key, Cols: cols}
}

func dDrop(table string) api.DDL { return api.DDL{Op: api.DDrop, Table: table} }

func dRename(table, to string) api.DDL { return api.DDL{Op: api.DRename, Table: table, To: to} }

func dAdd(table string, c api.Column) api.DDL {
	return api.DDL{Op: api.DAdd, Table: table, Column: c.Name, Type: c.Type, Null: c.Null, Default: c.Default}
}

func dCut(table, column string) api.DDL {
	return api.DDL{Op: api.DCut, Table: table, Column: column}
}

func dCall(table, column, to string) api.DDL {
	return api.DDL{Op: api.DCall, Table: table, Column: column, To: to}
}

func dWiden(table, column string, t api.Type) api.DDL {
	return api.DDL{Op: api.DWiden, Table: table, Column: column, Type: t}
}

func dPreset(table, column string, v api.Value) api.DDL {
	return api.DDL{Op: api.DPreset, Table: table, Column: column, Default: v}
}

// valueBytes returns encodings, written out, and their values.
func valueBytes() map[string]api.Value {
	return map[string]api.Value{
		"\x00":                     null,
		"\x01\x00":                 vInt(0),
		"\x01\x01":                 vInt(-1),
		"\x01\x02":                 vInt(1),
		"\x01\x7f":                 vInt(-64),
		"\x01\x80\x01":             vInt(64),
		"\x01\xfe\xff\xff\xff\x0f": vInt(2147483647),
		"\x01\xff\xff\xff\xff\x0f": vInt(-2147483648),
		"\x02\x00":                 vLong(0),
		"\x02\x01":                 vLong(-1),
		"\x02\x02":                 vLong(1),
		"\x02\xd8\x04":             vLong(300),
		"\x02\x80\x80\x80\x80\x10": vLong(2147483648),
		"\x02\x81\x80\x80\x80\x10": vLong(-2147483649),
		"\x02\xfe\xff\xff\xff\xff\xff\xff\xff\xff\x01": vLong(math.MaxInt64),
		"\x02\xff\xff\xff\xff\xff\xff\xff\xff\xff\x01": vLong(math.MinInt64),
		"\x03\x00":                               vText(""),
		"\x03\x01x":                              vText("x"),
		"\x03\x01\x00":                           vText("\x00"),
		"\x03\x02\xc3\xa9":                       vText("é"),
		"\x03\x08a\"\xe2\x82\xac\n\\\x7f":        vText("a\"€\n\\\x7f"),
		"\x03\x04\xf0\x9f\x98\x80":               vText("😀"),
		"\x03\x78" + repeated(120):               vText(repeated(120)),
		"\x03\x78" + strings.Repeat("é", 60):     vText(strings.Repeat("é", 60)),
		"\x04\x00":                               vBytes(""),
		"\x04\x01\xff":                           vBytes("\xff"),
		"\x04\x02\x00\xff":                       vBytes("\x00\xff"),
		"\x04\x03\xed\xa0\x80":                   vBytes("\xed\xa0\x80"),
		"\x04\x78" + strings.Repeat("\x80", 120): vBytes(strings.Repeat("\x80", 120)),
	}
}

// catalogBytes returns encodings, written out, and their catalogs.
func catalogBytes() map[string]api.Catalog {
	a := column(0, "a", tInt)
	return map[string]api.Catalog{
		"\x01\x00": {},
		"\x01\x01\x03\x01t\x00\x01\x01\x00\x01a\x01\x00\x00\x00": catalog(table(3, "t", a)),
		"\x01\x01\x00\x01t\x07\xc8\x01\x02\x03\x02b0\x02\x00\x01\x02\x01\x07\x01a\x03\x05\x00\x03\x01x": catalog(api.Table{
			Id: 0, Name: "t", Key: 7, Next: 200,
			Cols: []api.Column{nullable(withDefault(column(3, "b0", tLong), vLong(-1))), withDefault(column(7, "a", text(5)), vText("x"))},
		}),
		"\x01\x02\x05\x02t_\x00\x01\x01\x00\x01a\x01\x00\x00\x00\xac\x02\x10aaaaaaaaaaaaaaaa\xc7\x01\xc8\x01\x01\xc7\x01\x01a\x04\x78\x00\x04\x02\x00\xff": catalog(
			table(5, "t_", a),
			table(300, repeated(16), withDefault(column(199, "a", bytes(120)), vBytes("\x00\xff"))),
		),
		"\x01\x01\xff\xff\xff\xff\xff\xff\xff\xff\x7f\x01t\x00\x01\x01\x00\x01a\x01\x00\x00\x00": catalog(table(math.MaxInt64, "t", a)),
		"\x01\x02\x01\x01t\x00\x02\x02\x00\x01a\x01\x00\x00\x01\x02\x01\x01b\x01\x00\x01\x00\x02\x01u\x00\x01\x01\x00\x01a\x01\x00\x00\x00": catalog(
			table(1, "t", withDefault(a, vInt(1)), nullable(column(1, "b", tInt))),
			table(2, "u", a),
		),
	}
}

// changeBytes returns encodings, written out, and their changes.
func changeBytes() map[string]api.DDL {
	a := column(0, "a", tInt)
	return map[string]api.DDL{
		"\x01\x01\x01t\x01a\x01\x01a\x01\x00\x00\x00":                           dCreate("t", "a", a),
		"\x01\x01\x01t\x01a\x02\x01a\x01\x00\x00\x00\x01b\x03\x05\x01\x03\x01x": dCreate("t", "a", a, nullable(withDefault(column(0, "b", text(5)), vText("x")))),
		"\x01\x01\x02t1\x02k_\x02\x01a\x02\x00\x01\x00\x01a\x04\x78\x00\x00":    dCreate("t1", "k_", nullable(column(0, "a", tLong)), column(0, "a", bytes(120))),
		"\x01\x01\x01t\x01a\x01\x01a\x01\x00\x00\x04\x02\x00\xff":               dCreate("t", "a", withDefault(a, vBytes("\x00\xff"))),
		"\x01\x02\x01t":                                                  dDrop("t"),
		"\x01\x02\x10aaaaaaaaaaaaaaaa":                                   dDrop(repeated(16)),
		"\x01\x03\x01t\x01u":                                             dRename("t", "u"),
		"\x01\x03\x01t\x01t":                                             dRename("t", "t"),
		"\x01\x04\x01t\x01b\x01\x00\x00\x00":                             dAdd("t", column(0, "b", tInt)),
		"\x01\x04\x01t\x01b\x03\x05\x00\x03\x01x":                        dAdd("t", withDefault(column(0, "b", text(5)), vText("x"))),
		"\x01\x04\x01t\x01b\x04\x01\x01\x00":                             dAdd("t", nullable(column(0, "b", bytes(1)))),
		"\x01\x04\x01t\x01b\x02\x00\x01\x02\x0a":                         dAdd("t", nullable(withDefault(column(0, "b", tLong), vLong(5)))),
		"\x01\x04\x01t\x01b\x02\x00\x00\x01\x09":                         dAdd("t", withDefault(column(0, "b", tLong), vInt(-5))),
		"\x01\x05\x01t\x01b":                                             dCut("t", "b"),
		"\x01\x06\x01t\x01b\x01c":                                        dCall("t", "b", "c"),
		"\x01\x06\x04null\x03key\x02to":                                  dCall("null", "key", "to"),
		"\x01\x07\x01t\x01b\x02\x00":                                     dWiden("t", "b", tLong),
		"\x01\x07\x01t\x01b\x03\x09":                                     dWiden("t", "b", text(9)),
		"\x01\x07\x01t\x01b\x04\x78":                                     dWiden("t", "b", bytes(120)),
		"\x01\x08\x01t\x01b\x00":                                         dPreset("t", "b", null),
		"\x01\x08\x01t\x01b\x01\x01":                                     dPreset("t", "b", vInt(-1)),
		"\x01\x08\x01t\x01b\x02\xff\xff\xff\xff\xff\xff\xff\xff\xff\x01": dPreset("t", "b", vLong(math.MinInt64)),
		"\x01\x08\x01t\x01b\x03\x01x":                                    dPreset("t", "b", vText("x")),
		"\x01\x08\x01t\x01b\x04\x00":                                     dPreset("t", "b", vBytes("")),
	}
}

// wholeTables returns a catalog with as many tables and columns as there can
// be, and each column as long as it can be.
func wholeTables() api.Catalog {
	var c api.Catalog
	for i := range 6 {
		t := api.Table{Id: math.MaxInt64 - 6 + i, Name: repeated(15) + strconv.Itoa(i), Key: 190, Next: 200}
		for j := range 10 {
			name := repeated(15) + strconv.Itoa(j)
			t.Cols = append(t.Cols, withDefault(column(190+j, name, bytes(120)), vBytes(strings.Repeat("\xff", 120))))
		}
		c.Tables = append(c.Tables, t)
	}
	return c
}

// rightValues returns valid values of all Kinds.
func rightValues() []api.Value {
	l := []api.Value{null, vInt(63), vInt(64), vInt(-65), vInt(8191), vInt(8192), vInt(-8193), vLong(63), vLong(64), vLong(-64), vLong(-65), vLong(1 << 62), vLong(-1 << 62)}
	for shift := range 63 {
		l = append(l, vLong(1<<shift), vLong(-1<<shift), vLong(1<<shift-1))
		if shift < 31 {
			l = append(l, vInt(1<<shift), vInt(-1<<shift), vInt(1<<shift-1))
		}
	}
	for length := range 121 {
		l = append(l, vText(repeated(length)), vBytes(strings.Repeat("\xf5", length)))
	}
	for _, v := range valueBytes() {
		l = append(l, v)
	}
	return l
}

// noValues returns values that are not valid.
func noValues() []api.Value {
	return []api.Value{
		{N: 1}, {N: -1}, {S: "x"}, {Kind: -1}, {Kind: 5}, {Kind: 5, N: 1, S: "x"}, {Kind: 256}, {Kind: 257, N: 1}, {Kind: math.MaxInt}, {Kind: math.MinInt},
		{Kind: api.KInt, N: 1, S: "x"}, vInt(math.MaxInt32 + 1), vInt(math.MinInt32 - 1), vInt(math.MaxInt64), vInt(math.MinInt64), {Kind: api.KLong, S: "x"},
		{Kind: api.KText, N: 1}, {Kind: api.KText, N: 1, S: "x"}, vText(repeated(121)), vText(repeated(100000)), vText("\xff"), vText("a\x80"), vText("\xed\xa0\x80"), vText("\xc3"),
		{Kind: api.KBytes, N: 1, S: "x"}, vBytes(repeated(121)), vBytes(repeated(100000)),
	}
}

func noNames() []string {
	return []string{"", "A", "aA", "1", "1a", "_", "_a", "a-b", "a b", "a.b", " a", "a\n", "\x00", "a\x00", "\xff", "é", "aé"}
}

func noTypes() []api.Type {
	return []api.Type{
		{}, {Max: 5}, {Kind: -1}, {Kind: 5}, {Kind: 5, Max: 5}, {Kind: 257}, {Kind: api.KInt, Max: 1}, {Kind: api.KInt, Max: 120}, {Kind: api.KLong, Max: -1}, {Kind: api.KLong, Max: 7},
		text(0), text(-1), text(121), text(math.MaxInt), bytes(0), bytes(121), bytes(1<<32 + 5),
	}
}

// piece is a part of an encoding: a byte from least to most (b), a number up
// to most (n), the zigzag number of an int or of a long (i, l), or the bytes of
// a name, of a text, or those that are arbitrary (N, T, B).
type piece struct {
	kind        string
	least, most uint64
	bytes       string
}

func pByte(least, most uint64, n int) piece {
	return piece{"b", least, most, string([]byte{byte(n)})}
}

func pNumber(most uint64, n int) piece { return piece{"n", 0, most, varint(uint64(n))} }

func pText(kind string, most uint64, s string) []piece {
	return []piece{pNumber(most, len(s)), {kind, 0, 0, s}}
}

func varint(n uint64) string { return string(binary.AppendUvarint(nil, n)) }

func zigzag(n int64) string { return string(binary.AppendVarint(nil, n)) }

// valuePieces returns the encoding of v by the definition, also if v is not
// valid.
func valuePieces(v api.Value) []piece {
	l := []piece{pByte(0, 4, v.Kind)}
	switch v.Kind {
	case api.KInt:
		l = append(l, piece{"i", 0, 0, zigzag(v.N)})
	case api.KLong:
		l = append(l, piece{"l", 0, 0, zigzag(v.N)})
	case api.KText:
		l = append(l, pText("T", 120, v.S)...)
	case api.KBytes:
		l = append(l, pText("B", 120, v.S)...)
	}
	return l
}

func typePieces(t api.Type) []piece {
	return []piece{pByte(1, 4, t.Kind), pNumber(120, t.Max)}
}

func bodyPieces(name string, t api.Type, null bool, v api.Value) []piece {
	flag := map[bool]int{false: 0, true: 1}[null]
	return slices.Concat(pText("N", 16, name), typePieces(t), []piece{pByte(0, 1, flag)}, valuePieces(v))
}

const most63 = 1<<63 - 1

func catalogPieces(c api.Catalog) []piece {
	l := []piece{pByte(1, 1, 1), pNumber(6, len(c.Tables))}
	for _, t := range c.Tables {
		l = append(l, pNumber(most63, t.Id))
		l = append(l, pText("N", 16, t.Name)...)
		l = append(l, pNumber(most63, t.Key), pNumber(most63, t.Next), pNumber(10, len(t.Cols)))
		for _, x := range t.Cols {
			l = append(l, pNumber(most63, x.Id))
			l = append(l, bodyPieces(x.Name, x.Type, x.Null, x.Default)...)
		}
	}
	return l
}

func changePieces(d api.DDL) []piece {
	l := append([]piece{pByte(1, 1, 1), pByte(1, 8, d.Op)}, pText("N", 16, d.Table)...)
	column, to := pText("N", 16, d.Column), pText("N", 16, d.To)
	switch d.Op {
	case api.DCreate:
		l = append(l, pText("N", 16, d.Key)...)
		l = append(l, pNumber(10, len(d.Cols)))
		for _, x := range d.Cols {
			l = append(l, bodyPieces(x.Name, x.Type, x.Null, x.Default)...)
		}
		return l
	case api.DRename:
		return append(l, to...)
	case api.DAdd:
		return append(l, bodyPieces(d.Column, d.Type, d.Null, d.Default)...)
	case api.DCut:
		return append(l, column...)
	case api.DCall:
		return slices.Concat(l, column, to)
	case api.DWiden:
		return slices.Concat(l, column, typePieces(d.Type))
	case api.DPreset:
		return slices.Concat(l, column, valuePieces(d.Default))
	}
	return l
}

// joined returns the bytes of the pieces.
func joined(l []piece) string {
	s := ""
	for _, p := range l {
		s += p.bytes
	}
	return s
}

func valueText(v api.Value) string { return joined(valuePieces(v)) }

func catalogText(c api.Catalog) string { return joined(catalogPieces(c)) }

func changeText(d api.DDL) string { return joined(changePieces(d)) }

// scan reads by the definition: what it reads is removed from the string, and
// an error is a panic.
type scan string

func (s *scan) take(size int) string {
	if len(*s) < size {
		panic(api.ErrEnd)
	}
	taken := string((*s)[:size])
	*s = (*s)[size:]
	return taken
}

func (s *scan) byteIn(accepted string) int {
	b := s.take(1)
	if !strings.Contains(accepted, b) {
		panic(api.ErrForm)
	}
	return int(b[0])
}

func (s *scan) number(most uint64) uint64 {
	n, size := binary.Uvarint([]byte((*s)[:min(10, len(*s))]))
	switch {
	case size == 0 && len(*s) < 10:
		panic(api.ErrEnd)
	case size <= 0 || !strings.HasPrefix(string(*s), varint(n)) || n > most:
		panic(api.ErrForm)
	}
	s.take(size)
	return n
}

func (s *scan) text(most uint64) string { return s.take(int(s.number(most))) }

func (s *scan) value() api.Value {
	kind := s.byteIn("\x00\x01\x02\x03\x04")
	v := api.Value{Kind: kind}
	if kind == 1 || kind == 2 {
		n := s.number(math.MaxUint64)
		v.N, _ = binary.Varint([]byte(varint(n)))
		if kind == 1 && n > math.MaxUint32 {
			panic(api.ErrForm)
		}
	}
	if kind == 3 || kind == 4 {
		v.S = s.text(120)
		if kind == 3 && !utf8.ValidString(v.S) {
			panic(api.ErrForm)
		}
	}
	return v
}

func (s *scan) typ() (t api.Type) {
	t.Kind = s.byteIn("\x01\x02\x03\x04")
	t.Max = int(s.number(120))
	return t
}

func (s *scan) body() (c api.Column) {
	c.Name = s.text(16)
	c.Type = s.typ()
	c.Null = s.byteIn("\x00\x01") == 1
	c.Default = s.value()
	return c
}

func (s *scan) catalog() (c api.Catalog) {
	s.byteIn("\x01")
	c.Tables = make([]api.Table, s.number(6))
	for i := range c.Tables {
		t := &c.Tables[i]
		t.Id = int(s.number(most63))
		t.Name = s.text(16)
		t.Key = int(s.number(most63))
		t.Next = int(s.number(most63))
		t.Cols = make([]api.Column, s.number(10))
		for j := range t.Cols {
			id := int(s.number(most63))
			t.Cols[j] = s.body()
			t.Cols[j].Id = id
		}
	}
	return c
}

func (s *scan) change() (d api.DDL) {
	s.byteIn("\x01")
	d.Op = s.byteIn("\x01\x02\x03\x04\x05\x06\x07\x08")
	d.Table = s.text(16)
	switch d.Op {
	case api.DCreate:
		d.Key = s.text(16)
		d.Cols = make([]api.Column, s.number(10))
		for i := range d.Cols {
			d.Cols[i] = s.body()
		}
	case api.DAdd:
		c := s.body()
		d.Column, d.Type, d.Null, d.Default = c.Name, c.Type, c.Null, c.Default
	case api.DCut, api.DCall, api.DWiden, api.DPreset:
		d.Column = s.text(16)
	}
	switch d.Op {
	case api.DRename, api.DCall:
		d.To = s.text(16)
	case api.DWiden:
		d.Type = s.typ()
	case api.DPreset:
		d.Default = s.value()
	}
	return d
}

// thrown returns the error that read panics with, or OK.
func thrown(read func()) (e api.Errno) {
	defer func() {
		if x := recover(); x != nil {
			e = x.(api.Errno)
		}
	}()
	read()
	return api.OK
}

// last returns the error for what was read without one.
func last(s scan, right bool) api.Errno {
	if s != "" {
		return api.ErrExtra
	}
	if !right {
		return api.ErrForm
	}
	return api.OK
}

func valueByDefinition(text string) (v api.Value, size int, e api.Errno) {
	s := scan(text)
	if e := thrown(func() { v = s.value() }); e != api.OK {
		return null, 0, e
	}
	return v, len(text) - len(s), api.OK
}

func catalogByDefinition(text string) (c api.Catalog, e api.Errno) {
	s := scan(text)
	e = thrown(func() { c = s.catalog() })
	if e == api.OK {
		e = last(s, schema.Right(c))
	}
	if e != api.OK {
		return api.Catalog{}, e
	}
	return c, e
}

func changeByDefinition(text string) (d api.DDL, e api.Errno) {
	s := scan(text)
	e = thrown(func() { d = s.change() })
	if e == api.OK {
		e = last(s, ddltext.Can(d))
	}
	if e != api.OK {
		return api.DDL{}, e
	}
	return d, e
}

// The checks of a decoder check all results, which are zero if there is an
// error.
func checkReadValue(t *testing.T, s string, want api.Value, wantSize int, wantE api.Errno) {
	t.Helper()
	v, size, e := ReadValue(s)
	if v != want || size != wantSize || e != wantE {
		t.Errorf("ReadValue(%q) is %v, %d, %d, want %v, %d, %d", s, v, size, e, want, wantSize, wantE)
	}
}

func checkReadCatalog(t *testing.T, s string, want api.Catalog, wantE api.Errno) {
	t.Helper()
	c, e := ReadCatalog(s)
	if !schema.Same(c, want) || e != wantE {
		t.Errorf("ReadCatalog(%q) is %v, %d, want %v, %d", s, c, e, want, wantE)
	}
	if e != api.OK && !reflect.DeepEqual(c, api.Catalog{}) {
		t.Errorf("ReadCatalog(%q) returns %v beside the error %d", s, c, e)
	}
}

func checkReadDDL(t *testing.T, s string, want api.DDL, wantE api.Errno) {
	t.Helper()
	d, e := ReadDDL(s)
	if !ddl.Same(d, want) || e != wantE {
		t.Errorf("ReadDDL(%q) is %v, %d, want %v, %d", s, d, e, want, wantE)
	}
	if e != api.OK && !reflect.DeepEqual(d, api.DDL{}) {
		t.Errorf("ReadDDL(%q) returns %v beside the error %d", s, d, e)
	}
}

// The checks of an encoder are of both directions.
func checkValue(t *testing.T, v api.Value, want string) {
	t.Helper()
	if s, e := Value(v); s != want || e != api.OK {
		t.Errorf("Value(%v) is %q, %d, want %q", v, s, e, want)
	}
	for _, behind := range []string{"", "\x00", "\x7f", "\xff", "x", want} {
		checkReadValue(t, want+behind, v, len(want), api.OK)
	}
}

func checkCatalog(t *testing.T, c api.Catalog, want string) {
	t.Helper()
	if s, e := Catalog(c); s != want || e != api.OK {
		t.Errorf("Catalog(%v) is %q, %d, want %q", c, s, e, want)
	}
	checkReadCatalog(t, want, c, api.OK)
}

func checkDDL(t *testing.T, d api.DDL, want string) {
	t.Helper()
	if s, e := DDL(d); s != want || e != api.OK {
		t.Errorf("DDL(%v) is %q, %d, want %q", d, s, e, want)
	}
	checkReadDDL(t, want, d, api.OK)
}

// The checks of what cannot be encoded; written by the definition, it cannot
// be decoded.
func checkNoValue(t *testing.T, v api.Value) {
	t.Helper()
	if s, e := Value(v); s != "" || e != api.ErrArg {
		t.Errorf("Value(%v) is %q, %d", v, s, e)
	}
}

func checkNoCatalog(t *testing.T, what string, c api.Catalog) {
	t.Helper()
	if s, e := Catalog(c); s != "" || e != api.ErrArg {
		t.Errorf("%s: Catalog(%v) is %q, %d", what, c, s, e)
	}
}

func checkNoDDL(t *testing.T, what string, d api.DDL) {
	t.Helper()
	if s, e := DDL(d); s != "" || e != api.ErrArg {
		t.Errorf("%s: DDL(%v) is %q, %d", what, d, s, e)
	}
}

// The checks of reading hold a decoder against the definition, and what it
// accepts against P11.3.
func checkReadingValue(t *testing.T, s string) {
	t.Helper()
	want, size, e := valueByDefinition(s)
	checkReadValue(t, s, want, size, e)
	if e == api.OK {
		if again, e := Value(want); again != s[:size] || e != api.OK {
			t.Errorf("ReadValue(%q) is %v, whose encoding is %q, %d", s, want, again, e)
		}
	}
}

func checkReadingCatalog(t *testing.T, s string) {
	t.Helper()
	want, e := catalogByDefinition(s)
	checkReadCatalog(t, s, want, e)
	if e == api.OK {
		if again, e := Catalog(want); again != s || e != api.OK {
			t.Errorf("ReadCatalog(%q) is %v, whose encoding is %q, %d", s, want, again, e)
		}
	}
}

func checkReadingDDL(t *testing.T, s string) {
	t.Helper()
	want, e := changeByDefinition(s)
	checkReadDDL(t, s, want, e)
	if e == api.OK {
		if again, e := DDL(want); again != s || e != api.OK {
			t.Errorf("ReadDDL(%q) is %v, whose encoding is %q, %d", s, want, again, e)
		}
	}
}

// decoder is a decoder with encodings that it decodes.
type decoder struct {
	name    string
	read    func(s string) (zero bool, e api.Errno)
	check   func(t *testing.T, s string)
	whole   bool // nothing may follow
	samples [][]piece
}

// rejects checks that s has the error e, and all other results are zero.
func (x decoder) rejects(t *testing.T, what, s string, e api.Errno) {
	t.Helper()
	zero, got := x.read(s)
	if got != e {
		t.Errorf("%s: the error of %s(%q) is %d, want %d", what, x.name, s, got, e)
	}
	if got != api.OK && !zero {
		t.Errorf("%s: another result of %s(%q) is not zero beside the error %d", what, x.name, s, got)
	}
}

func decoders() []decoder {
	values := decoder{name: "ReadValue", check: checkReadingValue, read: func(s string) (bool, api.Errno) {
		v, size, e := ReadValue(s)
		return v == null && size == 0, e
	}}
	for _, v := range valueBytes() {
		values.samples = append(values.samples, valuePieces(v))
	}
	catalogs := decoder{name: "ReadCatalog", check: checkReadingCatalog, whole: true, read: func(s string) (bool, api.Errno) {
		c, e := ReadCatalog(s)
		return reflect.DeepEqual(c, api.Catalog{}), e
	}}
	for _, c := range catalogBytes() {
		catalogs.samples = append(catalogs.samples, catalogPieces(c))
	}
	for _, v := range valueBytes() {
		t := table(1, "t", column(0, "a", tInt), withDefault(column(1, "b", api.Type{Kind: max(1, v.Kind)}), v))
		if v.Kind > api.KLong {
			t.Cols[1].Type.Max = 120
		}
		catalogs.samples = append(catalogs.samples, catalogPieces(catalog(t)))
	}
	changes := decoder{name: "ReadDDL", check: checkReadingDDL, whole: true, read: func(s string) (bool, api.Errno) {
		d, e := ReadDDL(s)
		return reflect.DeepEqual(d, api.DDL{}), e
	}}
	for _, d := range changeBytes() {
		changes.samples = append(changes.samples, changePieces(d))
	}
	for _, v := range valueBytes() {
		changes.samples = append(changes.samples, changePieces(dPreset("t", "b", v)), changePieces(dAdd("t", withDefault(column(0, "b", tInt), v))))
		changes.samples = append(changes.samples, changePieces(dCreate("t", "b", withDefault(column(0, "b", tInt), v), column(0, "c", tLong))))
	}
	return []decoder{values, catalogs, changes}
}

// eachPlace passes each piece of each sample to look, with the bytes before it
// and after it.
func eachPlace(look func(x decoder, before string, p piece, after string)) {
	for _, x := range decoders() {
		for _, l := range x.samples {
			for i, p := range l {
				look(x, joined(l[:i]), p, joined(l[i+1:]))
			}
		}
	}
}

// P11.1 and P11.3: encodings that are written out, the chapter's examples among
// them.
func TestEncodings(t *testing.T) {
	for s, v := range valueBytes() {
		checkValue(t, v, s)
	}
	for s, c := range catalogBytes() {
		checkCatalog(t, c, s)
	}
	for s, d := range changeBytes() {
		checkDDL(t, d, s)
	}
}

// P11.1 and P11.3
func TestValuesAgainstTheDefinition(t *testing.T) {
	owner := map[string]api.Value{}
	for _, v := range rightValues() {
		s := valueText(v)
		checkValue(t, v, s)
		if other, ok := owner[s]; ok && other != v {
			t.Errorf("%v and %v have the encoding %q", v, other, s)
		}
		owner[s] = v
	}
}

// P11.1
func TestValueRejectsWhatIsNotValid(t *testing.T) {
	for _, v := range noValues() {
		checkNoValue(t, v)
	}
}

// P11.1 and P11.2: up to MaxTables tables, and more.
func TestNumberOfTables(t *testing.T) {
	for count := range 10 {
		c := tables(count)
		s := catalogText(c)
		if count <= 6 {
			checkCatalog(t, c, s)
			continue
		}
		checkNoCatalog(t, "tables", c)
		for _, end := range []int{2, 3, len(s)} {
			checkReadCatalog(t, s[:end], api.Catalog{}, api.ErrForm)
		}
	}
	checkNoCatalog(t, "100000 tables", tables(100000))
	checkCatalog(t, wholeTables(), catalogText(wholeTables()))
	if s, _ := Catalog(api.Catalog{Tables: []api.Table{}}); s != "\x01\x00" {
		t.Errorf("the encoding of an empty slice of tables is %q", s)
	}
}

// P11.1 and P11.2: up to MaxCols columns, and more, of tables and of changes.
func TestNumberOfColumns(t *testing.T) {
	for count := range 14 {
		cols := columns(count)
		c := catalog(table(0, "t", cols...), table(1, "u", cols...))
		bare := columns(count)
		for i := range bare {
			bare[i].Id = 0
		}
		d := dCreate("t", "c0", bare...)
		of, to := catalogText(c), changeText(d)
		if count >= 1 && count <= 10 {
			checkCatalog(t, c, of)
			checkDDL(t, d, to)
			continue
		}
		checkNoCatalog(t, "columns", c)
		checkNoDDL(t, "columns", d)
		checkReadCatalog(t, of, api.Catalog{}, api.ErrForm)
		checkReadDDL(t, to, api.DDL{}, api.ErrForm)
		// Above MaxCols the number itself is wrong, whatever is missing.
		e := api.ErrForm
		if count == 0 {
			e = api.ErrEnd
		}
		checkReadCatalog(t, "\x01\x02\x00\x01t\x00\x00"+varint(uint64(count)), api.Catalog{}, e)
	}
	checkReadDDL(t, "\x01\x01\x01t\x01a\x0b", api.DDL{}, api.ErrForm)
	checkReadDDL(t, "\x01\x01\x01t\x01a\x0a", api.DDL{}, api.ErrEnd)
	checkReadDDL(t, "\x01\x01\x01t\x01a\x00", api.DDL{}, api.ErrForm)
	checkReadDDL(t, "\x01\x01\x01t\x01a\x00\x00", api.DDL{}, api.ErrExtra)
	checkNoCatalog(t, "100000 columns", catalog(table(0, "t", columns(100000)...)))
	checkNoDDL(t, "100000 columns", dCreate("t", "a", slices.Repeat(columns(1), 100000)...))
}

// wrongCatalogs returns catalogs that are not valid, though each number of
// their encoding is within its limit.
func wrongCatalogs() map[string]api.Catalog {
	a, b := column(0, "a", tInt), column(1, "b", tInt)
	l := map[string]api.Catalog{
		"Ids that are equal":       catalog(table(1, "t", a), table(1, "u", a)),
		"Ids that decrease":        catalog(table(2, "t", a), table(1, "u", a)),
		"Names that are equal":     catalog(table(1, "t", a), table(2, "u", a), table(3, "t", a)),
		"no columns":               catalog(table(1, "t")),
		"no columns of the second": catalog(table(1, "t", a), table(2, "u")),
		"column Ids equal":         catalog(table(1, "t", a, column(0, "b", tInt))),
		"column Ids decrease":      catalog(api.Table{Name: "t", Next: 2, Cols: []api.Column{b, a}}),
		"column Names equal":       catalog(table(1, "t", a, column(1, "a", tInt))),
		"Id not below Next":        catalog(api.Table{Name: "t", Next: 1, Cols: []api.Column{a, b}}),
		"Next 0":                   catalog(api.Table{Name: "t", Next: 0, Cols: []api.Column{a}}),
		"Next 201":                 catalog(api.Table{Name: "t", Next: 201, Cols: []api.Column{a}}),
		"Next 2^63 - 1":            catalog(api.Table{Name: "t", Next: math.MaxInt64, Cols: []api.Column{a}}),
		"Id 200":                   catalog(api.Table{Name: "t", Key: 200, Next: 200, Cols: []api.Column{column(200, "a", tInt)}}),
		"Id 2^63 - 1":              catalog(api.Table{Name: "t", Next: 200, Cols: []api.Column{a, column(math.MaxInt64, "b", tInt)}}),
		"Key 1":                    catalog(api.Table{Name: "t", Key: 1, Next: 1, Cols: []api.Column{a}}),
		"Key 2^63 - 1":             catalog(api.Table{Name: "t", Key: math.MaxInt64, Next: 1, Cols: []api.Column{a}}),
		"key column is Null":       catalog(table(1, "t", nullable(a), b)),
		"Default of another Kind":  catalog(table(1, "t", withDefault(a, vLong(1)))),
		"Default that is too long": catalog(table(1, "t", withDefault(column(0, "a", text(2)), vText("abc")))),
	}
	for _, n := range noNames() {
		l["table "+strconv.Quote(n)] = catalog(table(1, n, a))
		l["column "+strconv.Quote(n)] = catalog(table(1, "t", a, column(1, n, tInt)))
	}
	for _, x := range noTypes() {
		if x.Kind >= 1 && x.Kind <= 4 && x.Max >= 0 && x.Max <= 120 {
			l[fmt.Sprint("type ", x)] = catalog(table(1, "t", a, column(1, "b", x)))
		}
	}
	return l
}

// P11.1 and P11.2: what is not valid cannot be encoded, and its bytes have
// their error only after all others.
func TestCatalogsThatAreNotValid(t *testing.T) {
	for what, c := range wrongCatalogs() {
		checkNoCatalog(t, what, c)
		s := catalogText(c)
		checkReadCatalog(t, s, api.Catalog{}, api.ErrForm)
		for _, behind := range []string{"\x00", "\x01", "x", "\xff", s} {
			checkReadCatalog(t, s+behind, api.Catalog{}, api.ErrExtra)
		}
		for end := range s {
			checkReadCatalog(t, s[:end], api.Catalog{}, api.ErrEnd)
		}
	}
}

// P11.1: what is not valid in a way that has no encoding.
func TestCatalogRejectsWhatHasNoEncoding(t *testing.T) {
	a := column(0, "a", tInt)
	for what, c := range map[string]api.Catalog{
		"table Id -1":     catalog(table(-1, "t", a)),
		"least table Id":  catalog(table(math.MinInt64, "t", a)),
		"Key -1":          catalog(api.Table{Name: "t", Key: -1, Next: 1, Cols: []api.Column{a}}),
		"Next -1":         catalog(api.Table{Name: "t", Next: -1, Cols: []api.Column{a}}),
		"column Id -1":    catalog(api.Table{Name: "t", Key: -1, Next: 1, Cols: []api.Column{column(-1, "a", tInt)}}),
		"table name":      catalog(table(0, repeated(17), a)),
		"column name":     catalog(table(0, "t", column(0, repeated(17), tInt))),
		"no table at all": catalog(api.Table{}),
	} {
		checkNoCatalog(t, what, c)
	}
	for _, x := range noTypes() {
		checkNoCatalog(t, "type", catalog(table(0, "t", a, column(1, "b", x))))
	}
	for _, v := range noValues() {
		for _, x := range []api.Type{tInt, tLong, text(120), bytes(120)} {
			checkNoCatalog(t, "default", catalog(table(0, "t", withDefault(column(0, "a", x), v))))
		}
	}
}

// ordinary returns a printable change of each Op, in the order of the Ops.
func ordinary() []api.DDL {
	b := nullable(withDefault(column(0, "b", text(5)), vText("x")))
	return []api.DDL{
		dCreate("t", "a", column(0, "a", tInt), b), dDrop("t"), dRename("t", "u"), dAdd("t", b),
		dCut("t", "b"), dCall("t", "b", "c"), dWiden("t", "b", text(9)), dPreset("t", "b", vText("x")),
	}
}

// P11.1 and P11.2: changes with a name or a type that is none. They have an
// encoding, which has its error only after all others.
func TestChangesThatAreNotPrintable(t *testing.T) {
	var wrong []api.DDL
	alter := func(d api.DDL, set func(d *api.DDL)) {
		d.Cols = slices.Clone(d.Cols)
		set(&d)
		wrong = append(wrong, d)
	}
	for _, d := range ordinary() {
		for _, n := range noNames() {
			alter(d, func(d *api.DDL) { d.Table = n })
			if d.Column != "" {
				alter(d, func(d *api.DDL) { d.Column = n })
			}
			if d.To != "" {
				alter(d, func(d *api.DDL) { d.To = n })
			}
			if d.Key != "" {
				alter(d, func(d *api.DDL) { d.Key = n })
				alter(d, func(d *api.DDL) { d.Cols[0].Name = n })
				alter(d, func(d *api.DDL) { d.Cols[1].Name = n })
			}
		}
		for _, x := range noTypes() {
			if x.Kind < 1 || x.Kind > 4 || x.Max < 0 || x.Max > 120 {
				continue
			}
			if d.Type != (api.Type{}) {
				alter(d, func(d *api.DDL) { d.Type = x })
			}
			if d.Key != "" {
				alter(d, func(d *api.DDL) { d.Cols[1].Type = x })
			}
		}
	}
	for _, d := range append(wrong, dCreate("t", "a")) {
		checkNoDDL(t, "not printable", d)
		s := changeText(d)
		checkReadDDL(t, s, api.DDL{}, api.ErrForm)
		for _, behind := range []string{"\x00", "\x01", "x", "\xff", s} {
			checkReadDDL(t, s+behind, api.DDL{}, api.ErrExtra)
		}
		for end := range s {
			checkReadDDL(t, s[:end], api.DDL{}, api.ErrEnd)
		}
	}
}

// P11.1: changes that are not well formed, or have no encoding.
func TestDDLRejectsWhatHasNoEncoding(t *testing.T) {
	for _, op := range []int{math.MinInt, -1, 0, 9, 10, 256 + api.DDrop, 1<<32 + api.DDrop, math.MaxInt} {
		checkNoDDL(t, "Op", api.DDL{Op: op})
		checkNoDDL(t, "Op", api.DDL{Op: op, Table: "t"})
	}
	checkNoDDL(t, "zero", api.DDL{})
	for _, d := range ordinary() {
		for field, alter := range map[string]func(d *api.DDL){
			"Column": func(d *api.DDL) { d.Column = "x" }, "To": func(d *api.DDL) { d.To = "x" }, "Key": func(d *api.DDL) { d.Key = "x" }, "Type": func(d *api.DDL) { d.Type = tInt },
			"Null": func(d *api.DDL) { d.Null = true }, "Default": func(d *api.DDL) { d.Default = vInt(1) }, "Cols": func(d *api.DDL) { d.Cols = columns(1) },
		} {
			other := d
			alter(&other)
			if ddltext.Can(other) {
				checkDDL(t, other, changeText(other))
			} else {
				checkNoDDL(t, field, other)
			}
		}
		d.Table = repeated(17)
		checkNoDDL(t, "name", d)
	}
	checkNoDDL(t, "Id", dCreate("t", "a", column(1, "a", tInt)))
	for _, x := range noTypes() {
		checkNoDDL(t, "type", dWiden("t", "b", x))
		checkNoDDL(t, "type", dAdd("t", column(0, "b", x)))
		checkNoDDL(t, "type", dCreate("t", "a", column(0, "a", tInt), column(0, "b", x)))
	}
	for _, v := range noValues() {
		checkNoDDL(t, "value", dPreset("t", "b", v))
		checkNoDDL(t, "value", dAdd("t", withDefault(column(0, "b", tInt), v)))
		checkNoDDL(t, "value", dCreate("t", "a", withDefault(column(0, "a", tInt), v)))
	}
}

// P11.1 and P11.3: a printable change need be possible in no catalog.
func TestChangesThatAreOnlyPrintable(t *testing.T) {
	var l []api.DDL
	for _, v := range rightValues() {
		l = append(l, dPreset("t", "b", v))
		for _, x := range []api.Type{tInt, tLong, text(1), bytes(120)} {
			c := withDefault(column(0, "b", x), v)
			l = append(l, dAdd("t", c), dAdd("t", nullable(c)), dCreate("t", "x", c, nullable(c), c))
		}
	}
	for most := 1; most <= 120; most++ {
		l = append(l, dWiden("t", "b", text(most)), dWiden("t", "b", bytes(most)))
	}
	for length := 1; length <= 16; length++ {
		n := repeated(length)
		l = append(l, dCreate(n, n, column(0, n, tInt)), dDrop(n), dRename(n, n), dAdd(n, column(0, n, tInt)), dCut(n, n), dCall(n, n, n), dWiden(n, n, tLong), dPreset(n, n, null))
	}
	for _, d := range l {
		checkDDL(t, d, changeText(d))
	}
}

// P11.2: the empty string, and each proper prefix of an encoding.
func TestPrefixes(t *testing.T) {
	for _, x := range decoders() {
		x.rejects(t, "empty", "", api.ErrEnd)
		for _, l := range x.samples {
			s := joined(l)
			if _, e := x.read(s); e != api.OK {
				t.Errorf("the error of %s(%q) is %d", x.name, s, e)
			}
			for end := range len(s) {
				x.rejects(t, "prefix", s[:end], api.ErrEnd)
			}
		}
	}
	whole := catalogText(wholeTables())
	for end := range len(whole) {
		checkReadCatalog(t, whole[:end], api.Catalog{}, api.ErrEnd)
	}
}

// P11.2: something behind the end.
func TestSomethingBehind(t *testing.T) {
	for _, x := range decoders() {
		for _, l := range x.samples {
			s := joined(l)
			for b := range 256 {
				behind := s + string([]byte{byte(b)})
				if x.whole {
					x.rejects(t, "extra", behind, api.ErrExtra)
				}
				x.check(t, behind)
			}
		}
	}
}

// P11.2: the version, the Kinds, the Op and the flags: what they may not be is
// found before anything that follows, or is missing.
func TestBytesOfAChoice(t *testing.T) {
	eachPlace(func(x decoder, before string, p piece, after string) {
		if p.kind != "b" {
			return
		}
		for b := range uint64(256) {
			s := before + string([]byte{byte(b)})
			if b >= p.least && b <= p.most {
				x.check(t, s+after)
				continue
			}
			for _, behind := range []string{"", after, after + "\x00", "\xff"} {
				x.rejects(t, "byte", s+behind, api.ErrForm)
			}
		}
	})
}

// P11.2: the byte 0x81 would be a varint that is too long, but neither version
// nor Kind nor flag nor Op is a varint.
func TestBytesAreNoVarints(t *testing.T) {
	for _, s := range []string{"\x81", "\x81\x00", "\x80\x00"} {
		checkReadValue(t, s, null, 0, api.ErrForm)
		checkReadCatalog(t, s, api.Catalog{}, api.ErrForm)
		checkReadDDL(t, s, api.DDL{}, api.ErrForm)
		checkReadDDL(t, "\x01"+s, api.DDL{}, api.ErrForm)
	}
}

// P11.2: numbers that are not valid varints, and those that end too early.
func TestNumbersThatAreNotVarints(t *testing.T) {
	eachPlace(func(x decoder, before string, p piece, after string) {
		if !strings.Contains("nil", p.kind) {
			return
		}
		for _, wrong := range []string{
			"\x80\x00", "\x81\x00", "\xff\x00", "\x80\x80\x00", "\xff\xff\xff\x00", strings.Repeat("\xff", 8) + "\x00", strings.Repeat("\x80", 9) + "\x00",
			strings.Repeat("\xff", 9) + "\x02", strings.Repeat("\x80", 9) + "\x7f", strings.Repeat("\x80", 10), strings.Repeat("\xff", 11), strings.Repeat("\x80", 10) + "\x01",
		} {
			for _, behind := range []string{"", after, "\x00"} {
				x.rejects(t, "varint", before+wrong+behind, api.ErrForm)
			}
		}
		for size := range 10 {
			for _, b := range []string{"\x80", "\x81", "\xff"} {
				x.rejects(t, "varint", before+strings.Repeat(b, size), api.ErrEnd)
			}
		}
	})
}

// P11.2: each number at its limit, and above it.
func TestLimitsOfNumbers(t *testing.T) {
	eachPlace(func(x decoder, before string, p piece, after string) {
		if p.kind != "n" {
			return
		}
		for _, above := range []uint64{p.most + 1, p.most + 2, max(p.most+1, 128), max(p.most+1, 1<<32), 1 << 63, 1<<63 + 1, math.MaxUint64} {
			for _, behind := range []string{"", after, after + "\x00"} {
				x.rejects(t, "above the limit", before+varint(above)+behind, api.ErrForm)
			}
		}
		if after != "" {
			for _, n := range []uint64{p.most, p.most - 1, 1} {
				x.rejects(t, "at the limit", before+varint(n), api.ErrEnd)
			}
		}
		for _, n := range []uint64{0, 1, p.most - 1, p.most} {
			x.check(t, before+varint(n)+after)
		}
	})
}

// P11.2: the number of a KInt fits 32 bits, that of a KLong is any of 64 bits.
func TestLimitsOfValues(t *testing.T) {
	eachPlace(func(x decoder, before string, p piece, after string) {
		for _, n := range []int64{math.MaxInt32 + 1, math.MinInt32 - 1, math.MaxInt32 + 2, 1 << 32, -1 << 32, 1<<32 + 1, math.MaxInt64, math.MinInt64} {
			switch p.kind {
			case "i":
				for _, behind := range []string{"", after, after + "\x00"} {
					x.rejects(t, "above 32 bits", before+zigzag(n)+behind, api.ErrForm)
				}
			case "l":
				x.rejects(t, "64 bits", before+zigzag(n)+after, api.OK)
			}
		}
		for _, n := range []int64{math.MaxInt32, math.MinInt32, 0, -1} {
			if p.kind == "i" || p.kind == "l" {
				x.rejects(t, "32 bits", before+zigzag(n)+after, api.OK)
			}
		}
	})
}

// P11.2: the bytes of a KText are valid UTF-8, all of them.
func TestTextsThatAreNotValid(t *testing.T) {
	wrong := []string{"\x80", "\xff", "\xc3", "\xc0\x80", "\xc3a", "\xed\xa0\x80", "\xed\xbf\xbf", "\xe2\x82", "\xf4\x90\x80\x80", "\xf0\x8f\xbf\xbf", "\xf8\x88\x80\x80\x80", "a\xff", "é\xa9", repeated(119) + "\xc3", "\xff" + repeated(119)}
	eachPlace(func(x decoder, before string, p piece, after string) {
		if p.kind != "T" {
			return
		}
		// The length has one byte.
		before = before[:len(before)-1]
		for _, s := range wrong {
			for _, behind := range []string{"", after, after + "\x00"} {
				x.rejects(t, "no UTF-8", before+varint(uint64(len(s)))+s+behind, api.ErrForm)
			}
			if len(s) < 120 {
				x.rejects(t, "no UTF-8, too short", before+varint(uint64(len(s)+1))+s, api.ErrEnd)
			}
		}
	})
	for _, s := range wrong {
		checkValue(t, vBytes(s), "\x04"+varint(uint64(len(s)))+s)
	}
}

// P11.2: where a fault is followed by another one, the first one counts; the
// faults of the whole come last, something behind the end before what is not
// valid.
func TestWhichErrorIsFirst(t *testing.T) {
	for s, e := range map[string]api.Errno{
		"\x02":                              api.ErrForm, // version, end
		"\x02\x07":                          api.ErrForm, // version, number of tables
		"\x01\x07":                          api.ErrForm, // number of tables, end
		"\x01\x80":                          api.ErrEnd,  // within a number
		"\x01\x86\x00":                      api.ErrForm, // longer than needed
		"\x01\x00\x00":                      api.ErrExtra,
		"\x01\x01":                          api.ErrEnd,
		"\x01\x01\x00\x11":                  api.ErrForm, // length of a name, end
		"\x01\x01\x00\x10":                  api.ErrEnd,
		"\x01\x01\x00\x01A":                 api.ErrEnd,  // a name that is none, end
		"\x01\x01\x00\x01A\x00\x01\x0b":     api.ErrForm, // number of columns, end
		"\x01\x01\x00\x01A\x00\x01\x00":     api.ErrForm, // not valid
		"\x01\x01\x00\x01A\x00\x01\x00\x00": api.ErrExtra,
		"\x01\x01\x00\x01t\x00\x01\x01\x00": api.ErrEnd,
		"\x01\x01\x00\x01t\x00\x01\x01\x00\x01a\x00":                         api.ErrForm, // type, end
		"\x01\x01\x00\x01t\x00\x01\x01\x00\x01a\x01\x79":                     api.ErrForm, // Max, end
		"\x01\x01\x00\x01t\x00\x01\x01\x00\x01a\x01\x78":                     api.ErrEnd,  // an int with a Max, end
		"\x01\x01\x00\x01t\x00\x01\x01\x00\x01a\x01\x78\x02":                 api.ErrForm, // flag, end
		"\x01\x01\x00\x01t\x00\x01\x01\x00\x01a\x01\x78\x01":                 api.ErrEnd,
		"\x01\x01\x00\x01t\x00\x01\x01\x00\x01a\x01\x78\x00\x05":             api.ErrForm, // default, end
		"\x01\x01\x00\x01t\x00\x01\x01\x00\x01a\x01\x78\x00\x00":             api.ErrForm, // not valid
		"\x01\x01\x00\x01t\x00\x01\x01\x00\x01a\x01\x78\x00\x00\xff":         api.ErrExtra,
		"\x01\x01\x00\x01t\x00\x01\x01\x00\x01a\x01\x00\x00\x03\x02":         api.ErrEnd,
		"\x01\x01\x00\x01t\x00\x01\x01\x00\x01a\x01\x00\x00\x03\x02\xff":     api.ErrEnd, // bytes are missing, so that they cannot be judged
		"\x01\x01\x00\x01t\x00\x01\x01\x00\x01a\x01\x00\x00\x03\x02\xff\xff": api.ErrForm,
		"\x01\x02\x05\x01t\x00\x01\x01\x00\x01a\x01\x00\x00\x00\x04":         api.ErrEnd,  // Ids that decrease, end
		"\x01\x02\x05\x01t\x00\x01\x01\x00\x01a\x01\x00\x00\x00\x04\x11":     api.ErrForm, // Ids that decrease, length of a name
	} {
		checkReadCatalog(t, s, api.Catalog{}, e)
	}
	for s, e := range map[string]api.Errno{
		"\x00":                            api.ErrForm, // version, end
		"\x02\x00":                        api.ErrForm,
		"\x01":                            api.ErrEnd,
		"\x01\x00":                        api.ErrForm, // Op, end
		"\x01\x09":                        api.ErrForm,
		"\x01\x02\x11":                    api.ErrForm, // length of a name, end
		"\x01\x02\x00":                    api.ErrForm, // not printable
		"\x01\x02\x00\x00":                api.ErrExtra,
		"\x01\x02\x01T":                   api.ErrForm,
		"\x01\x02\x01Tt":                  api.ErrExtra,
		"\x01\x03\x01T":                   api.ErrEnd,
		"\x01\x03\x01T\x11":               api.ErrForm,
		"\x01\x01\x01T\x01a\x0b":          api.ErrForm, // number of columns, end
		"\x01\x01\x01T\x01a\x01":          api.ErrEnd,
		"\x01\x04\x01T\x01b\x05":          api.ErrForm, // type, end
		"\x01\x04\x01t\x01b\x01\x05":      api.ErrEnd,  // an int with a Max, end
		"\x01\x04\x01t\x01b\x01\x05\x02":  api.ErrForm, // flag, end
		"\x01\x07\x01t\x01b\x01\x05":      api.ErrForm, // not printable
		"\x01\x07\x01t\x01b\x01\x05x":     api.ErrExtra,
		"\x01\x07\x01t\x01b\x03\x00":      api.ErrForm,
		"\x01\x07\x01t\x01b\x03\x79":      api.ErrForm,
		"\x01\x08\x01T\x01b\x05":          api.ErrForm, // Kind, end
		"\x01\x08\x01t\x01b\x04\x79":      api.ErrForm, // length of a value, end
		"\x01\x08\x01t\x01b\x04\x78":      api.ErrEnd,
		"\x01\x08\x01t\x01b\x03\x01\xff":  api.ErrForm,
		"\x01\x08\x01t\x01b\x03\x01\xffx": api.ErrForm, // no UTF-8, something behind
		"\x01\x08\x01t\x01b\x03\x01x\xff": api.ErrExtra,
		"\x01\x08\x01T\x01b\x03\x01x\xff": api.ErrExtra,
		"\x01\x08\x01t\x01b\x03\x02\xff":  api.ErrEnd,
	} {
		checkReadDDL(t, s, api.DDL{}, e)
	}
	for s, e := range map[string]api.Errno{
		"\x05": api.ErrForm, "\xff": api.ErrForm, "\x01": api.ErrEnd, "\x02": api.ErrEnd, "\x03": api.ErrEnd, "\x04": api.ErrEnd,
		"\x01\x80": api.ErrEnd, "\x01\x80\x00": api.ErrForm, "\x01\x80\x80\x80\x80\x10": api.ErrForm, "\x03\x79": api.ErrForm, "\x04\x79": api.ErrForm, "\x03\x78": api.ErrEnd,
		"\x03\x02a": api.ErrEnd, "\x03\x02\xff": api.ErrEnd, "\x03\x01\xff": api.ErrForm, "\x03\x01\xc3\xa9": api.ErrForm, "\x04\x80\x01": api.ErrForm, "\x04\xf8\x00": api.ErrForm,
	} {
		checkReadValue(t, s, null, 0, e)
	}
}

// P11.2 and P11.3: all short strings.
func TestShortStrings(t *testing.T) {
	for a := range 256 {
		for b := range 256 {
			s := string([]byte{byte(a), byte(b)})
			for _, whole := range []string{s[:1], s, "\x01" + s, "\x02" + s, "\x03" + s, "\x04" + s, "\x03\x02" + s, "\x01\x02\x01" + s, "\x01\x02" + s + "t", "\x01\x01" + s + "\x01t"} {
				checkReadingValue(t, whole)
				checkReadingCatalog(t, whole)
				checkReadingDDL(t, whole)
			}
		}
	}
}

// P11.2 and P11.3: each encoding with each byte put in, replaced and removed.
func TestAlteredBytes(t *testing.T) {
	for _, x := range decoders() {
		for _, l := range x.samples {
			s := joined(l)
			if len(s) > 60 {
				continue
			}
			for i := range len(s) {
				x.check(t, s[i:])
				x.check(t, s[:i]+s[i+1:])
				for b := range 256 {
					other := string([]byte{byte(b)})
					x.check(t, s[:i]+other+s[i:])
					x.check(t, s[:i]+other+s[i+1:])
				}
			}
		}
	}
}

// P11.2 and P11.3: pieces exchanged, left out and repeated.
func TestAlteredPieces(t *testing.T) {
	eachPlace(func(x decoder, before string, p piece, after string) {
		x.check(t, before+after)
		x.check(t, before+p.bytes+p.bytes+after)
		x.check(t, before+after+p.bytes)
	})
	for _, x := range decoders() {
		for _, l := range x.samples {
			for i := range min(len(l), 30) {
				for j := range i {
					other := slices.Clone(l)
					other[i], other[j] = other[j], other[i]
					x.check(t, joined(other))
				}
			}
		}
	}
}

// P1 and P11.2: arbitrary bytes, behind beginnings that are read further.
func TestArbitraryBytes(t *testing.T) {
	random := rand.New(rand.NewSource(11))
	small := "\x00\x00\x01\x01\x01\x02\x03\x04\x05\x06\x08\x0a\x10\x78\x80abtu"
	for range 100000 {
		l := make([]byte, random.Intn(30))
		for i := range l {
			l[i] = small[random.Intn(len(small))]
			if random.Intn(10) == 0 {
				l[i] = byte(random.Intn(256))
			}
		}
		s := string(l)
		checkReadingValue(t, s)
		checkReadingCatalog(t, s)
		checkReadingCatalog(t, "\x01\x01\x00\x01t\x00\x01\x01\x00\x01a"+s)
		checkReadingCatalog(t, "\x01\x01\x01\x01t\x00\x02\x02\x00\x01a\x01\x00\x00\x00\x01"+s)
		checkReadingDDL(t, s)
		checkReadingDDL(t, "\x01\x04\x01t\x01b"+s)
		checkReadingDDL(t, "\x01\x01\x01t\x01a\x02"+s)
	}
}

// P1: long strings.
func TestLongStrings(t *testing.T) {
	for _, b := range []string{"\x00", "\x01", "\x02", "\x78", "\x80", "\xff"} {
		s := strings.Repeat(b, 1000000)
		for _, before := range []string{"", "\x01", "\x01\x01", "\x01\x06", "\x04\x78", "\x01\x02\x01t"} {
			checkReadingValue(t, before+s)
			checkReadingCatalog(t, before+s)
			checkReadingDDL(t, before+s)
		}
	}
}

// P11.3: unlike catalogs and unlike changes have unlike encodings.
func TestUnlikeThingsHaveUnlikeEncodings(t *testing.T) {
	catalogs := map[string]api.Catalog{}
	for id := range 3 {
		for _, n := range []string{"a", "aa", "b"} {
			for _, x := range []api.Type{tInt, tLong, text(1), text(2), bytes(1)} {
				for _, v := range []api.Value{null, vInt(1), vLong(1), vText(""), vText("\x01"), vBytes("")} {
					for _, c := range []api.Column{column(id, n, x), nullable(column(id, n, x))} {
						for _, key := range []int{3, 4} {
							y := api.Table{Id: 7, Name: "t", Key: key, Next: 5, Cols: []api.Column{withDefault(c, v), column(3, "k", tInt), column(4, "l", tInt)}}
							if !schema.RightTable(y) {
								continue
							}
							s, e := Catalog(catalog(y))
							if other, ok := catalogs[s]; ok || e != api.OK {
								t.Errorf("%v and %v have the encoding %q, %d", y, other, s, e)
							}
							catalogs[s] = catalog(y)
						}
					}
				}
			}
		}
	}
	changes := map[string]api.DDL{}
	for _, d := range changeBytes() {
		s, e := DDL(d)
		if other, ok := changes[s]; ok || e != api.OK {
			t.Errorf("%v and %v have the encoding %q, %d", d, other, s, e)
		}
		changes[s] = d
	}
}

// R3: the spare capacity of a slice would show what is written behind it.
func TestArgumentsAreNotModified(t *testing.T) {
	for _, c := range []api.Catalog{{}, tables(1), tables(6), tables(7), wholeTables(), catalog(table(1, "T", columns(3)...))} {
		whole := append(slices.Clone(c.Tables), table(99, "behind"))
		for i := range whole {
			whole[i].Cols = append(slices.Clone(whole[i].Cols), api.Column{Name: "behind"})[:len(whole[i].Cols)]
		}
		given := fmt.Sprint(whole, allColumns(whole))
		c.Tables = whole[:len(whole)-1]
		first, e := Catalog(c)
		if after := fmt.Sprint(whole, allColumns(whole)); after != given {
			t.Errorf("Catalog modified its argument: %s, %s", given, after)
		}
		if again, e2 := Catalog(c); again != first || e2 != e {
			t.Errorf("Catalog(%v) is %q, %d, and then %q, %d", c, first, e, again, e2)
		}
	}
	for _, d := range append(ordinary(), dCreate("t", "a", columns(11)...), dCreate("T", "A", columns(2)...)) {
		d.Cols = append(slices.Clone(d.Cols), api.Column{Name: "behind"})[:len(d.Cols)]
		given, cols := d, slices.Clone(d.Cols[:len(d.Cols)+1])
		first, e := DDL(d)
		if !ddl.Same(d, given) || !slices.Equal(d.Cols[:len(d.Cols)+1], cols) {
			t.Errorf("DDL modified its argument %v", given)
		}
		if again, e2 := DDL(d); again != first || e2 != e {
			t.Errorf("DDL(%v) is %q, %d, and then %q, %d", d, first, e, again, e2)
		}
	}
}

// allColumns returns the columns of the tables, each with the one behind them.
func allColumns(l []api.Table) [][]api.Column {
	var all [][]api.Column
	for _, t := range l {
		all = append(all, t.Cols[:len(t.Cols)+1])
	}
	return all
}

// R3: writing into a result changes no other one, nor another part of it.
func TestResultsAreNewMemory(t *testing.T) {
	for _, c := range append([]api.Catalog{tables(6), wholeTables()}, catalogBytes()["\x01\x00"]) {
		s := catalogText(c)
		first, _ := ReadCatalog(s)
		second, _ := ReadCatalog(s)
		for i := range first.Tables {
			_ = append(first.Tables[i].Cols, column(0, "appended", tInt))
			if !schema.Same(first, c) {
				t.Errorf("after appending to the columns of table %d the result is %v", i, first)
			}
		}
		_ = append(first.Tables, table(0, "appended"))
		for i := range first.Tables {
			for j := range first.Tables[i].Cols {
				first.Tables[i].Cols[j] = column(0, "overwritten", tInt)
			}
			if i+1 < len(first.Tables) && !schema.SameTable(first.Tables[i+1], c.Tables[i+1]) {
				t.Errorf("after writing into table %d the next one is %v", i, first.Tables[i+1])
			}
			first.Tables[i] = table(0, "overwritten")
		}
		if !schema.Same(second, c) {
			t.Errorf("after writing into another result of ReadCatalog(%q) one is %v", s, second)
		}
		checkReadCatalog(t, s, c, api.OK)
	}
	for s, d := range changeBytes() {
		first, _ := ReadDDL(s)
		second, _ := ReadDDL(s)
		for i := range first.Cols {
			first.Cols[i] = column(9, "overwritten", tLong)
		}
		_ = append(first.Cols, column(0, "appended", tInt))
		if !ddl.Same(second, d) {
			t.Errorf("after writing into another result of ReadDDL(%q) one is %v", s, second)
		}
		checkReadDDL(t, s, d, api.OK)
	}
}
