package ddl

import (
	"math"
	"reflect"
	"slices"
	"strconv"
	"strings"
	"testing"

	"haulage/api"
	"haulage/name"
	"haulage/schema"
	"haulage/typ"
)

var (
	tInt  = api.Type{Kind: api.KInt}
	tLong = api.Type{Kind: api.KLong}
	null  = api.Value{}
)

func text(most int) api.Type  { return api.Type{Kind: api.KText, Max: most} }
func bytes(most int) api.Type { return api.Type{Kind: api.KBytes, Max: most} }

func vInt(n int64) api.Value    { return api.Value{Kind: api.KInt, N: n} }
func vLong(n int64) api.Value   { return api.Value{Kind: api.KLong, N: n} }
func vText(s string) api.Value  { return api.Value{Kind: api.KText, S: s} }
func vBytes(s string) api.Value { return api.Value{Kind: api.KBytes, S: s} }

// column returns a column of a new table.
func column(name string, t api.Type) api.Column { return api.Column{Name: name, Type: t} }

func nullable(c api.Column) api.Column {
	c.Null = true
	return c
}

func withDefault(c api.Column, v api.Value) api.Column {
	c.Default = v
	return c
}

// The changes, each with the fields of its Op.
func dCreate(table, key string, cols ...api.Column) api.DDL {
	return api.DDL{Op: api.DCreate, Table: table, Key: key, Cols: cols}
}

func dDrop(table string) api.DDL { return api.DDL{Op: api.DDrop, Table: table} }

func dRename(table, to string) api.DDL { return api.DDL{Op: api.DRename, Table: table, To: to} }

func dAdd(table string, c api.Column) api.DDL {
	return api.DDL{Op: api.DAdd, Table: table, Column: c.Name, Type: c.Type, Null: c.Null, Default: c.Default}
}

func dCut(table, column string) api.DDL {
	return api.DDL{Op: api.DCut, Table: table, Column: column}
}

func dCall(table, column, to string) api.DDL {
	return api.DDL{Op: api.DCall, Table: table, Column: column, To: to}
}

func dWiden(table, column string, t api.Type) api.DDL {
	return api.DDL{Op: api.DWiden, Table: table, Column: column, Type: t}
}

func dPreset(table, column string, v api.Value) api.DDL {
	return api.DDL{Op: api.DPreset, Table: table, Column: column, Default: v}
}

// goods returns a valid table with a column of each kind, whose key is neither
// the first nor the last column, and whose Ids have gaps.
func goods() api.Table {
	return api.Table{Id: 4, Name: "goods", Key: 7, Next: 20, Cols: []api.Column{
		{Id: 2, Name: "label", Type: text(5), Default: vText("new")},
		{Id: 5, Name: "weight", Type: tInt, Null: true, Default: vInt(1)},
		{Id: 7, Name: "id", Type: tLong},
		{Id: 9, Name: "seal", Type: bytes(3), Null: true},
		{Id: 18, Name: "note", Type: text(120)},
	}}
}

// carts returns a valid table whose key is the first of its two columns.
func carts() api.Table {
	return api.Table{Id: 9, Name: "carts", Key: 0, Next: 2, Cols: []api.Column{
		{Id: 0, Name: "a", Type: tInt},
		{Id: 1, Name: "b", Type: text(5), Null: true},
	}}
}

// store returns a valid catalog of two tables.
func store() api.Catalog { return api.Catalog{Tables: []api.Table{goods(), carts()}} }

// wide returns a valid table of so many columns; the first one is the key
// column.
func wide(columns int) api.Table {
	t := api.Table{Name: "w", Next: columns}
	for i := range columns {
		t.Cols = append(t.Cols, api.Column{Id: i, Name: "c" + strconv.Itoa(i), Type: tInt, Null: i > 0, Default: vInt(int64(i))})
	}
	return t
}

// many returns a valid catalog of so many tables, with the Ids 0, 3, 6 and so
// on.
func many(tables int) api.Catalog {
	var c api.Catalog
	for i := range tables {
		t := goods()
		t.Id, t.Name = 3*i, "t"+strconv.Itoa(i)
		c.Tables = append(c.Tables, t)
	}
	return c
}

func alone(t api.Table) api.Catalog { return api.Catalog{Tables: []api.Table{t}} }

// copied returns a copy of c that shares no memory with it.
func copied(c api.Catalog) api.Catalog {
	var tables []api.Table
	for _, t := range c.Tables {
		t.Cols = append([]api.Column(nil), t.Cols...)
		tables = append(tables, t)
	}
	return api.Catalog{Tables: tables}
}

func altered(c api.Catalog, alter func(l []api.Table)) api.Catalog {
	c = copied(c)
	alter(c.Tables)
	return c
}

// notRight returns catalogs that are not valid.
func notRight() []api.Catalog {
	return []api.Catalog{
		many(7),
		alone(api.Table{}),
		alone(wide(11)),
		altered(store(), func(l []api.Table) { l[0].Id = -1 }),
		altered(store(), func(l []api.Table) { l[1].Id = 4 }),
		altered(store(), func(l []api.Table) { l[0].Id = 10 }),
		altered(store(), func(l []api.Table) { l[1].Name = "goods" }),
		altered(store(), func(l []api.Table) { l[1].Name = "" }),
		altered(store(), func(l []api.Table) { l[1].Next = 1 }),
		altered(store(), func(l []api.Table) { l[1].Next = 201 }),
		altered(store(), func(l []api.Table) { l[1].Key = 1 }),
		altered(store(), func(l []api.Table) { l[0].Key = 0 }),
		altered(store(), func(l []api.Table) { l[0].Cols[4].Default = vInt(1) }),
		altered(store(), func(l []api.Table) { l[0].Cols[0].Type = text(0) }),
		altered(store(), func(l []api.Table) { l[0].Cols = nil }),
	}
}

// changes returns a change of each Op with all its fields neither zero nor
// empty, which can be applied to the store.
func changes() []api.DDL {
	return []api.DDL{
		dCreate("t", "a", column("a", tInt), nullable(withDefault(column("b", text(5)), vText("x")))),
		dDrop("goods"),
		dRename("goods", "wares"),
		dAdd("goods", nullable(withDefault(column("size", tInt), vInt(3)))),
		dCut("goods", "label"),
		dCall("goods", "label", "title"),
		dWiden("goods", "label", text(9)),
		dPreset("goods", "label", vText("old")),
	}
}

// fieldsOf are the fields of each Op, beside Op itself.
var fieldsOf = map[int]string{
	api.DCreate: "Table Key Cols",
	api.DDrop:   "Table",
	api.DRename: "Table To",
	api.DAdd:    "Table Column Type Null Default",
	api.DCut:    "Table Column",
	api.DCall:   "Table Column To",
	api.DWiden:  "Table Column Type",
	api.DPreset: "Table Column Default",
}

// plainByDefinition says whether d is well formed.
func plainByDefinition(d api.DDL) bool {
	list, ok := fieldsOf[d.Op]
	if !ok {
		return false
	}
	v := reflect.ValueOf(d)
	for i := range v.NumField() {
		field := v.Type().Field(i).Name
		empty := v.Field(i).IsZero() || field == "Cols" && v.Field(i).Len() == 0
		if field != "Op" && !slices.Contains(strings.Fields(list), field) && !empty {
			return false
		}
	}
	for _, c := range d.Cols {
		if c.Id != 0 {
			return false
		}
	}
	return true
}

// fault is an error, and whether it applies.
type fault struct {
	applies bool
	e       api.Errno
}

func firstThatApplies(l ...fault) api.Errno {
	for _, x := range l {
		if x.applies {
			return x.e
		}
	}
	return api.OK
}

// columnFaults are the errors that one column of DCreate and that of DAdd can
// have; names are those of the earlier columns.
func columnFaults(c api.Column, names []string) []fault {
	return []fault{
		{!name.Right(c.Name), api.ErrName},
		{slices.Contains(names, c.Name), api.ErrTwice},
		{!typ.Right(c.Type), api.ErrType},
		{c.Default != null && !typ.Fits(c.Type, c.Default), api.ErrRange},
	}
}

func columnNames(l []api.Column) []string {
	var names []string
	for _, c := range l {
		names = append(names, c.Name)
	}
	return names
}

func createFaults(c api.Catalog, d api.DDL, id int, names []string, ids []int) []fault {
	l := []fault{
		{!name.Right(d.Table), api.ErrName},
		{slices.Contains(names, d.Table), api.ErrTwice},
		{len(c.Tables) == 6, api.ErrLimit},
		{slices.Contains(ids, id), api.ErrOrder},
		{len(d.Cols) == 0, api.ErrForm},
		{len(d.Cols) > 10, api.ErrLimit},
	}
	for i, x := range d.Cols {
		l = append(l, columnFaults(x, columnNames(d.Cols[:i]))...)
	}
	key := slices.Index(columnNames(d.Cols), d.Key)
	return append(l, fault{key < 0, api.ErrKey}, fault{key >= 0 && d.Cols[max(key, 0)].Null, api.ErrNull})
}

// errorByDefinition says which error Apply returns.
func errorByDefinition(c api.Catalog, d api.DDL, id int) api.Errno {
	if !schema.Right(c) || !plainByDefinition(d) || id < 0 {
		return api.ErrArg
	}
	var names []string
	var ids []int
	for _, t := range c.Tables {
		names, ids = append(names, t.Name), append(ids, t.Id)
	}
	if d.Op == api.DCreate {
		return firstThatApplies(createFaults(c, d, id, names, ids)...)
	}
	if !slices.Contains(names, d.Table) {
		return api.ErrTable
	}
	t := c.Tables[slices.Index(names, d.Table)]
	columns := columnNames(t.Cols)
	if !slices.Contains([]int{api.DDrop, api.DRename, api.DAdd}, d.Op) && !slices.Contains(columns, d.Column) {
		return api.ErrColumn
	}
	x := t.Cols[max(0, slices.Index(columns, d.Column))]
	switch d.Op {
	case api.DRename:
		return firstThatApplies(fault{!name.Right(d.To), api.ErrName}, fault{slices.Contains(names, d.To), api.ErrTwice})
	case api.DAdd:
		l := []fault{{len(t.Cols) == 10 || t.Next == 200, api.ErrLimit}}
		l = append(l, columnFaults(api.Column{Name: d.Column, Type: d.Type, Default: d.Default}, columns)...)
		return firstThatApplies(append(l, fault{!d.Null && d.Default == null, api.ErrNull})...)
	case api.DCut:
		return firstThatApplies(fault{x.Id == t.Key, api.ErrKey})
	case api.DCall:
		return firstThatApplies(fault{!name.Right(d.To), api.ErrName}, fault{slices.Contains(columns, d.To), api.ErrTwice})
	case api.DWiden:
		return firstThatApplies(fault{!typ.Right(d.Type), api.ErrType}, fault{!typ.Wide(d.Type, x.Type), api.ErrNarrow})
	case api.DPreset:
		return firstThatApplies(fault{d.Default != null && !typ.Fits(x.Type, d.Default), api.ErrRange})
	}
	return api.OK
}

// applyByDefinition says what Apply returns: all tables are gone through, with
// a new one at the place of its Id.
func applyByDefinition(c api.Catalog, d api.DDL, id int) (api.Catalog, api.Errno) {
	if e := errorByDefinition(c, d, id); e != api.OK {
		return api.Catalog{}, e
	}
	var result api.Catalog
	for _, t := range copied(c).Tables {
		if t.Name != d.Table {
			result.Tables = append(result.Tables, t)
		} else if d.Op != api.DDrop {
			result.Tables = append(result.Tables, changedByDefinition(t, d))
		}
	}
	if d.Op == api.DCreate {
		t := api.Table{Id: id, Name: d.Table, Next: len(d.Cols)}
		for i, x := range d.Cols {
			x.Id = i
			t.Cols = append(t.Cols, x)
			if x.Name == d.Key {
				t.Key = i
			}
		}
		result.Tables = append(result.Tables, t)
		slices.SortFunc(result.Tables, func(a, b api.Table) int { return a.Id - b.Id })
	}
	return result, api.OK
}

func changedByDefinition(t api.Table, d api.DDL) api.Table {
	var cols []api.Column
	for _, x := range t.Cols {
		if x.Name == d.Column {
			switch d.Op {
			case api.DCut:
				continue
			case api.DCall:
				x.Name = d.To
			case api.DWiden:
				x.Default, _ = typ.Cast(x.Default, d.Type)
				x.Type = d.Type
			case api.DPreset:
				x.Default = d.Default
			}
		}
		cols = append(cols, x)
	}
	switch d.Op {
	case api.DRename:
		t.Name = d.To
	case api.DAdd:
		cols = append(cols, api.Column{Id: t.Next, Name: d.Column, Type: d.Type, Null: d.Null, Default: d.Default})
		t.Next++
	}
	t.Cols = cols
	return t
}

func checkApply(t *testing.T, c api.Catalog, d api.DDL, id int, want api.Catalog, wantE api.Errno) {
	t.Helper()
	got, e := Apply(c, d, id)
	if !schema.Same(got, want) || e != wantE {
		t.Errorf("Apply(%v, %v, %d) is %v, %d, want %v, %d", c, d, id, got, e, want, wantE)
	}
	if e == api.OK && !schema.Right(got) {
		t.Errorf("Apply(%v, %v, %d) is %v, which is not valid", c, d, id, got)
	}
}

func checkAll(t *testing.T, c api.Catalog, l []api.DDL, first int, want api.Catalog, wantN int, wantE api.Errno) {
	t.Helper()
	got, n, e := All(c, l, first)
	if !schema.Same(got, want) || n != wantN || e != wantE {
		t.Errorf("All(%v, %d changes, %d) is %v, %d, %d, want %v, %d, %d", c, len(l), first, got, n, e, want, wantN, wantE)
	}
}

// strangers returns, by their names, functions that each give one field a
// value that is neither zero nor empty.
func strangers() map[string]func(d *api.DDL) {
	return map[string]func(d *api.DDL){
		"Table":         func(d *api.DDL) { d.Table = "x" },
		"Column":        func(d *api.DDL) { d.Column = "x" },
		"To":            func(d *api.DDL) { d.To = "x" },
		"Key":           func(d *api.DDL) { d.Key = "x" },
		"Type":          func(d *api.DDL) { d.Type.Kind = api.KInt },
		"Type ":         func(d *api.DDL) { d.Type.Max = -1 },
		"Null":          func(d *api.DDL) { d.Null = true },
		"Default":       func(d *api.DDL) { d.Default.Kind = api.KInt },
		"Default ":      func(d *api.DDL) { d.Default.N = 1 },
		"Default  ":     func(d *api.DDL) { d.Default.S = "x" },
		"Cols":          func(d *api.DDL) { d.Cols = []api.Column{{}} },
		"Cols ":         func(d *api.DDL) { d.Cols = []api.Column{{Name: "x"}, {Name: "x"}} },
		"Cols with Ids": func(d *api.DDL) { d.Cols = []api.Column{{Name: "x"}, {Id: 1}} },
	}
}

// P9.1: each single field, in an otherwise ordinary change and in one without
// other fields.
func TestPlain(t *testing.T) {
	for _, d := range changes() {
		if !Plain(d) {
			t.Errorf("Plain(%v) is false", d)
		}
		for field, alter := range strangers() {
			needed := slices.Contains(strings.Fields(fieldsOf[d.Op]), strings.TrimSpace(field))
			for _, x := range []api.DDL{d, {Op: d.Op}} {
				alter(&x)
				if got := Plain(x); got != needed {
					t.Errorf("%s: Plain(%v) is %t", field, x, got)
				}
			}
		}
		if x := (api.DDL{Op: d.Op}); !Plain(x) {
			t.Errorf("Plain(%v), with all other fields zero, is false", x)
		}
		if d.Op != api.DCreate {
			d.Cols = []api.Column{}
			if !Plain(d) {
				t.Errorf("Plain(%v), with empty Cols, is false", d)
			}
		}
	}
	for _, op := range []int{math.MinInt, -1, 0, 9, 10, 1<<32 + api.DDrop, math.MaxInt} {
		if Plain(api.DDL{Op: op}) || Plain(api.DDL{Op: op, Table: "t"}) {
			t.Errorf("Plain of the Op %d is true", op)
		}
	}
}

// P9.1
func TestPlainCreate(t *testing.T) {
	for _, c := range []struct {
		what string
		cols []api.Column
		want bool
	}{
		{"nil", nil, true},
		{"empty", []api.Column{}, true},
		{"one", []api.Column{column("a", tInt)}, true},
		{"zero column", []api.Column{{}}, true},
		{"not valid but for the Id", []api.Column{{Name: "A", Type: text(-1), Default: vInt(1)}}, true},
		{"11 columns", make([]api.Column, 11), true},
		{"Id 1", []api.Column{{Id: 1, Name: "a", Type: tInt}}, false},
		{"Id -1", []api.Column{{Id: -1, Name: "a", Type: tInt}}, false},
		{"Id of the first", []api.Column{{Id: 3}, {}, {}}, false},
		{"Id in the middle", []api.Column{{}, {Id: 3}, {}}, false},
		{"Id of the last", []api.Column{{}, {}, {Id: 3}}, false},
		{"Ids that cancel out", []api.Column{{Id: 1}, {Id: -1}}, false},
		{"Id 0 in its low bits", []api.Column{{Id: 1 << 32}}, false},
		{"the Id it will have", []api.Column{column("a", tInt), {Id: 1, Name: "b", Type: tInt}}, false},
	} {
		if got := Plain(dCreate("t", "a", c.cols...)); got != c.want {
			t.Errorf("%s: Plain is %t", c.what, got)
		}
	}
}

// P9.1: every set of fields, for every Op.
func TestPlainAgainstTheDefinition(t *testing.T) {
	for set := range 1 << 8 {
		for op := -1; op <= 10; op++ {
			d := api.DDL{Op: op}
			for bit, alter := range []func(){
				func() { d.Table = "t" },
				func() { d.Column = "c" },
				func() { d.To = "u" },
				func() { d.Key = "k" },
				func() { d.Type = tInt },
				func() { d.Null = true },
				func() { d.Default = vInt(0) },
				func() { d.Cols = []api.Column{column("k", tInt)} },
			} {
				if set>>bit&1 == 1 {
					alter()
				}
			}
			if got := Plain(d); got != plainByDefinition(d) {
				t.Errorf("Plain(%v) is %t", d, got)
			}
		}
	}
}

// P9.1
func TestNames(t *testing.T) {
	for _, c := range []struct {
		d    api.DDL
		want []string
	}{
		{changes()[0], []string{"t"}},
		{dDrop("goods"), []string{"goods"}},
		{dRename("goods", "wares"), []string{"goods", "wares"}},
		{dRename("goods", "carts"), []string{"carts", "goods"}},
		{dRename("goods", "good"), []string{"good", "goods"}},
		{dRename("goods", "goods"), []string{"goods"}},
		{dRename("", ""), []string{""}},
		{dRename("goods", ""), []string{"", "goods"}},
		{dRename("\xff", "é"), []string{"é", "\xff"}},
		{changes()[3], []string{"goods"}},
		{dCut("goods", "label"), []string{"goods"}},
		{dCall("goods", "label", "title"), []string{"goods"}},
		{changes()[6], []string{"goods"}},
		{changes()[7], []string{"goods"}},
		{dDrop(""), []string{""}},
		{dDrop("No name"), []string{"No name"}},
		{api.DDL{}, nil},
		{api.DDL{Table: "t"}, nil},
		{api.DDL{Op: 9, Table: "t", To: "u"}, nil},
		{api.DDL{Op: -3, Table: "t", To: "u"}, nil},
		{api.DDL{Op: api.DDrop, Table: "t", To: "u"}, nil},
		{api.DDL{Op: api.DRename, Table: "t", To: "u", Key: "k"}, nil},
		{dCreate("t", "a", api.Column{Id: 1}), nil},
		{dCreate("t", "a"), []string{"t"}},
	} {
		if got := Names(c.d); !slices.Equal(got, c.want) {
			t.Errorf("Names(%v) is %q, want %q", c.d, got, c.want)
		}
	}
}

// P9.1: changes that differ in one part, whether or not they are well formed.
func TestSame(t *testing.T) {
	full := api.DDL{Op: 1, Table: "t", Column: "c", To: "u", Key: "k", Type: text(5), Null: true, Default: vText("x"), Cols: []api.Column{
		{Id: 2, Name: "label", Type: text(5), Null: true, Default: vText("new")},
		{Id: 5, Name: "weight", Type: tInt, Default: vInt(1)},
	}}
	for _, alter := range []func(d *api.DDL){
		func(d *api.DDL) { d.Op = 2 },
		func(d *api.DDL) { d.Op = 0 },
		func(d *api.DDL) { d.Table = "t2" },
		func(d *api.DDL) { d.Table = "" },
		func(d *api.DDL) { d.Column = "C" },
		func(d *api.DDL) { d.To = "" },
		func(d *api.DDL) { d.Key = "c" },
		func(d *api.DDL) { d.Type.Kind = api.KBytes },
		func(d *api.DDL) { d.Type.Max = 6 },
		func(d *api.DDL) { d.Null = false },
		func(d *api.DDL) { d.Default.Kind = api.KBytes },
		func(d *api.DDL) { d.Default.N = 1 },
		func(d *api.DDL) { d.Default.S = "y" },
		func(d *api.DDL) { d.Default = null },
		func(d *api.DDL) { d.Cols = nil },
		func(d *api.DDL) { d.Cols = d.Cols[:1] },
		func(d *api.DDL) { d.Cols = append(d.Cols, api.Column{}) },
		func(d *api.DDL) { d.Cols = []api.Column{d.Cols[1], d.Cols[0]} },
		func(d *api.DDL) { d.Cols[0].Id = 1 },
		func(d *api.DDL) { d.Cols[0].Name = "l" },
		func(d *api.DDL) { d.Cols[0].Type.Kind = api.KBytes },
		func(d *api.DDL) { d.Cols[0].Type.Max = 6 },
		func(d *api.DDL) { d.Cols[0].Null = false },
		func(d *api.DDL) { d.Cols[0].Default.Kind = api.KBytes },
		func(d *api.DDL) { d.Cols[0].Default.S = "" },
		func(d *api.DDL) { d.Cols[1].Default.N = 2 },
	} {
		other := full
		other.Cols = slices.Clone(full.Cols)
		alter(&other)
		if Same(full, other) || Same(other, full) {
			t.Errorf("Same of %v and %v is true", full, other)
		}
		if again := other; !Same(other, again) {
			t.Errorf("Same of %v and itself is false", other)
		}
	}
	twin := full
	twin.Cols = slices.Clone(full.Cols)
	if !Same(full, twin) || !Same(full, full) || !Same(api.DDL{}, api.DDL{}) {
		t.Error("Same of equal changes is false")
	}
	if !Same(api.DDL{Cols: []api.Column{}}, api.DDL{}) || !Same(api.DDL{}, api.DDL{Cols: []api.Column{}}) {
		t.Error("Same of nil and empty Cols is false")
	}
	for i, a := range changes() {
		for j, b := range changes() {
			if got := Same(a, b); got != (i == j) {
				t.Errorf("Same(%v, %v) is %t", a, b, got)
			}
		}
	}
}

// P9.2
func TestApplyExample(t *testing.T) {
	want := alone(api.Table{Id: 4, Name: "t", Key: 0, Next: 1, Cols: []api.Column{{Id: 0, Name: "a", Type: tInt}}})
	checkApply(t, api.Catalog{}, dCreate("t", "a", column("a", tInt)), 4, want, api.OK)
	checkApply(t, api.Catalog{Tables: []api.Table{}}, dCreate("t", "a", column("a", tInt)), 4, want, api.OK)
}

// P9.2: arguments that are not permitted, whatever else is wrong.
func TestApplyArguments(t *testing.T) {
	for _, d := range append(changes(), dDrop("z"), dCreate("Z", "z"), dCut("goods", "id")) {
		for _, c := range notRight() {
			checkApply(t, c, d, 5, api.Catalog{}, api.ErrArg)
			checkApply(t, c, d, -1, api.Catalog{}, api.ErrArg)
		}
		for _, id := range []int{-1, -2, math.MinInt} {
			checkApply(t, store(), d, id, api.Catalog{}, api.ErrArg)
			checkApply(t, api.Catalog{}, d, id, api.Catalog{}, api.ErrArg)
		}
		for field, alter := range strangers() {
			x := d
			alter(&x)
			if !slices.Contains(strings.Fields(fieldsOf[d.Op]), strings.TrimSpace(field)) {
				checkApply(t, store(), x, 5, api.Catalog{}, api.ErrArg)
				checkApply(t, api.Catalog{}, x, 5, api.Catalog{}, api.ErrArg)
			}
		}
	}
	for _, op := range []int{-1, 0, 9, math.MaxInt} {
		checkApply(t, store(), api.DDL{Op: op, Table: "goods"}, 5, api.Catalog{}, api.ErrArg)
		checkApply(t, store(), api.DDL{Op: op, Table: "z"}, 5, api.Catalog{}, api.ErrArg)
	}
}

// P9.2: the id is that of a table that is created and has no other meaning.
func TestApplyIds(t *testing.T) {
	for _, d := range changes()[1:] {
		want, _ := applyByDefinition(store(), d, 100)
		for _, id := range []int{0, 4, 9, math.MaxInt} {
			checkApply(t, store(), d, id, want, api.OK)
		}
	}
	d := dCreate("new", "a", column("a", tInt))
	for _, c := range []struct{ id, place int }{
		{0, 0}, {3, 0}, {5, 1}, {8, 1}, {10, 2}, {1000, 2}, {math.MaxInt, 2},
	} {
		got, e := Apply(store(), d, c.id)
		if e != api.OK || len(got.Tables) != 3 || got.Tables[c.place].Id != c.id || got.Tables[c.place].Name != "new" {
			t.Errorf("a table created with the id %d is at another place than %d: %v, %d", c.id, c.place, got, e)
			continue
		}
		checkApply(t, got, dDrop("new"), 0, store(), api.OK)
	}
	for _, id := range []int{4, 9} {
		checkApply(t, store(), d, id, api.Catalog{}, api.ErrOrder)
	}
	top := altered(store(), func(l []api.Table) { l[1].Id = math.MaxInt })
	checkApply(t, top, d, math.MaxInt, api.Catalog{}, api.ErrOrder)
	got, e := Apply(top, d, math.MaxInt-1)
	if e != api.OK || got.Tables[1].Name != "new" || !schema.Right(got) {
		t.Errorf("a table created below the greatest Id: %v, %d", got, e)
	}
}

// columns returns so many columns of a new table.
func columns(count int) []api.Column {
	var l []api.Column
	for i := range count {
		l = append(l, column("c"+strconv.Itoa(i), tInt))
	}
	return l
}

// P9.2
func TestApplyCreate(t *testing.T) {
	a := column("a", tInt)
	bad := []api.Column{column("", tInt), a, a}
	for _, c := range []struct {
		what string
		c    api.Catalog
		d    api.DDL
		e    api.Errno
	}{
		{"ordinary", store(), dCreate("t", "a", a), api.OK},
		{"key in the middle", store(), dCreate("t", "a", column("b", tInt), a, column("c", tInt)), api.OK},
		{"key at the end", store(), dCreate("t", "a", column("b", text(5)), column("c", bytes(7)), a), api.OK},
		{"Defaults", store(), dCreate("t", "a", withDefault(a, vInt(4)), nullable(withDefault(column("b", bytes(2)), vBytes("\xff")))), api.OK},
		{"no Default, not Null", store(), dCreate("t", "a", a, column("b", tInt)), api.OK},
		{"name of a column", store(), dCreate("label", "label", column("label", tInt)), api.OK},
		{"10 columns", store(), dCreate("t", "c9", columns(10)...), api.OK},
		{"sixth table", many(5), dCreate("t", "a", a), api.OK},
		{"name of 16 bytes", store(), dCreate(strings.Repeat("t", 16), "a", a), api.OK},

		{"no name", store(), dCreate("", "a", a), api.ErrName},
		{"name in capitals", store(), dCreate("T", "a", a), api.ErrName},
		{"name of 17 bytes", store(), dCreate(strings.Repeat("t", 17), "a", a), api.ErrName},
		{"no name, 6 tables, no column", many(6), dCreate("", ""), api.ErrName},
		{"name of a table", store(), dCreate("goods", "a", a), api.ErrTwice},
		{"name of the last table", store(), dCreate("carts", "a", a), api.ErrTwice},
		{"name of one of 6 tables", many(6), dCreate("t5", ""), api.ErrTwice},
		{"6 tables", many(6), dCreate("t", "a", a), api.ErrLimit},
		{"6 tables, one with the id", altered(many(6), func(l []api.Table) { l[5].Id = 50 }), dCreate("t", "a", a), api.ErrLimit},
		{"6 tables, no column", many(6), dCreate("t", "a"), api.ErrLimit},
		{"Id of a table", altered(store(), func(l []api.Table) { l[1].Id = 50 }), dCreate("t", "a", a), api.ErrOrder},
		{"Id of a table, name of one", altered(store(), func(l []api.Table) { l[1].Id = 50 }), dCreate("carts", "a", a), api.ErrTwice},
		{"Id of a table, no column", altered(store(), func(l []api.Table) { l[1].Id = 50 }), dCreate("t", "a"), api.ErrOrder},
		{"no column", store(), dCreate("t", "a"), api.ErrForm},
		{"no column, no Key", store(), dCreate("t", ""), api.ErrForm},
		{"empty Cols", store(), api.DDL{Op: api.DCreate, Table: "t", Key: "a", Cols: []api.Column{}}, api.ErrForm},
		{"11 columns", store(), dCreate("t", "c0", columns(11)...), api.ErrLimit},
		{"11 zero columns", store(), dCreate("t", "a", make([]api.Column, 11)...), api.ErrLimit},
		{"1000 columns", store(), dCreate("t", "c0", columns(1000)...), api.ErrLimit},

		{"zero column", store(), dCreate("t", "a", api.Column{}), api.ErrName},
		{"column without a name", store(), dCreate("t", "a", a, column("", tInt)), api.ErrName},
		{"column in capitals", store(), dCreate("t", "a", a, column("B", tInt)), api.ErrName},
		{"no name before twice", store(), dCreate("t", "a", a, column("", tInt), a), api.ErrName},
		{"no name twice", store(), dCreate("t", "a", bad...), api.ErrName},
		{"one name twice", store(), dCreate("t", "a", a, a), api.ErrTwice},
		{"one name first and last", store(), dCreate("t", "a", a, column("b", tInt), a), api.ErrTwice},
		{"twice before no name", store(), dCreate("t", "a", a, a, column("", tInt)), api.ErrTwice},
		{"twice and no Type", store(), dCreate("t", "a", a, column("a", text(0))), api.ErrTwice},
		{"no Type", store(), dCreate("t", "a", column("a", api.Type{})), api.ErrType},
		{"text(121)", store(), dCreate("t", "a", a, column("b", text(121))), api.ErrType},
		{"no Type, then twice", store(), dCreate("t", "a", column("a", text(0)), a), api.ErrType},
		{"no Type and a Default", store(), dCreate("t", "a", withDefault(column("a", api.Type{}), vInt(1))), api.ErrType},
		{"Default of another kind", store(), dCreate("t", "a", withDefault(a, vLong(1))), api.ErrRange},
		{"Default too long", store(), dCreate("t", "a", a, withDefault(column("b", text(2)), vText("abc"))), api.ErrRange},
		{"Default null with a number", store(), dCreate("t", "a", a, nullable(withDefault(column("b", tInt), api.Value{N: 1}))), api.ErrRange},
		{"Default null with a string", store(), dCreate("t", "a", a, nullable(withDefault(column("b", tInt), api.Value{S: "x"}))), api.ErrRange},
		{"Default, then no name", store(), dCreate("t", "a", withDefault(a, vLong(1)), column("", tInt)), api.ErrRange},
		{"last of 10 columns", store(), dCreate("t", "c0", append(columns(9), a, a)[1:]...), api.ErrTwice},

		{"no Key", store(), dCreate("t", "", a), api.ErrKey},
		{"Key of no column", store(), dCreate("t", "b", a), api.ErrKey},
		{"Key of no column, others Null", store(), dCreate("t", "b", nullable(a)), api.ErrKey},
		{"Key of no column, Default", store(), dCreate("t", "b", withDefault(a, vText(""))), api.ErrRange},
		{"Key of a Null column", store(), dCreate("t", "a", nullable(a)), api.ErrNull},
		{"Key of a Null column with a Default", store(), dCreate("t", "a", nullable(withDefault(a, vInt(1)))), api.ErrNull},
		{"Key of the Null one of two", store(), dCreate("t", "b", a, nullable(column("b", tInt))), api.ErrNull},
	} {
		want, e := applyByDefinition(c.c, c.d, 50)
		if e != c.e {
			t.Errorf("%s: the definition says %d", c.what, e)
		}
		checkApply(t, c.c, c.d, 50, want, c.e)
	}
}

// P9.2: all of a created table.
func TestApplyCreateWhole(t *testing.T) {
	cols := []api.Column{column("x", text(5)), nullable(withDefault(column("y", tLong), vLong(-1))), withDefault(column("z", bytes(120)), vBytes(""))}
	want := alone(api.Table{Id: 0, Name: "t", Key: 2, Next: 3, Cols: []api.Column{
		{Id: 0, Name: "x", Type: text(5)},
		{Id: 1, Name: "y", Type: tLong, Null: true, Default: vLong(-1)},
		{Id: 2, Name: "z", Type: bytes(120), Default: vBytes("")},
	}})
	checkApply(t, api.Catalog{}, dCreate("t", "z", cols...), 0, want, api.OK)
	got, e := Apply(many(5), dCreate("t", "c9", columns(10)...), 7)
	if e != api.OK || got.Tables[3].Name != "t" || got.Tables[3].Key != 9 || got.Tables[3].Next != 10 {
		t.Errorf("a table of 10 columns is %v, %d", got, e)
	}
	if checkApply(t, got, dDrop("t"), 0, many(5), api.OK); !schema.Right(got) {
		t.Errorf("the catalog with a table of 10 columns is not valid")
	}
}

// P9.2
func TestApplyTables(t *testing.T) {
	for _, c := range []struct {
		what string
		c    api.Catalog
		d    api.DDL
		want api.Catalog
		e    api.Errno
	}{
		{"drop the first", store(), dDrop("goods"), alone(carts()), api.OK},
		{"drop the last", store(), dDrop("carts"), alone(goods()), api.OK},
		{"drop the only one", alone(goods()), dDrop("goods"), api.Catalog{}, api.OK},
		{"drop one of 6", many(6), dDrop("t5"), many(5), api.OK},
		{"drop none", store(), dDrop("z"), api.Catalog{}, api.ErrTable},
		{"drop from nothing", api.Catalog{}, dDrop("goods"), api.Catalog{}, api.ErrTable},
		{"drop no name", store(), dDrop(""), api.Catalog{}, api.ErrTable},
		{"drop by a column", store(), dDrop("label"), api.Catalog{}, api.ErrTable},

		{"rename", store(), dRename("goods", "wares"), altered(store(), func(l []api.Table) { l[0].Name = "wares" }), api.OK},
		{"rename the last", store(), dRename("carts", "a"), altered(store(), func(l []api.Table) { l[1].Name = "a" }), api.OK},
		{"rename to a column", store(), dRename("goods", "label"), altered(store(), func(l []api.Table) { l[0].Name = "label" }), api.OK},
		{"rename to 16 bytes", store(), dRename("goods", strings.Repeat("t", 16)), altered(store(), func(l []api.Table) { l[0].Name = strings.Repeat("t", 16) }), api.OK},
		{"rename none", store(), dRename("z", "wares"), api.Catalog{}, api.ErrTable},
		{"rename none to no name", store(), dRename("z", ""), api.Catalog{}, api.ErrTable},
		{"rename none to itself", store(), dRename("z", "z"), api.Catalog{}, api.ErrTable},
		{"rename to no name", store(), dRename("goods", ""), api.Catalog{}, api.ErrName},
		{"rename to capitals", store(), dRename("goods", "Goods"), api.Catalog{}, api.ErrName},
		{"rename to 17 bytes", store(), dRename("goods", strings.Repeat("t", 17)), api.Catalog{}, api.ErrName},
		{"rename to the own name", store(), dRename("goods", "goods"), api.Catalog{}, api.ErrTwice},
		{"rename to another one", store(), dRename("goods", "carts"), api.Catalog{}, api.ErrTwice},
		{"rename to an earlier one", store(), dRename("carts", "goods"), api.Catalog{}, api.ErrTwice},
	} {
		checkApply(t, c.c, c.d, 50, c.want, c.e)
		if _, e := applyByDefinition(c.c, c.d, 50); e != c.e {
			t.Errorf("%s: the definition says %d", c.what, e)
		}
	}
}

// withGoods returns the store with its first table altered.
func withGoods(alter func(t *api.Table)) api.Catalog {
	return altered(store(), func(l []api.Table) { alter(&l[0]) })
}

// P9.2
func TestApplyAdd(t *testing.T) {
	size := withDefault(column("size", tInt), vInt(3))
	next := func(n int) api.Catalog { return withGoods(func(t *api.Table) { t.Next = n }) }
	added := func(c api.Catalog, table int, x api.Column) api.Catalog {
		return altered(c, func(l []api.Table) {
			x.Id = l[table].Next
			l[table].Cols = append(l[table].Cols, x)
			l[table].Next++
		})
	}
	nine := alone(wide(9))
	for _, c := range []struct {
		what string
		c    api.Catalog
		d    api.DDL
		want api.Catalog
		e    api.Errno
	}{
		{"ordinary", store(), dAdd("goods", size), added(store(), 0, size), api.OK},
		{"to the last table", store(), dAdd("carts", size), added(store(), 1, size), api.OK},
		{"Null with a Default", store(), dAdd("goods", nullable(size)), added(store(), 0, nullable(size)), api.OK},
		{"Null without a Default", store(), dAdd("goods", nullable(column("size", bytes(1)))), added(store(), 0, nullable(column("size", bytes(1)))), api.OK},
		{"name of a table", store(), dAdd("goods", nullable(column("goods", tInt))), added(store(), 0, nullable(column("goods", tInt))), api.OK},
		{"name of another table's column", store(), dAdd("goods", nullable(column("a", tInt))), added(store(), 0, nullable(column("a", tInt))), api.OK},
		{"tenth column", nine, dAdd("w", size), added(nine, 0, size), api.OK},
		{"Next 199", next(199), dAdd("goods", size), added(next(199), 0, size), api.OK},
		{"empty Default", store(), dAdd("goods", withDefault(column("s", text(1)), vText(""))), added(store(), 0, withDefault(column("s", text(1)), vText(""))), api.OK},

		{"no table", store(), dAdd("z", size), api.Catalog{}, api.ErrTable},
		{"no table, zero column", store(), dAdd("z", api.Column{}), api.Catalog{}, api.ErrTable},
		{"10 columns", alone(wide(10)), dAdd("w", size), api.Catalog{}, api.ErrLimit},
		{"10 columns, no name", alone(wide(10)), dAdd("w", api.Column{}), api.Catalog{}, api.ErrLimit},
		{"Next 200", next(200), dAdd("goods", size), api.Catalog{}, api.ErrLimit},
		{"Next 200, name of a column", next(200), dAdd("goods", column("label", tInt)), api.Catalog{}, api.ErrLimit},
		{"no name", store(), dAdd("goods", column("", tInt)), api.Catalog{}, api.ErrName},
		{"17 bytes", store(), dAdd("goods", column(strings.Repeat("s", 17), tInt)), api.Catalog{}, api.ErrName},
		{"no name, no Type", store(), dAdd("goods", api.Column{}), api.Catalog{}, api.ErrName},
		{"name of the first column", store(), dAdd("goods", column("label", api.Type{})), api.Catalog{}, api.ErrTwice},
		{"name of the key column", store(), dAdd("goods", withDefault(column("id", tInt), vInt(1))), api.Catalog{}, api.ErrTwice},
		{"name of the last column", store(), dAdd("goods", withDefault(column("note", tInt), vInt(1))), api.Catalog{}, api.ErrTwice},
		{"no Type", store(), dAdd("goods", column("size", api.Type{})), api.Catalog{}, api.ErrType},
		{"no Type, Default", store(), dAdd("goods", withDefault(column("size", text(0)), vText("x"))), api.Catalog{}, api.ErrType},
		{"Default of another kind", store(), dAdd("goods", withDefault(column("size", tInt), vLong(1))), api.Catalog{}, api.ErrRange},
		{"Default too long", store(), dAdd("goods", nullable(withDefault(column("size", text(2)), vText("abc")))), api.Catalog{}, api.ErrRange},
		{"Default null with a number", store(), dAdd("goods", withDefault(column("size", tInt), api.Value{N: 1})), api.Catalog{}, api.ErrRange},
		{"Default null, not Null", store(), dAdd("goods", column("size", tInt)), api.Catalog{}, api.ErrNull},
	} {
		checkApply(t, c.c, c.d, 50, c.want, c.e)
		if _, e := applyByDefinition(c.c, c.d, 50); e != c.e {
			t.Errorf("%s: the definition says %d", c.what, e)
		}
	}
	got, _ := Apply(next(199), dAdd("goods", size), 0)
	if x := got.Tables[0]; x.Next != 200 || x.Cols[5].Id != 199 {
		t.Errorf("the column added with Next 199 is %v", x)
	}
	checkApply(t, got, dAdd("goods", column("more", tInt)), 0, api.Catalog{}, api.ErrLimit)
}

// P9.2
func TestApplyColumns(t *testing.T) {
	label := func(alter func(c *api.Column)) api.Catalog {
		return withGoods(func(t *api.Table) { alter(&t.Cols[0]) })
	}
	without := func(i int) api.Catalog {
		return withGoods(func(t *api.Table) { t.Cols = append(t.Cols[:i:i], t.Cols[i+1:]...) })
	}
	for _, c := range []struct {
		what string
		d    api.DDL
		want api.Catalog
		e    api.Errno
	}{
		{"cut the first", dCut("goods", "label"), without(0), api.OK},
		{"cut one in the middle", dCut("goods", "seal"), without(3), api.OK},
		{"cut the last", dCut("goods", "note"), without(4), api.OK},
		{"cut the key", dCut("goods", "id"), api.Catalog{}, api.ErrKey},
		{"cut the key, the first", dCut("carts", "a"), api.Catalog{}, api.ErrKey},
		{"cut none", dCut("goods", "z"), api.Catalog{}, api.ErrColumn},
		{"cut no name", dCut("goods", ""), api.Catalog{}, api.ErrColumn},
		{"cut another table's", dCut("goods", "a"), api.Catalog{}, api.ErrColumn},
		{"cut in no table", dCut("z", "label"), api.Catalog{}, api.ErrTable},
		{"cut nothing in no table", dCut("z", "z"), api.Catalog{}, api.ErrTable},

		{"call", dCall("goods", "label", "title"), label(func(c *api.Column) { c.Name = "title" }), api.OK},
		{"call the key", dCall("goods", "id", "key"), withGoods(func(t *api.Table) { t.Cols[2].Name = "key" }), api.OK},
		{"call like the table", dCall("goods", "label", "goods"), label(func(c *api.Column) { c.Name = "goods" }), api.OK},
		{"call like another table's", dCall("goods", "label", "b"), label(func(c *api.Column) { c.Name = "b" }), api.OK},
		{"call with 16 bytes", dCall("goods", "label", strings.Repeat("l", 16)), label(func(c *api.Column) { c.Name = strings.Repeat("l", 16) }), api.OK},
		{"call no name", dCall("goods", "label", ""), api.Catalog{}, api.ErrName},
		{"call in capitals", dCall("goods", "label", "Label"), api.Catalog{}, api.ErrName},
		{"call with 17 bytes", dCall("goods", "label", strings.Repeat("l", 17)), api.Catalog{}, api.ErrName},
		{"call by the own name", dCall("goods", "label", "label"), api.Catalog{}, api.ErrTwice},
		{"call like another one", dCall("goods", "label", "note"), api.Catalog{}, api.ErrTwice},
		{"call like an earlier one", dCall("goods", "note", "label"), api.Catalog{}, api.ErrTwice},
		{"call none", dCall("goods", "z", "title"), api.Catalog{}, api.ErrColumn},
		{"call none no name", dCall("goods", "z", ""), api.Catalog{}, api.ErrColumn},
		{"call in no table", dCall("z", "label", "title"), api.Catalog{}, api.ErrTable},

		{"widen to the same", dWiden("goods", "label", text(5)), store(), api.OK},
		{"widen", dWiden("goods", "label", text(6)), label(func(c *api.Column) { c.Type.Max = 6 }), api.OK},
		{"widen and cast to bytes", dWiden("goods", "label", bytes(5)), label(func(c *api.Column) { c.Type, c.Default = bytes(5), vBytes("new") }), api.OK},
		{"widen a number and cast", dWiden("goods", "weight", tLong), withGoods(func(t *api.Table) { t.Cols[1].Type, t.Cols[1].Default = tLong, vLong(1) }), api.OK},
		{"widen a number to text", dWiden("goods", "weight", text(11)), withGoods(func(t *api.Table) { t.Cols[1].Type, t.Cols[1].Default = text(11), vText("1") }), api.OK},
		{"widen a number to bytes", dWiden("goods", "weight", bytes(120)), withGoods(func(t *api.Table) { t.Cols[1].Type, t.Cols[1].Default = bytes(120), vBytes("1") }), api.OK},
		{"widen without a Default", dWiden("goods", "seal", bytes(4)), withGoods(func(t *api.Table) { t.Cols[3].Type = bytes(4) }), api.OK},
		{"widen the key", dWiden("goods", "id", text(20)), withGoods(func(t *api.Table) { t.Cols[2].Type = text(20) }), api.OK},
		{"widen to no Type", dWiden("goods", "label", api.Type{}), api.Catalog{}, api.ErrType},
		{"widen to text(121)", dWiden("goods", "label", text(121)), api.Catalog{}, api.ErrType},
		{"widen to int with Max", dWiden("goods", "label", api.Type{Kind: api.KInt, Max: 1}), api.Catalog{}, api.ErrType},
		{"widen to less", dWiden("goods", "label", text(4)), api.Catalog{}, api.ErrNarrow},
		{"widen bytes to text", dWiden("goods", "seal", text(120)), api.Catalog{}, api.ErrNarrow},
		{"widen long to int", dWiden("goods", "id", tInt), api.Catalog{}, api.ErrNarrow},
		{"widen long to text(19)", dWiden("goods", "id", text(19)), api.Catalog{}, api.ErrNarrow},
		{"widen int to text(10), though its Default fits", dWiden("goods", "weight", text(10)), api.Catalog{}, api.ErrNarrow},
		{"widen none", dWiden("goods", "z", text(9)), api.Catalog{}, api.ErrColumn},
		{"widen none to no Type", dWiden("goods", "z", api.Type{}), api.Catalog{}, api.ErrColumn},
		{"widen in no table", dWiden("z", "label", text(9)), api.Catalog{}, api.ErrTable},

		{"preset", dPreset("goods", "label", vText("old")), label(func(c *api.Column) { c.Default = vText("old") }), api.OK},
		{"preset the same", dPreset("goods", "label", vText("new")), store(), api.OK},
		{"preset null, not Null", dPreset("goods", "label", null), label(func(c *api.Column) { c.Default = null }), api.OK},
		{"preset null, Null", dPreset("goods", "weight", null), withGoods(func(t *api.Table) { t.Cols[1].Default = null }), api.OK},
		{"preset where none was", dPreset("goods", "seal", vBytes("abc")), withGoods(func(t *api.Table) { t.Cols[3].Default = vBytes("abc") }), api.OK},
		{"preset the key", dPreset("goods", "id", vLong(1)), withGoods(func(t *api.Table) { t.Cols[2].Default = vLong(1) }), api.OK},
		{"preset another kind", dPreset("goods", "id", vInt(1)), api.Catalog{}, api.ErrRange},
		{"preset too long", dPreset("goods", "seal", vBytes("abcd")), api.Catalog{}, api.ErrRange},
		{"preset null with a number", dPreset("goods", "weight", api.Value{N: 1}), api.Catalog{}, api.ErrRange},
		{"preset null with a string", dPreset("goods", "label", api.Value{S: "x"}), api.Catalog{}, api.ErrRange},
		{"preset not valid", dPreset("goods", "label", vText("\xff")), api.Catalog{}, api.ErrRange},
		{"preset none", dPreset("goods", "z", vText("old")), api.Catalog{}, api.ErrColumn},
		{"preset in no table", dPreset("z", "label", vText("old")), api.Catalog{}, api.ErrTable},
	} {
		checkApply(t, store(), c.d, 50, c.want, c.e)
		if _, e := applyByDefinition(store(), c.d, 50); e != c.e {
			t.Errorf("%s: the definition says %d", c.what, e)
		}
	}
}

// P9.2: there and back.
func TestApplyBack(t *testing.T) {
	for _, l := range [][]api.DDL{
		{dPreset("goods", "label", null), dPreset("goods", "label", vText("new"))},
		{dPreset("goods", "seal", vBytes("")), dPreset("goods", "seal", null)},
		{dRename("goods", "wares"), dRename("wares", "goods")},
		{dCall("goods", "id", "key"), dCall("goods", "key", "id")},
		{dCreate("t", "a", column("a", tInt)), dDrop("t")},
		{dRename("goods", "x"), dRename("carts", "goods"), dRename("goods", "carts"), dRename("x", "goods")},
	} {
		checkAll(t, store(), l, 20, store(), len(l), api.OK)
	}
}

// somewhere returns changes of all Ops with all combinations of some fields.
func somewhere() []api.DDL {
	tables := []string{"", "T", "goods", "w", "t0", "z"}
	names := []string{"", "A", "label", "id", "c0", "c9", "new"}
	types := []api.Type{{}, tInt, tLong, text(0), text(5), text(20), bytes(3), bytes(20)}
	values := []api.Value{null, {N: 1}, vInt(1), vLong(1), vText("abc"), vBytes("abcdef")}
	var l []api.DDL
	for _, table := range tables {
		l = append(l, dDrop(table))
		for _, other := range append(tables, names...) {
			l = append(l, dRename(table, other), api.DDL{Op: api.DDrop, Table: table, To: other})
		}
		for _, s := range names {
			l = append(l, dCut(table, s))
			for _, other := range names {
				l = append(l, dCall(table, s, other))
			}
			for _, u := range types {
				l = append(l, dWiden(table, s, u))
				for _, v := range values {
					x := withDefault(column(s, u), v)
					l = append(l, dAdd(table, x), dAdd(table, nullable(x)), dPreset(table, s, v))
				}
			}
		}
	}
	return append(l, created(tables)...)
}

// created returns changes that create a table with up to two columns.
func created(tables []string) []api.DDL {
	var cols []api.Column
	for _, s := range []string{"", "a", "b"} {
		for _, u := range []api.Type{text(0), tInt, text(5)} {
			for _, v := range []api.Value{null, {S: "x"}, vInt(1), vText("abc")} {
				cols = append(cols, withDefault(column(s, u), v), nullable(withDefault(column(s, u), v)))
			}
		}
	}
	var l []api.DDL
	for _, table := range tables {
		for _, key := range []string{"", "a", "b"} {
			l = append(l, dCreate(table, key))
		}
	}
	for i, x := range cols {
		for _, key := range []string{"", "a", "b"} {
			l = append(l, dCreate(tables[i%len(tables)], key, x), dCreate("new", key, x))
			for _, y := range cols {
				l = append(l, dCreate("new", key, x, y))
			}
		}
	}
	return l
}

// P9.2: each of many changes, of several catalogs.
func TestApplyAgainstTheDefinition(t *testing.T) {
	full := many(6)
	catalogs := []api.Catalog{
		{}, store(), alone(wide(1)), alone(wide(10)), many(5), full,
		withGoods(func(t *api.Table) { t.Next = 199 }),
		withGoods(func(t *api.Table) { t.Next = 200 }),
		withGoods(func(t *api.Table) { t.Next = 201 }),
		many(7),
	}
	for _, d := range somewhere() {
		for i, c := range catalogs {
			id := []int{0, 4, 7, -1, 100}[(i+len(d.Cols))%5]
			want, e := applyByDefinition(c, d, id)
			checkApply(t, c, d, id, want, e)
			if t.Failed() {
				return
			}
		}
	}
	d := dCreate("new", "a", column("a", tInt))
	for _, c := range catalogs {
		for id := -2; id <= 20; id++ {
			want, e := applyByDefinition(c, d, id)
			checkApply(t, c, d, id, want, e)
		}
	}
}

// presets returns so many changes that can be applied to the store.
func presets(count int) []api.DDL {
	var l []api.DDL
	for i := range count {
		l = append(l, dPreset("goods", "weight", vInt(int64(i))))
	}
	return l
}

func withWeight(n int64) api.Catalog {
	return withGoods(func(t *api.Table) { t.Cols[1].Default = vInt(n) })
}

// P9.3
func TestAll(t *testing.T) {
	wrong := dDrop("z")
	failing := func(count, at int) []api.DDL {
		l := presets(count)
		l[at] = wrong
		return l
	}
	for _, c := range []struct {
		what  string
		l     []api.DDL
		first int
		want  api.Catalog
		n     int
		e     api.Errno
	}{
		{"nil", nil, 0, store(), 0, api.OK},
		{"empty", []api.DDL{}, 0, store(), 0, api.OK},
		{"no change, the greatest first", nil, math.MaxInt, store(), 0, api.OK},
		{"1 change", presets(1), 0, withWeight(0), 1, api.OK},
		{"3 changes", presets(3), 50, withWeight(2), 3, api.OK},
		{"399 changes", presets(399), 50, withWeight(398), 399, api.OK},
		{"400 changes", presets(400), 50, withWeight(399), 400, api.OK},
		{"401 changes", presets(401), 50, api.Catalog{}, 400, api.ErrLimit},
		{"1000 changes", presets(1000), 50, api.Catalog{}, 400, api.ErrLimit},
		{"401 changes, an error at the first", failing(401, 0), 50, api.Catalog{}, 400, api.ErrLimit},
		{"401 changes, a negative first", presets(401), -1, api.Catalog{}, 400, api.ErrLimit},
		{"401 changes, a first too great", presets(401), math.MaxInt, api.Catalog{}, 400, api.ErrLimit},
		{"an error at the only one", failing(1, 0), 50, api.Catalog{}, 0, api.ErrTable},
		{"an error at the first", failing(10, 0), 50, api.Catalog{}, 0, api.ErrTable},
		{"an error in the middle", failing(10, 4), 50, api.Catalog{}, 4, api.ErrTable},
		{"an error at the last", failing(10, 9), 50, api.Catalog{}, 9, api.ErrTable},
		{"an error at the last of 400", failing(400, 399), 50, api.Catalog{}, 399, api.ErrTable},
		{"two errors", []api.DDL{dCut("goods", "seal"), dCut("goods", "seal"), wrong}, 50, api.Catalog{}, 1, api.ErrColumn},
		{"not well formed", []api.DDL{dCut("goods", "seal"), {}, wrong}, 50, api.Catalog{}, 1, api.ErrArg},
		{"a negative first", presets(3), -1, api.Catalog{}, 0, api.ErrArg},
		{"the least first", presets(3), math.MinInt, api.Catalog{}, 0, api.ErrArg},
		{"first + n up to 2^63 - 1", presets(3), math.MaxInt - 2, withWeight(2), 3, api.OK},
		{"first + n up to 2^63", presets(3), math.MaxInt - 1, api.Catalog{}, 2, api.ErrArg},
		{"first + n from 2^63 - 1", presets(3), math.MaxInt, api.Catalog{}, 1, api.ErrArg},
		{"1 change at 2^63 - 1", presets(1), math.MaxInt, withWeight(0), 1, api.OK},
		{"2^63 at a change with another error", []api.DDL{presets(1)[0], wrong}, math.MaxInt, api.Catalog{}, 1, api.ErrArg},
		{"an error before 2^63", []api.DDL{wrong, presets(1)[0]}, math.MaxInt, api.Catalog{}, 0, api.ErrTable},
		{"400 changes up to 2^63 - 1", presets(400), math.MaxInt - 399, withWeight(399), 400, api.OK},
		{"400 changes up to 2^63", presets(400), math.MaxInt - 398, api.Catalog{}, 399, api.ErrArg},
	} {
		t.Run(c.what, func(t *testing.T) { checkAll(t, store(), c.l, c.first, c.want, c.n, c.e) })
	}
	for _, c := range notRight() {
		checkAll(t, c, presets(2), 50, api.Catalog{}, 0, api.ErrArg)
		checkAll(t, c, presets(401), 50, api.Catalog{}, 400, api.ErrLimit)
	}
}

// P9.3: without a change there is none that could have an error.
func TestAllOfNoChanges(t *testing.T) {
	for _, c := range append(notRight(), store(), api.Catalog{}) {
		checkAll(t, c, nil, 0, c, 0, api.OK)
		checkAll(t, c, nil, -1, c, 0, api.OK)
	}
}

// P9.3: the n-th change has the id first + n, whatever the others are.
func TestAllIds(t *testing.T) {
	a := column("a", tInt)
	l := []api.DDL{dCreate("x", "a", a), dRename("x", "y"), dCreate("x", "a", a), dDrop("y"), dCreate("y", "a", a)}
	for _, first := range []int{0, 3, 1000, math.MaxInt - 4} {
		table := func(id int, name string) api.Table {
			return api.Table{Id: id, Name: name, Next: 1, Cols: []api.Column{a}}
		}
		want := api.Catalog{Tables: []api.Table{table(first+2, "x"), table(first+4, "y")}}
		checkAll(t, api.Catalog{}, l, first, want, 5, api.OK)
	}
	checkAll(t, api.Catalog{}, l, math.MaxInt-3, api.Catalog{}, 4, api.ErrArg)
	checkAll(t, store(), l, 2, api.Catalog{}, 2, api.ErrOrder)
	var six []api.DDL
	for i := range 7 {
		six = append(six, dCreate("t"+strconv.Itoa(i), "a", a))
	}
	checkAll(t, api.Catalog{}, six, 0, api.Catalog{}, 6, api.ErrLimit)
	got, n, e := All(api.Catalog{}, six[:6], 0)
	if len(got.Tables) != 6 || n != 6 || e != api.OK || !schema.Right(got) {
		t.Errorf("All of 6 tables is %v, %d, %d", got, n, e)
	}
}

// P9.3: what All returns is what Apply returns one after the other.
func TestAllIsApply(t *testing.T) {
	l := []api.DDL{
		dCreate("t", "k", column("v", text(9)), column("k", tInt)),
		dAdd("t", withDefault(column("w", tInt), vInt(-8))),
		dWiden("t", "w", text(11)),
		dCall("t", "w", "z"),
		dCut("t", "v"),
		dAdd("t", nullable(column("v", tLong))),
		dPreset("t", "z", vText("")),
		dRename("t", "u"),
		dWiden("u", "z", bytes(30)),
	}
	c := store()
	for n, d := range l {
		next, e := applyByDefinition(c, d, 30+n)
		if e != api.OK {
			t.Fatalf("the change %d has the error %d", n, e)
		}
		c = next
		checkAll(t, store(), l[:n+1], 30, c, n+1, api.OK)
	}
	if u := c.Tables[2]; u.Id != 30 || u.Name != "u" || u.Key != 1 || u.Next != 4 ||
		!slices.Equal(u.Cols, []api.Column{{Id: 1, Name: "k", Type: tInt}, {Id: 2, Name: "z", Type: bytes(30), Default: vBytes("")}, {Id: 3, Name: "v", Type: tLong, Null: true}}) {
		t.Errorf("the table after all is %v", u)
	}
}

// P9.4: through many changes each column has the Id that it was created with,
// and each Id is that of one column alone.
func TestColumnsKeepTheirIds(t *testing.T) {
	c := alone(wide(3))
	owners := map[string]int{"c0": 0, "c1": 1, "c2": 2}
	used := 3
	apply := func(d api.DDL) {
		t.Helper()
		next, e := Apply(c, d, 0)
		if e != api.OK {
			t.Fatalf("Apply(%v, %v) returns %d", c, d, e)
		}
		c = next
	}
	for round := 0; used < api.MaxId; round++ {
		added := "n" + strconv.Itoa(round)
		apply(dAdd("w", withDefault(column(added, tInt), vInt(1))))
		owners[added] = used
		used++
		switch round % 4 {
		case 0:
			apply(dCut("w", added))
			delete(owners, added)
		case 1:
			apply(dCall("w", added, "x"))
			owners["x"] = owners[added]
			delete(owners, added)
		case 2:
			apply(dWiden("w", "x", text(11)))
			apply(dPreset("w", "x", null))
			apply(dRename("w", "v"))
			apply(dCut("v", "x"))
			apply(dRename("v", "w"))
			delete(owners, "x")
		case 3:
			for _, s := range []string{added, "n" + strconv.Itoa(round-1)} {
				apply(dCut("w", s))
				delete(owners, s)
			}
		}
		for _, x := range c.Tables[0].Cols {
			if id, ok := owners[x.Name]; !ok || id != x.Id {
				t.Fatalf("after round %d the column %v should have the Id %d", round, x, id)
			}
		}
		if len(c.Tables[0].Cols) != len(owners) || c.Tables[0].Next != used {
			t.Fatalf("after round %d there are the columns %v, Next %d", round, c.Tables[0].Cols, c.Tables[0].Next)
		}
	}
	if _, e := Apply(c, dAdd("w", nullable(column("more", tInt))), 0); e != api.ErrLimit {
		t.Errorf("one column more than MaxId returns %d", e)
	}
}

// P9.4: a column that is removed and added again is another one.
func TestRemovedIdsAreNotGivenAgain(t *testing.T) {
	c, _, e := All(store(), []api.DDL{dCut("carts", "b"), dAdd("carts", nullable(column("b", text(5))))}, 0)
	if want := []api.Column{{Id: 0, Name: "a", Type: tInt}, {Id: 2, Name: "b", Type: text(5), Null: true}}; e != api.OK || !slices.Equal(c.Tables[1].Cols, want) || c.Tables[1].Next != 3 {
		t.Errorf("the columns are %v, %d, want %v", c.Tables[1], e, want)
	}
}

// P9.4: changes of different names, in both orders.
func TestChangesOfDifferentNamesCommute(t *testing.T) {
	l := append(changes(), dDrop("carts"), dRename("carts", "wagons"), dRename("carts", "wares"), dRename("goods", "t"),
		dAdd("carts", nullable(column("c", tInt))), dCut("carts", "b"), dCall("carts", "b", "c"), dWiden("carts", "a", tLong),
		dPreset("carts", "b", vText("z")), dCreate("wagons", "a", column("a", tLong)), dCreate("wares", "b", column("b", tInt)))
	commuted := 0
	for i, a := range l {
		for j, b := range l {
			if slices.ContainsFunc(Names(a), func(s string) bool { return slices.Contains(Names(b), s) }) {
				continue
			}
			ab := inOrder(store(), a, 20+i, b, 60+j)
			ba := inOrder(store(), b, 60+j, a, 20+i)
			if len(ab.Tables) == 0 || len(ba.Tables) == 0 {
				continue
			}
			commuted++
			if !schema.Same(ab, ba) {
				t.Errorf("%v and %v: %v in one order, %v in the other", a, b, ab, ba)
			}
		}
	}
	if commuted < 100 {
		t.Errorf("only %d pairs were possible in both orders", commuted)
	}
}

// inOrder returns no catalog if a change is not possible; none of the changes
// that it is given removes all tables.
func inOrder(c api.Catalog, a api.DDL, idA int, b api.DDL, idB int) api.Catalog {
	c, e := Apply(c, a, idA)
	if e != api.OK {
		return api.Catalog{}
	}
	c, _ = Apply(c, b, idB)
	return c
}

// R3: no call modifies what it is given.
func TestArgumentsAreNotModified(t *testing.T) {
	for _, c := range append(notRight(), store(), alone(wide(10)), many(6), many(5)) {
		// The spare capacity would show what is written behind a slice.
		c = copied(c)
		c.Tables = append(slices.Grow(c.Tables, 4), api.Table{Name: "behind"})[:len(c.Tables)]
		old := copied(c)
		for _, d := range append(changes(), dCreate("t", "b", column("a", tInt)), dCreate("t9", "a", column("a", tInt), column("b", tLong)), api.DDL{Op: 9, Cols: columns(3)}) {
			cols := slices.Clone(d.Cols)
			given := d
			Plain(d)
			Names(d)
			Same(d, d)
			Apply(c, d, 1)
			All(c, []api.DDL{d, d}, 1)
			if !reflect.DeepEqual(copied(c), old) || c.Tables[:len(c.Tables)+1][len(c.Tables)].Name != "behind" {
				t.Errorf("a call with %v modified the catalog", d)
			}
			if !slices.Equal(d.Cols, cols) || !Same(d, given) {
				t.Errorf("a call modified the change %v", given)
			}
		}
	}
	l := presets(5)
	All(store(), l, 0)
	if !reflect.DeepEqual(l, presets(5)) {
		t.Errorf("All modified the changes")
	}
}

// scribble writes into all slices of a result.
func scribble(c api.Catalog) {
	for i := range c.Tables {
		for j := range c.Tables[i].Cols {
			c.Tables[i].Cols[j] = api.Column{Name: "overwritten"}
		}
		_ = append(c.Tables[i].Cols, api.Column{Name: "appended"})
		c.Tables[i] = api.Table{Name: "overwritten"}
	}
	_ = append(c.Tables, api.Table{Name: "appended"})
}

// R3: writing into a result changes neither an argument nor a later result.
func TestResultsAreNewMemory(t *testing.T) {
	c := store()
	for _, d := range append(changes(), dWiden("goods", "label", text(5)), dDrop("carts")) {
		cols := slices.Clone(d.Cols)
		for _, call := range []func() api.Catalog{
			func() api.Catalog { r, _ := Apply(c, d, 50); return r },
			func() api.Catalog { r, _, _ := All(c, []api.DDL{d}, 50); return r },
			func() api.Catalog { r, _, _ := All(c, nil, 50); return r },
		} {
			result := call()
			want := copied(result)
			scribble(result)
			if later := call(); len(later.Tables) == 0 || !schema.Same(later, want) {
				t.Errorf("after writing into the result of %v it is %v, want %v", d, later, want)
			}
		}
		if !schema.Same(c, store()) || !slices.Equal(d.Cols, cols) {
			t.Errorf("writing into the results of %v changed an argument", d)
		}
	}
	d := dRename("goods", "wares")
	names := Names(d)
	names[0], names[1] = "x", "y"
	if later := Names(d); !slices.Equal(later, []string{"goods", "wares"}) {
		t.Errorf("after writing into the result Names is %q", later)
	}
}

// R3: no two slices of a result share memory, and none is that of an argument.
func TestResultsAreKeptThoughOthersChange(t *testing.T) {
	for _, d := range changes() {
		c := store()
		cols := slices.Clone(d.Cols)
		result, _ := Apply(c, d, 50)
		want := copied(result)
		scribble(c)
		for i := range d.Cols {
			d.Cols[i] = api.Column{}
		}
		if !schema.Same(result, want) {
			t.Errorf("the result of %v became %v", d, result)
		}
		for i := range result.Tables {
			_ = append(result.Tables[i].Cols, api.Column{Name: "appended"})
		}
		if !schema.Same(result, want) {
			t.Errorf("the result of %v with %v became %v by appending", d, cols, result)
		}
	}
}
