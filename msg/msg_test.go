package msg_test

import (
	"bytes"
	"math"
	"slices"
	"strings"
	"testing"

	"rescind/api"
	"rescind/bin"
	"rescind/msg"
	"rescind/row"
	"rescind/value"
)

const (
	most    = math.MaxInt64
	least   = math.MinInt64
	forever = 1 << 50
	maxID   = 1 << 40
)

func number(n int) api.Value { return value.Num(n) }

func text(s string) api.Value { return api.Value{Kind: api.Text, Text: s} }

// times is a row of one value, so many times.
func times(count int, v api.Value) api.Row {
	r := make(api.Row, count)
	for i := range r {
		r[i] = v
	}
	return r
}

func insert(id, from, to int, r ...api.Value) api.Msg {
	return api.Msg{Kind: api.Insert, ID: id, From: from, To: to, Row: r}
}

func retract(id, to int) api.Msg { return api.Msg{Kind: api.Retract, ID: id, To: to} }

func cti(t int) api.Msg { return api.Msg{Kind: api.CTI, From: t} }

// known is a message, its first tick, its bytes, and how it is written.
type known struct {
	m    api.Msg
	sync int
	b    string
	s    string
}

// messages are some that may be, all of them different.
func messages() []known {
	return []known{
		{insert(5, 2, 300, number(1)), 2, "\x01\x05\x02\xac\x02\x01\x01\x02", "insert 5 [2, 300) (1)"},
		{insert(1, 0, 1), 0, "\x01\x01\x00\x01\x00", "insert 1 [0, 1) ()"},
		{insert(1, 0, 2), 0, "\x01\x01\x00\x02\x00", "insert 1 [0, 2) ()"},
		{insert(1, 1, 2), 1, "\x01\x01\x01\x02\x00", "insert 1 [1, 2) ()"},
		{insert(2, 1, 2), 1, "\x01\x02\x01\x02\x00", "insert 2 [1, 2) ()"},
		{insert(300, 9, forever, text("it's"), number(-1)), 9, "\x01\xac\x02\x09\x80\x80\x80\x80\x80\x80\x80\x02\x02\x02\x04it's\x01\x01", `insert 300 [9, 1125899906842624) ('it\27s', -1)`},
		{insert(maxID, forever-1, forever, times(8, number(0))...), forever - 1, "\x01\x80\x80\x80\x80\x80\x20\xff\xff\xff\xff\xff\xff\xff\x01\x80\x80\x80\x80\x80\x80\x80\x02\x08" + strings.Repeat("\x01\x00", 8), "insert 1099511627776 [1125899906842623, 1125899906842624) (0, 0, 0, 0, 0, 0, 0, 0)"},
		{retract(5, 2), 2, "\x02\x05\x02", "retract 5 to 2"},
		{retract(1, 0), 0, "\x02\x01\x00", "retract 1 to 0"},
		{retract(2, 5), 5, "\x02\x02\x05", "retract 2 to 5"},
		{retract(maxID, forever), forever, "\x02\x80\x80\x80\x80\x80\x20\x80\x80\x80\x80\x80\x80\x80\x02", "retract 1099511627776 to 1125899906842624"},
		{cti(0), 0, "\x03\x00", "cti 0"},
		{cti(9), 9, "\x03\x09", "cti 9"},
		{cti(300), 300, "\x03\xac\x02", "cti 300"},
		{cti(forever), forever, "\x03\x80\x80\x80\x80\x80\x80\x80\x02", "cti 1125899906842624"},
	}
}

// wrong is a message that may not be, and why.
type wrong struct {
	m api.Msg
	e api.Errno
}

// kindless are messages of none of the kinds.
func kindless() []wrong {
	return []wrong{
		{api.Msg{}, api.ErrKind},
		{api.Msg{ID: 1, From: 2, To: 3}, api.ErrKind},
		{api.Msg{Kind: 4}, api.ErrKind},
		{api.Msg{Kind: -1}, api.ErrKind},
		{api.Msg{Kind: 257, ID: 1, From: 2, To: 3}, api.ErrKind}, // as 1, if a byte told it
		{api.Msg{Kind: most}, api.ErrKind},
		{api.Msg{Kind: least, ID: -1, From: -1, To: -1, Row: make(api.Row, 9)}, api.ErrKind},
		{api.Msg{Kind: 4, ID: -1, From: 3, To: 3}, api.ErrKind},
	}
}

// wrongInserts are inserts that may not be; where more than one thing is wrong, the first one that the chapter names counts.
func wrongInserts() []wrong {
	return []wrong{
		{insert(0, 2, 3), api.ErrArg},
		{insert(-1, 2, 3), api.ErrArg},
		{insert(maxID+1, 2, 3), api.ErrArg},
		{insert(most, 2, 3), api.ErrArg},
		{insert(least, 2, 3), api.ErrArg},
		{insert(1, 2, 3, api.Value{}), api.ErrArg},
		{insert(1, 2, 3, number(1), api.Value{Kind: 3}), api.ErrArg},
		{insert(1, 2, 3, text(strings.Repeat("a", 65))), api.ErrArg},
		{insert(1, 2, 3, times(9, number(0))...), api.ErrArg},
		{insert(1, 2, 3, times(5000, number(0))...), api.ErrArg},
		{insert(0, -1, 3), api.ErrArg},
		{insert(0, 3, 3), api.ErrArg},
		{insert(1, -1, 3, api.Value{}), api.ErrArg},
		{insert(1, 3, 3, api.Value{}), api.ErrArg},
		{insert(1, -1, 3), api.ErrTime},
		{insert(1, least, 3), api.ErrTime},
		{insert(1, 2, -1), api.ErrTime},
		{insert(1, 2, least), api.ErrTime},
		{insert(1, 2, forever+1), api.ErrTime},
		{insert(1, 2, most), api.ErrTime},
		{insert(1, forever+1, 3), api.ErrTime},
		{insert(1, most, most), api.ErrTime},
		{insert(1, forever, forever+1), api.ErrTime},
		{insert(1, -2, -2), api.ErrTime},
		{insert(1, 3, 3), api.ErrSpan},
		{insert(1, 0, 0), api.ErrSpan},
		{insert(1, 4, 3), api.ErrSpan},
		{insert(1, forever, 0), api.ErrSpan},
		{insert(1, forever, forever), api.ErrSpan},
	}
}

// wrongRest are retracts and CTIs that may not be.
func wrongRest() []wrong {
	r := api.Row{number(1)}
	return []wrong{
		{retract(0, 2), api.ErrArg},
		{retract(-1, 2), api.ErrArg},
		{retract(maxID+1, 2), api.ErrArg},
		{retract(least, 2), api.ErrArg},
		{retract(0, -1), api.ErrArg},
		{api.Msg{Kind: api.Retract, ID: 1, From: 1, To: 2}, api.ErrArg},
		{api.Msg{Kind: api.Retract, ID: 1, From: -1, To: 2}, api.ErrArg},
		{api.Msg{Kind: api.Retract, ID: 1, From: 2, To: 2}, api.ErrArg},
		{api.Msg{Kind: api.Retract, ID: 1, From: most, To: most}, api.ErrArg},
		{api.Msg{Kind: api.Retract, ID: 1, To: 2, Row: r}, api.ErrArg},
		{api.Msg{Kind: api.Retract, ID: 1, To: -1, Row: make(api.Row, 1)}, api.ErrArg},
		{retract(1, -1), api.ErrTime},
		{retract(1, least), api.ErrTime},
		{retract(1, forever+1), api.ErrTime},
		{retract(1, most), api.ErrTime},
		{api.Msg{Kind: api.CTI, ID: 1}, api.ErrArg},
		{api.Msg{Kind: api.CTI, ID: -1, From: 3}, api.ErrArg},
		{api.Msg{Kind: api.CTI, ID: maxID, From: 3}, api.ErrArg},
		{api.Msg{Kind: api.CTI, ID: 1, From: -1}, api.ErrArg},
		{api.Msg{Kind: api.CTI, From: 3, To: 4}, api.ErrArg},
		{api.Msg{Kind: api.CTI, From: 3, To: -1}, api.ErrArg},
		{api.Msg{Kind: api.CTI, From: -1, To: least}, api.ErrArg},
		{api.Msg{Kind: api.CTI, From: 3, Row: r}, api.ErrArg},
		{api.Msg{Kind: api.CTI, From: -1, Row: make(api.Row, 9)}, api.ErrArg},
		{cti(-1), api.ErrTime},
		{cti(least), api.ErrTime},
		{cti(forever + 1), api.ErrTime},
		{cti(most), api.ErrTime},
	}
}

func allWrong() []wrong { return slices.Concat(kindless(), wrongInserts(), wrongRest()) }

// equal holds two messages against each other without the package's help.
func equal(a, b api.Msg) bool {
	return a.Kind == b.Kind && a.ID == b.ID && a.From == b.From && a.To == b.To && slices.Equal(a.Row, b.Row)
}

// isZero tells whether there is nothing in a message.
func isZero(m api.Msg) bool { return equal(m, api.Msg{}) }

// P8.1
func TestMake(t *testing.T) {
	r := api.Row{number(1), text("a")}
	if m := msg.Begin(5, 2, 300, r); !equal(m, insert(5, 2, 300, r...)) {
		t.Error(m)
	}
	if m := msg.Begin(5, 2, 300, nil); !equal(m, insert(5, 2, 300)) {
		t.Error(m)
	}
	if m := msg.End(5, 2); !equal(m, retract(5, 2)) {
		t.Error(m)
	}
	if m := msg.Mark(9); !equal(m, cti(9)) {
		t.Error(m)
	}
}

// P8.1: what may not be is put together as well.
func TestMakeChecksNothing(t *testing.T) {
	for _, r := range []api.Row{nil, {}, {{}}, make(api.Row, 9), times(5000, api.Value{Kind: 3}), {text(strings.Repeat("a", 65))}} {
		for _, n := range []int{least, -1, 0, 1, maxID + 1, forever + 1, most} {
			if m := msg.Begin(n, n, n, r); !equal(m, insert(n, n, n, r...)) {
				t.Fatal(n, r, m)
			}
			if m := msg.Begin(n, 1, 2, r); !equal(m, insert(n, 1, 2, r...)) {
				t.Fatal(n, r, m)
			}
			if m := msg.End(n, n); !equal(m, retract(n, n)) {
				t.Fatal(n, m)
			}
			if m := msg.Mark(n); !equal(m, cti(n)) {
				t.Fatal(n, m)
			}
		}
	}
}

// P8.1: an insert's row is its own.
func TestBeginCopies(t *testing.T) {
	whole := api.Row{number(1), text("a"), number(3)}
	before := slices.Clone(whole)
	a, b := msg.Begin(1, 2, 3, whole[:2]), msg.Begin(1, 2, 3, whole[:2])
	over := a.Row[:cap(a.Row)]
	for i := range over {
		over[i] = number(99)
	}
	if !slices.Equal(whole, before) || !slices.Equal(b.Row, before[:2]) {
		t.Fatal(whole, b)
	}
	whole[0] = number(77)
	if !slices.Equal(b.Row, before[:2]) {
		t.Fatal(b)
	}
}

// P8.1
func TestCheck(t *testing.T) {
	for _, x := range messages() {
		if e := msg.Check(x.m); e != api.OK {
			t.Error(x.m, e)
		}
	}
	for _, x := range allWrong() {
		if e := msg.Check(x.m); e != x.e {
			t.Errorf("%v: error %d and not %d", x.m, e, x.e)
		}
	}
}

// P8.1: a row without values is as good as none.
func TestEmptyRow(t *testing.T) {
	for _, m := range []api.Msg{insert(1, 2, 3), retract(1, 2), cti(3)} {
		for _, r := range []api.Row{nil, {}, make(api.Row, 0, 5)} {
			m.Row = r
			if e := msg.Check(m); e != api.OK {
				t.Error(m, e)
			}
		}
	}
}

// P8.1
func TestSync(t *testing.T) {
	for _, x := range messages() {
		if n := msg.Sync(x.m); n != x.sync {
			t.Error(x.m, n)
		}
	}
	for _, x := range allWrong() {
		if n := msg.Sync(x.m); n != 0 {
			t.Error(x.m, n)
		}
	}
}

// P8.1: of messages that may be, and of others.
func TestSame(t *testing.T) {
	var l []api.Msg
	for _, x := range messages() {
		l = append(l, x.m)
	}
	for _, x := range allWrong() {
		l = append(l, x.m)
	}
	for _, a := range l {
		for _, b := range l {
			b.Row = slices.Clone(b.Row)
			if same := msg.Same(a, b); same != equal(a, b) {
				t.Errorf("%v and %v: %v", a, b, same)
			}
		}
	}
}

// P8.1: each field counts, in a message that may be and in one that may not.
func TestSameFields(t *testing.T) {
	for _, m := range []api.Msg{insert(5, 2, 300, number(1), text("a")), {Kind: 7, ID: -1, From: most, To: least, Row: make(api.Row, 9)}} {
		others := []api.Msg{m, m, m, m, m, m, m}
		others[0].Kind++
		others[1].ID++
		others[2].From--
		others[3].To++
		others[4].Row = m.Row[:len(m.Row)-1]
		others[5].Row = append(slices.Clone(m.Row), number(0))
		others[6].Row = slices.Clone(m.Row)
		others[6].Row[1].Num++
		for _, other := range others {
			if msg.Same(m, other) || msg.Same(other, m) {
				t.Errorf("%v and %v", m, other)
			}
		}
		other := m
		other.Row = slices.Clone(m.Row)
		if !msg.Same(m, other) {
			t.Error(m)
		}
	}
	empty := retract(1, 2)
	empty.Row = api.Row{}
	if !msg.Same(empty, retract(1, 2)) || !msg.Same(retract(1, 2), empty) {
		t.Error("a row without values is as a nil one")
	}
}

// P8.2
func TestBytes(t *testing.T) {
	for _, x := range messages() {
		if b := msg.Bytes(x.m); string(b) != x.b {
			t.Errorf("%v: %v", x.m, b)
		}
	}
	for _, x := range allWrong() {
		if b := msg.Bytes(x.m); len(b) != 0 {
			t.Errorf("%v: %v", x.m, b)
		}
	}
}

// P8.2: bytes belong to who asked for them, and so does the row of a message that is read.
func TestBytesAreNew(t *testing.T) {
	for _, x := range messages() {
		before := slices.Clone(x.m.Row)
		a, b := msg.Bytes(x.m), msg.Bytes(x.m)
		from := slices.Clone(a)
		m, _ := msg.Read(bin.NewReader(from))
		n, _ := msg.Read(bin.NewReader(from))
		for i := range a[:cap(a)] {
			a[:cap(a)][i] = 77
		}
		for i := range m.Row {
			m.Row[i] = number(99)
		}
		if string(b) != x.b || string(from) != x.b || !equal(n, x.m) || !slices.Equal(x.m.Row, before) {
			t.Fatal(x.m, b, from, n)
		}
	}
}

// P8.2, with what is left behind the message
func TestRead(t *testing.T) {
	for _, x := range messages() {
		for _, behind := range []string{"", "\x00", "\x01\x01", "\xff\xff\xff"} {
			r := bin.NewReader([]byte(x.b + behind))
			if m, e := msg.Read(r); !equal(m, x.m) || e != api.OK || r.Left() != len(behind) || r.Err() != api.OK {
				t.Errorf("%q: %v, error %d, left %d", x.b, m, e, r.Left())
			}
		}
	}
}

// P8.2: bytes that can't be read.
func TestReadOfNone(t *testing.T) {
	nine := strings.Repeat("\xff", 9)
	tests := []struct {
		b string
		e api.Errno
	}{
		{"", api.ErrEnd},
		{"\x00", api.ErrForm},
		{"\x04", api.ErrForm},
		{"\x04\x01\x02\x03\x00", api.ErrForm},
		{"\x81\x01", api.ErrForm},
		{"\xff", api.ErrForm},
		{"\x01", api.ErrEnd},
		{"\x01\x05", api.ErrEnd},
		{"\x01\x05\x02", api.ErrEnd},
		{"\x01\x05\x02\x03", api.ErrEnd},
		{"\x01\x05\x02\x03\x01", api.ErrEnd},
		{"\x01\x05\x02\x03\x01\x01", api.ErrEnd},
		{"\x01\x05\x02\x83", api.ErrEnd},
		{"\x02", api.ErrEnd},
		{"\x02\x01", api.ErrEnd},
		{"\x02\x01\x80", api.ErrEnd},
		{"\x03", api.ErrEnd},
		{"\x03\xff", api.ErrEnd},
		{"\x01\x81\x00\x02\x03\x00", api.ErrForm}, // a number in more bytes than it takes
		{"\x01\x05\x82\x00\x03\x00", api.ErrForm},
		{"\x01\x05\x02\x83\x00\x00", api.ErrForm},
		{"\x01" + nine + "\x01\x02\x03\x00", api.ErrForm},
		{"\x02\x81\x00\x02", api.ErrForm},
		{"\x02\x01\x82\x00", api.ErrForm},
		{"\x03\x80\x00", api.ErrForm},
		{"\x03" + nine, api.ErrForm},
		{"\x01\x01\x01\x02\x09", api.ErrForm}, // a row that is too long
		{"\x01\x05\x02\x03\x01\x03", api.ErrForm},
		{"\x01\x05\x02\x03\x01\x02\x41", api.ErrLong},
		{"\x01\x05\x02\x03\x02\x01\x02\x02\x02a", api.ErrEnd},
		{"\x01\x00\x03\x02\x09", api.ErrForm}, // what can't be read is told ahead of what may not be
		{"\x01\x00\x03\x02\x01", api.ErrEnd},
		{"\x01\x00\x03\x02\x01\x02\x41", api.ErrLong},
		{"\x02\x00", api.ErrEnd},
		{"\x02\x00\x80\x00", api.ErrForm},
		{"\x01\x81\x00", api.ErrForm}, // the first element that can't be read tells why
		{"\x01\x05\x82\x00\x03\x09", api.ErrForm},
	}
	for _, x := range tests {
		if m, e := msg.Read(bin.NewReader([]byte(x.b))); !isZero(m) || e != x.e {
			t.Errorf("%q: %v, error %d and not %d", x.b, m, e, x.e)
		}
	}
}

// P8.2: bytes of a message that may not be.
func TestReadChecks(t *testing.T) {
	tests := []struct {
		b string
		e api.Errno
	}{
		{"\x01\x00\x01\x02\x00", api.ErrArg},
		{"\x01\x81\x80\x80\x80\x80\x20\x01\x02\x00", api.ErrArg},
		{"\x01\x00\x03\x02\x00", api.ErrArg},
		{"\x01\x01\x01\x81\x80\x80\x80\x80\x80\x80\x02\x00", api.ErrTime},
		{"\x01\x01\x81\x80\x80\x80\x80\x80\x80\x02\x01\x00", api.ErrTime},
		{"\x01\x01\x03\x02\x00", api.ErrSpan},
		{"\x01\x01\x03\x03\x01\x01\x00", api.ErrSpan},
		{"\x01\x01\x00\x00\x00", api.ErrSpan},
		{"\x02\x00\x02", api.ErrArg},
		{"\x02\x81\x80\x80\x80\x80\x20\x02", api.ErrArg},
		{"\x02\x01\x81\x80\x80\x80\x80\x80\x80\x02", api.ErrTime},
		{"\x03\x81\x80\x80\x80\x80\x80\x80\x02", api.ErrTime},
		{"\x03" + strings.Repeat("\xff", 8) + "\x7f", api.ErrTime},
	}
	for _, x := range tests {
		if m, e := msg.Read(bin.NewReader([]byte(x.b))); !isZero(m) || e != x.e {
			t.Errorf("%q: %v, error %d and not %d", x.b, m, e, x.e)
		}
	}
}

// P8.2: a reader that failed tells its own error, ahead of that it has nothing left.
func TestReadOfFailedReader(t *testing.T) {
	form := bin.NewReader([]byte{129, 0, 3, 9})
	form.Num()
	long := bin.NewReader([]byte{5, 3, 9, 3, 9, 3})
	long.Text(4)
	tests := []struct {
		r *bin.Reader
		e api.Errno
	}{{form, api.ErrForm}, {long, api.ErrLong}, {nil, api.ErrNil}}
	for _, x := range tests {
		for range 2 {
			if m, e := msg.Read(x.r); !isZero(m) || e != x.e {
				t.Errorf("%v, error %d and not %d", m, e, x.e)
			}
		}
	}
}

// P8.3: one message behind another.
func TestReadInvertsBytes(t *testing.T) {
	var all []byte
	for _, x := range messages() {
		b := msg.Bytes(x.m)
		for cut := range b {
			if m, e := msg.Read(bin.NewReader(b[:cut])); !isZero(m) || e != api.ErrEnd {
				t.Fatal(x.m, cut, m, e)
			}
		}
		all = append(all, b...)
	}
	from := bin.NewReader(all)
	for _, x := range messages() {
		if m, e := msg.Read(from); !msg.Same(m, x.m) || !equal(m, x.m) || e != api.OK {
			t.Fatal(x.m, m, e)
		}
	}
	if _, e := msg.Read(from); e != api.ErrEnd || from.Left() != 0 {
		t.Fatal(e, from.Left())
	}
}

// P8.3: whatever short bytes are read as a message are its bytes.
func TestBytesInvertRead(t *testing.T) {
	some := []byte{0, 1, 2, 3, 5, 9, 128, 172, 255}
	count := 0
	var look func(b []byte)
	look = func(b []byte) {
		r := bin.NewReader(b)
		if m, e := msg.Read(r); e == api.OK && r.Left() == 0 {
			count++
			if !bytes.Equal(msg.Bytes(m), b) {
				t.Fatal(b, m)
			}
		}
		if len(b) == 6 {
			return
		}
		for _, c := range some {
			look(append(slices.Clone(b), c))
		}
	}
	for _, kind := range []byte{1, 2, 3} {
		look([]byte{kind})
	}
	if count == 0 {
		t.Fatal("none")
	}
}

// P8.2
func TestShow(t *testing.T) {
	for _, x := range messages() {
		if s := msg.Show(x.m); s != x.s {
			t.Errorf("%v is shown as %q", x.m, s)
		}
	}
	for _, x := range allWrong() {
		if s := msg.Show(x.m); s != "" {
			t.Errorf("%v is shown as %q", x.m, s)
		}
	}
}

// P8.1 to P8.2: nothing that is handed in changes.
func TestArgumentsStay(t *testing.T) {
	whole := api.Row{number(1), text("a"), number(3)}
	before := row.Copy(whole)
	m := api.Msg{Kind: api.Insert, ID: 1, From: 2, To: 3, Row: whole[:2]}
	msg.Check(m)
	msg.Sync(m)
	msg.Same(m, m)
	msg.Bytes(m)
	msg.Show(m)
	if !row.Same(whole, before) || !equal(m, insert(1, 2, 3, before[:2]...)) {
		t.Fatal(whole, m)
	}
}
