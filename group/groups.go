package group

import (
	"cmp"
	"slices"

	"rescind/api"
	"rescind/edge"
	"rescind/row"
	"rescind/tally"
	"rescind/window"
)

// table is the edges of a table.
type table []api.Edge

// add puts a row with its function behind the others.
func (l *table) add(r api.Row, f []api.Jump) { *l = append(*l, edge.Build(r, f)...) }

func (l table) clock(w api.Window, t int) (int, api.Errno) { return window.Clock(w, l, t) }

func (l table) parts(w api.Window, from, t int) ([]api.Part, api.Errno) {
	return window.Parts(w, l, from, t)
}

// group is the table of rows that have the same values.
type group struct {
	values api.Row
	table
}

// groupsOf is the groups of a table, in order. All rows have to have the columns.
func groupsOf(l []api.Edge, cols []int) []group {
	byKey := map[string]group{}
	for r, f := range edge.Groups(l) {
		values, _ := row.Pick(r, cols...)
		key := row.Key(values)
		g := byKey[key]
		g.values = values
		g.add(r, f)
		byKey[key] = g
	}
	var groups []group
	for _, g := range byKey {
		groups = append(groups, g)
	}
	slices.SortFunc(groups, func(a, b group) int { return row.Compare(a.values, b.values) })
	return groups
}

// results is the edges of the result rows of a group's windows, as they come. One tally goes from window to window, so that what they have in common is put in once.
func (g group) results(parts []api.Part, s api.Schema, aggs []api.Agg) ([]api.Edge, api.Errno) {
	rows, e := tally.New(s, aggs...)
	if e != api.OK {
		return nil, e
	}
	var made []api.Edge
	var there []api.Copy
	for _, p := range parts {
		if e := turn(rows, there, p.Rows); e != api.OK {
			return nil, e
		}
		there = p.Rows
		values, e := rows.Row(p.Span.From)
		if e != api.OK {
			return nil, e
		}
		result := slices.Concat(g.values, values)
		made = append(made, api.Edge{Row: result, At: p.Span.From, Net: 1}, api.Edge{Row: result, At: p.Span.To, Net: -1})
	}
	return made, api.OK
}

// turn has a tally hold the rows of another window. What goes is taken out first, since there has to be room for each window, and not for two.
func turn(rows *tally.Tally, old, now []api.Copy) api.Errno {
	if count(now) > api.MaxNet {
		return api.ErrFull
	}
	changes := differences(old, now)
	slices.SortFunc(changes, func(a, b api.Copy) int { return cmp.Compare(a.N, b.N) })
	for _, c := range changes {
		if e := rows.Put(c.Row, c.N); e != api.OK {
			return e
		}
	}
	return api.OK
}

// count is how many rows there are.
func count(rows []api.Copy) int {
	n := 0
	for _, c := range rows {
		n += c.N
	}
	return n
}

// differences is how many more there are of each row than there were. Both have to be in the order of rows.
func differences(old, now []api.Copy) []api.Copy {
	var l []api.Copy
	for len(old) > 0 || len(now) > 0 {
		var c api.Copy
		order := first(old, now)
		if order <= 0 {
			c, old = api.Copy{Row: old[0].Row, N: -old[0].N}, old[1:]
		}
		if order >= 0 {
			c, now = api.Copy{Row: now[0].Row, N: c.N + now[0].N}, now[1:]
		}
		if c.N != 0 {
			l = append(l, c)
		}
	}
	return l
}

// first is below 0 if the first row is one of a alone, above 0 if it is one of b alone, and 0 if it is one of both. They may not both be empty.
func first(a, b []api.Copy) int {
	switch {
	case len(a) == 0:
		return 1
	case len(b) == 0:
		return -1
	}
	return row.Compare(a[0].Row, b[0].Row)
}
