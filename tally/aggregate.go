package tally

import (
	"rescind/api"
	"rescind/lean"
	"rescind/multi"
	"rescind/value"
	"rescind/wide"
)

// aggregate is one aggregate of the rows that are there. What may not be put, the tally has refused ahead of it, so that put can't fail.
type aggregate interface {
	put(r api.Row, n int)
	result(start int) (api.Value, api.Errno) // of one row or more
}

// aggregateOf is a valid aggregate of no rows.
func aggregateOf(a api.Agg) aggregate {
	switch a.Kind {
	case api.Count:
		return &count{}
	case api.Sum:
		return &sum{col: a.Col}
	case api.Min:
		return &least{valuesOf(a.Col)}
	case api.Max:
		return &most{valuesOf(a.Col)}
	case api.East:
		return &east{turnsOf(a.Col)}
	case api.North:
		return &north{turnsOf(a.Col)}
	}
	return startTick{}
}

type count struct {
	rows int
}

func (c *count) put(_ api.Row, n int) { c.rows += n }

func (c *count) result(int) (api.Value, api.Errno) { return value.Num(c.rows), api.OK }

type sum struct {
	col   int
	total api.Wide // api.MaxNet numbers of 64 bits always fit into 128
}

func (s *sum) put(r api.Row, n int) { s.total, _ = wide.Add(s.total, wide.Mul(r[s.col].Num, n)) }

func (s *sum) result(int) (api.Value, api.Errno) {
	n, e := wide.Int(s.total)
	if e != api.OK {
		return api.Value{}, e
	}
	return value.Num(n), api.OK
}

// values are those of a column, in order.
type values struct {
	col int
	all *multi.Multi[api.Value]
}

func valuesOf(col int) values { return values{col: col, all: multi.New(value.Compare)} }

func (v *values) put(r api.Row, n int) { v.all.Put(r[v.col], n) }

type least struct{ values }

func (l *least) result(int) (api.Value, api.Errno) {
	v, _ := l.all.Least()
	return v, api.OK
}

type most struct{ values }

func (m *most) result(int) (api.Value, api.Errno) {
	v, _ := m.all.Most()
	return v, api.OK
}

// turns are those of a column's numbers, added up.
type turns struct {
	col int
	sum *lean.Lean
}

func turnsOf(col int) turns { return turns{col: col, sum: lean.New()} }

func (t *turns) put(r api.Row, n int) { t.sum.Put(r[t.col].Num, n) }

type east struct{ turns }

func (t *east) result(int) (api.Value, api.Errno) {
	part, _ := t.sum.Parts()
	return value.Num(part), api.OK
}

type north struct{ turns }

func (t *north) result(int) (api.Value, api.Errno) {
	_, part := t.sum.Parts()
	return value.Num(part), api.OK
}

type startTick struct{}

func (startTick) put(api.Row, int) {}

func (startTick) result(start int) (api.Value, api.Errno) { return value.Num(start), api.OK }
