package bag

import (
	"strconv"
	"strings"

	"cirrus/api"
	"cirrus/expr"
	"cirrus/value"
)

// The fields that some parts of a query have.
const (
	hasName = 1 << iota
	hasExpr
	hasCols
	hasAggs
	hasKeys
	hasCount
)

// field is one of these fields: when it is valid in a part that has it, and as it must be in others; how it is written
// and read.
type field struct {
	bit   int
	valid func(q api.Query) bool
	unset func(q api.Query) bool
	text  func(q api.Query) string
	read  func(p *parser, q *api.Query) bool
}

// fields returns the fields in the order in which they are written.
func fields() []field {
	return []field{
		{hasName,
			func(q api.Query) bool { return value.Word(q.Name) },
			func(q api.Query) bool { return q.Name == "" },
			func(q api.Query) string { return q.Name },
			(*parser).name},
		{hasExpr,
			func(q api.Query) bool { return expr.Valid(q.Expr) },
			func(q api.Query) bool { return unsetExpr(q.Expr) },
			func(q api.Query) string { return exprText(q.Expr) },
			(*parser).condition},
		{hasCols,
			validCols,
			func(q api.Query) bool { return len(q.Cols) == 0 },
			colsText,
			(*parser).cols},
		{hasAggs,
			validAggs,
			func(q api.Query) bool { return len(q.Aggs) == 0 },
			aggsText,
			(*parser).aggs},
		{hasKeys,
			validKeys,
			func(q api.Query) bool { return len(q.Keys) == 0 },
			keysText,
			(*parser).keys},
		{hasCount,
			func(q api.Query) bool { return 0 <= q.N && q.N <= api.MaxBag },
			func(q api.Query) bool { return q.N == 0 },
			func(q api.Query) string { return strconv.Itoa(q.N) },
			(*parser).count},
	}
}

func colsText(q api.Query) string {
	return listText(q.Cols, func(c api.Named) string { return c.Name + " " + exprText(c.Expr) })
}

func aggsText(q api.Query) string {
	return listText(q.Aggs, func(a api.Agg) string { return a.Op + " " + a.Name + " " + exprText(a.Expr) })
}

func keysText(q api.Query) string {
	return listText(q.Keys, func(k api.Key) string { return direction(k.Down) + " " + exprText(k.Expr) })
}

func direction(down bool) string {
	if down {
		return "down"
	}
	return "up"
}

func listText[T any](l []T, entry func(T) string) string {
	var texts []string
	for _, x := range l {
		texts = append(texts, "("+entry(x)+")")
	}
	return "[" + strings.Join(texts, " ") + "]"
}

func exprText(x api.Expr) string {
	s, _ := expr.Text(x)
	return s
}
