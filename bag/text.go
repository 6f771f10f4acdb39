package bag

import (
	"strconv"
	"strings"

	"cirrus/api"
	"cirrus/expr"
)

// Text returns the textual form of q.
func Text(q api.Query) (string, api.Errno) {
	if !Valid(q) {
		return "", api.ErrForm
	}
	var b strings.Builder
	write(&b, q)
	return b.String(), api.OK
}

// Parse returns the query whose textual form is s; ErrParse if there is none.
func Parse(s string) (api.Query, api.Errno) {
	p := parser{rest: s}
	q, ok := p.query(1)
	if !ok {
		return api.Query{}, api.ErrParse
	}
	// The reading is lenient: that q is valid, and s exactly its textual form, is seen only here.
	if made, e := Text(q); e != api.OK || made != s {
		return api.Query{}, api.ErrParse
	}
	return q, api.OK
}

// write appends the textual form of a valid query.
func write(b *strings.Builder, q api.Query) {
	b.WriteString("(" + q.Op)
	p := parts()[q.Op]
	for _, f := range fields() {
		if p.fields&f.bit != 0 {
			b.WriteString(" " + f.text(q))
		}
	}
	for _, kid := range q.Kids {
		b.WriteByte(' ')
		write(b, kid)
	}
	b.WriteByte(')')
}

// parser reads a text. Its methods read what is there if the text is a textual form; otherwise anything, or they return false.
type parser struct {
	rest  string // what is not read yet
	nodes int    // the parts of the query begun so far
}

// query reads a part of a query that lies at that level.
func (p *parser) query(level int) (api.Query, bool) {
	p.nodes++
	if p.nodes > api.MaxQuery || level > api.MaxLevel || !p.accept("(") {
		return api.Query{}, false
	}
	q := api.Query{Op: p.token()}
	// An unknown Op has neither fields nor kids, so that nothing else is read.
	found := parts()[q.Op]
	for _, f := range fields() {
		if found.fields&f.bit != 0 && !(p.accept(" ") && f.read(p, &q)) {
			return api.Query{}, false
		}
	}
	for range found.kids {
		if !p.accept(" ") {
			return api.Query{}, false
		}
		kid, ok := p.query(level + 1)
		if !ok {
			return api.Query{}, false
		}
		q.Kids = append(q.Kids, kid)
	}
	return q, p.accept(")")
}

func (p *parser) name(q *api.Query) bool {
	q.Name = p.token()
	return true
}

func (p *parser) condition(q *api.Query) bool {
	x, ok := p.expr()
	q.Expr = x
	return ok
}

func (p *parser) cols(q *api.Query) bool {
	return p.list(func() bool {
		c := api.Named{Name: p.token()}
		x, ok := p.lastExpr()
		c.Expr = x
		q.Cols = append(q.Cols, c)
		return ok
	})
}

func (p *parser) aggs(q *api.Query) bool {
	return p.list(func() bool {
		a := api.Agg{Op: p.token()}
		if !p.accept(" ") {
			return false
		}
		a.Name = p.token()
		x, ok := p.lastExpr()
		a.Expr = x
		q.Aggs = append(q.Aggs, a)
		return ok
	})
}

func (p *parser) keys(q *api.Query) bool {
	return p.list(func() bool {
		k := api.Key{Down: p.token() == direction(true)}
		x, ok := p.lastExpr()
		k.Expr = x
		q.Keys = append(q.Keys, k)
		return ok
	})
}

func (p *parser) count(q *api.Query) bool {
	n, err := strconv.Atoi(p.token())
	q.N = n
	return err == nil
}

// list reads what entry reads, any number of times, each between parentheses, with blanks between and brackets around.
func (p *parser) list(entry func() bool) bool {
	if !p.accept("[") {
		return false
	}
	if p.accept("]") {
		return true
	}
	for p.accept("(") && entry() && p.accept(")") {
		if p.accept("]") {
			return true
		}
		if !p.accept(" ") {
			return false
		}
	}
	return false
}

// lastExpr reads the expression at the end of an entry of a list.
func (p *parser) lastExpr() (api.Expr, bool) {
	if !p.accept(" ") {
		return api.Expr{}, false
	}
	return p.expr()
}

func (p *parser) expr() (api.Expr, bool) {
	n := exprEnd(p.rest)
	x, e := expr.Parse(p.rest[:n])
	p.rest = p.rest[n:]
	return x, e == api.OK
}

// exprEnd returns how many bytes of s belong to the expression that it begins with: those before the next blank or )
// outside of quotes and of the expression's own parentheses.
func exprEnd(s string) int {
	depth, quoted := 0, false
	for i := 0; i < len(s); i++ {
		switch {
		case s[i] == '"':
			quoted = !quoted
		case quoted && s[i] == '\\':
			i++
		case quoted:
		case s[i] == '(':
			depth++
		case depth == 0 && (s[i] == ' ' || s[i] == ')'):
			return i
		case s[i] == ')':
			depth--
		}
	}
	return len(s)
}

// accept passes s if it comes next, and reports whether it did.
func (p *parser) accept(s string) bool {
	rest, ok := strings.CutPrefix(p.rest, s)
	p.rest = rest
	return ok
}

// token reads what comes before the next blank or ).
func (p *parser) token() string {
	n := strings.IndexAny(p.rest, " )")
	if n < 0 {
		n = len(p.rest)
	}
	s := p.rest[:n]
	p.rest = p.rest[n:]
	return s
}
