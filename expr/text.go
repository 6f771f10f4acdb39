package expr

import (
	"strings"

	"cirrus/api"
	"cirrus/value"
	"cirrus/variant"
)

// Text returns the textual form of e.
func Text(e api.Expr) (string, api.Errno) {
	if !Valid(e) {
		return "", api.ErrForm
	}
	var b strings.Builder
	write(&b, e)
	return b.String(), api.OK
}

// Parse returns the expression whose textual form is s; ErrParse if there is none.
func Parse(s string) (api.Expr, api.Errno) {
	p := parser{rest: s}
	x, ok := p.expr(1)
	if !ok {
		return api.Expr{}, api.ErrParse
	}
	// The reading is lenient: that x is valid, and s exactly its textual form, is seen only here.
	if made, e := Text(x); e != api.OK || made != s {
		return api.Expr{}, api.ErrParse
	}
	return x, api.OK
}

// write appends the textual form of a valid expression.
func write(b *strings.Builder, e api.Expr) {
	switch e.Op {
	case "col":
		b.WriteString(e.Name)
		return
	case "const":
		s, _ := value.Text(e.Val)
		b.WriteString("'" + s)
		return
	}
	b.WriteString("(" + e.Op)
	if e.Name != "" {
		b.WriteString(" " + e.Name)
	}
	if hasPath(e.Op) {
		s, _ := variant.PathText(e.Path)
		b.WriteString(" " + s)
	}
	for _, kid := range e.Kids {
		b.WriteByte(' ')
		write(b, kid)
	}
	b.WriteByte(')')
}

// parser reads a text. Its methods return what is read if the text is a textual form; otherwise anything, or false.
type parser struct {
	rest  string // what is not read yet
	nodes int    // the expressions begun so far
}

// expr reads an expression that lies at that level.
func (p *parser) expr(level int) (api.Expr, bool) {
	p.nodes++
	if p.nodes > api.MaxExpr || level > api.MaxLevel {
		return api.Expr{}, false
	}
	if p.accept("(") {
		return p.operation(level)
	}
	if p.accept("'") {
		v, e := value.Parse(p.token())
		return api.Expr{Op: "const", Val: v}, e == api.OK
	}
	return api.Expr{Op: "col", Name: p.token()}, true
}

// operation reads what follows the ( of an expression that lies at that level.
func (p *parser) operation(level int) (api.Expr, bool) {
	x := api.Expr{Op: p.token()}
	if x.Op == "cast" && p.accept(" ") {
		x.Name = p.token()
	}
	if hasPath(x.Op) && p.accept(" ") {
		path, e := variant.ParsePath(p.token())
		if e != api.OK {
			return api.Expr{}, false
		}
		x.Path = path
	}
	for p.accept(" ") {
		kid, ok := p.expr(level + 1)
		if !ok {
			return api.Expr{}, false
		}
		x.Kids = append(x.Kids, kid)
	}
	return x, p.accept(")")
}

// accept passes s if it comes next, and reports whether it did.
func (p *parser) accept(s string) bool {
	rest, ok := strings.CutPrefix(p.rest, s)
	p.rest = rest
	return ok
}

// token reads what comes before the next blank or ) outside of quotes.
func (p *parser) token() string {
	n := tokenEnd(p.rest)
	s := p.rest[:n]
	p.rest = p.rest[n:]
	return s
}

func tokenEnd(s string) int {
	quoted := false
	for i := 0; i < len(s); i++ {
		switch {
		case s[i] == '"':
			quoted = !quoted
		case quoted && s[i] == '\\':
			i++
		case !quoted && (s[i] == ' ' || s[i] == ')'):
			return i
		}
	}
	return len(s)
}
