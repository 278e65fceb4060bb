package cssparse

import "selvedge/csstok"

// rulesOf tells the rules of a sheet's tokens that are not dropped.
func rulesOf(tokens []csstok.Token) []Rule {
	var rules []Rule
	var ahead []csstok.Token // what stands ahead of a block: a prelude, or an at-rule's beginning, which is no row of selectors
	for piece := range pieces(tokens) {
		first := piece[0]
		switch {
		case isSign(first, "{"):
			if selectors, ok := rowOf(ahead); ok {
				rules = append(rules, Rule{Selectors: selectors, Decls: declarationsOf(within(piece))})
			}
			ahead = nil
		case isSign(first, ";") && isAtRule(ahead):
			ahead = nil
		case len(ahead) > 0 || !standsBetweenRules(first):
			ahead = append(ahead, piece...)
		}
	}
	return rules
}

func standsBetweenRules(t csstok.Token) bool {
	return t.Kind == csstok.White || t.Kind == csstok.Open || t.Kind == csstok.Close
}

// isAtRule: do these tokens begin an at-rule?
func isAtRule(l []csstok.Token) bool { return len(l) > 0 && l[0].Kind == csstok.At }

// declarationsOf tells the declarations out of tokens.
func declarationsOf(tokens []csstok.Token) []Decl {
	var decls []Decl
	var taken []csstok.Token // a declaration under way, or an at-rule, which is none
	end := func() {
		if d, ok := declarationOf(taken); ok {
			decls = append(decls, d)
		}
		taken = nil
	}
	for piece := range pieces(tokens) {
		first := piece[0]
		switch {
		case isSign(first, ";"), isSign(first, "{") && isAtRule(taken):
			end()
		case len(taken) > 0 || first.Kind != csstok.White:
			taken = append(taken, piece...)
		}
	}
	end()
	return decls
}

// declarationOf tells the declaration that tokens are, if they are one.
func declarationOf(tokens []csstok.Token) (Decl, bool) {
	if len(tokens) == 0 || tokens[0].Kind != csstok.Ident {
		return Decl{}, false
	}
	rest := withoutWhiteAhead(tokens[1:])
	if len(rest) == 0 || !isSign(rest[0], ":") {
		return Decl{}, false
	}
	value, important := cutImportant(withoutWhiteBehind(withoutWhiteAhead(rest[1:])))
	if !isValue(value) {
		return Decl{}, false
	}
	return Decl{Name: small(tokens[0].Value), Value: csstok.Print(value), Important: important}, true
}

// cutImportant tells a value without the !important at its end, and whether that is there.
func cutImportant(value []csstok.Token) ([]csstok.Token, bool) {
	last := len(value) - 1
	if last < 0 || value[last].Kind != csstok.Ident || small(value[last].Value) != "important" {
		return value, false
	}
	ahead := withoutWhiteBehind(value[:last])
	last = len(ahead) - 1
	if last < 0 || !isDelim(ahead[last], "!") {
		return value, false
	}
	return withoutWhiteBehind(ahead[:last]), true
}

func isValue(tokens []csstok.Token) bool {
	var open nest
	for _, t := range tokens {
		if t.Kind == csstok.Bad || !open.pass(t) {
			return false
		}
	}
	return len(tokens) > 0
}
