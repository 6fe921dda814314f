package impl

import (
	"maps"
	"slices"
	"strings"
)

const MaxTriples = 80

type Triple struct {
	S string
	P string
	O string
}

func TripleOk(t Triple) bool {
	s, o := KindOf(t.S), KindOf(t.O)
	if s != TmName && s != TmBlank || KindOf(t.P) != TmName {
		return false
	}
	return o == TmName || o == TmText || o == TmBlank
}

func TripleText(t Triple) string {
	if !TripleOk(t) {
		return ""
	}
	return pointed(t)
}

// pointed asks nothing of t: patterns are written like triples.
func pointed(t Triple) string { return t.S + " " + t.P + " " + t.O + " ." }

// ReadTriple takes S and P from the front and the point from the end: only O may have blanks in it.
func ReadTriple(s string) (Triple, bool) {
	body, ended := strings.CutSuffix(s, " .")
	subject, rest, _ := strings.Cut(body, " ")
	predicate, object, _ := strings.Cut(rest, " ")
	t := Triple{S: subject, P: predicate, O: object}
	if !ended || !TripleOk(t) {
		return Triple{}, false
	}
	return t, true
}

func Ahead(a Triple, b Triple) bool {
	if a.S != b.S {
		return a.S < b.S
	}
	if a.P != b.P {
		return a.P < b.P
	}
	return a.O < b.O
}

func GraphOk(g []Triple) bool {
	if len(g) > MaxTriples {
		return false
	}
	for i, t := range g {
		if !TripleOk(t) || i > 0 && !Ahead(g[i-1], t) {
			return false
		}
	}
	return true
}

func With(g []Triple, t Triple) ([]Triple, bool) {
	if !GraphOk(g) || !TripleOk(t) {
		return nil, false
	}
	triples := setOf(g)
	triples[t] = true
	return graphOf(triples)
}

func Without(g []Triple, t Triple) ([]Triple, bool) {
	if !GraphOk(g) || !TripleOk(t) {
		return nil, false
	}
	triples := setOf(g)
	if !triples[t] {
		return nil, false
	}
	delete(triples, t)
	return graphOf(triples)
}

func Union(a []Triple, b []Triple) ([]Triple, bool) {
	if !GraphOk(a) || !GraphOk(b) {
		return nil, false
	}
	return graphOf(setOf(a, b))
}

// graphOf takes triples that are right already: only their number is left to be asked.
func graphOf(triples map[Triple]bool) ([]Triple, bool) {
	if len(triples) > MaxTriples {
		return nil, false
	}
	return triplesInOrder(triples), true
}

// triplesInOrder sorts, so that no answer shows the order of a map.
func triplesInOrder(triples map[Triple]bool) []Triple {
	return slices.SortedFunc(maps.Keys(triples), compareTriples)
}

func compareTriples(a Triple, b Triple) int {
	if Ahead(a, b) {
		return -1
	}
	if Ahead(b, a) {
		return 1
	}
	return 0
}

func GraphText(g []Triple) string {
	if !GraphOk(g) {
		return ""
	}
	var out strings.Builder
	for _, t := range g {
		out.WriteString(TripleText(t))
		out.WriteByte('\n')
	}
	return out.String()
}

func ReadGraph(s string) ([]Triple, bool) {
	g := []Triple{}
	for s != "" {
		line, rest, ended := strings.Cut(s, "\n")
		t, ok := ReadTriple(line)
		if !ended || !ok {
			return nil, false
		}
		g = append(g, t)
		s = rest
	}
	if !GraphOk(g) {
		return nil, false
	}
	return g, true
}
