package tree

import (
	"go/ast"
	"go/parser"
	gotoken "go/token"
	"os"
	"slices"
	"strings"
	"testing"
)

// The calls that the chapter lists answer by functions alone: no variable of the package may be reached from them.

// declarations tells the bodies of the package's functions and methods by their names, and the names of its variables.
func declarations(t *testing.T) (map[string][]ast.Node, []string) {
	t.Helper()
	entries, err := os.ReadDir(".")
	if err != nil {
		t.Fatal(err)
	}
	bodies := map[string][]ast.Node{}
	var variables []string
	for _, e := range entries {
		if !strings.HasSuffix(e.Name(), ".go") || strings.HasSuffix(e.Name(), "_test.go") {
			continue
		}
		file, err := parser.ParseFile(gotoken.NewFileSet(), e.Name(), nil, 0)
		if err != nil {
			t.Fatal(err)
		}
		for _, d := range file.Decls {
			switch d := d.(type) {
			case *ast.FuncDecl:
				bodies[d.Name.Name] = append(bodies[d.Name.Name], d.Body)
			case *ast.GenDecl:
				variables = append(variables, variablesOf(d)...)
			}
		}
	}
	return bodies, variables
}

func variablesOf(d *ast.GenDecl) []string {
	var names []string
	for _, s := range d.Specs {
		if v, ok := s.(*ast.ValueSpec); ok && d.Tok == gotoken.VAR {
			for _, n := range v.Names {
				names = append(names, n.Name)
			}
		}
	}
	return names
}

// reached tells every name that stands in a function and in those that it calls.
func reached(bodies map[string][]ast.Node, function string) map[string]bool {
	names := map[string]bool{function: true}
	work := []string{function}
	for len(work) > 0 {
		name := work[0]
		work = work[1:]
		for _, b := range bodies[name] {
			ast.Inspect(b, func(n ast.Node) bool {
				if id, ok := n.(*ast.Ident); ok && !names[id.Name] {
					names[id.Name] = true
					work = append(work, id.Name)
				}
				return true
			})
		}
	}
	return names
}

func TestListedCallsNameNoVariable(t *testing.T) {
	bodies, variables := declarations(t)
	if want := []string{"kindsOnce", "kinds"}; !slices.Equal(variables, want) {
		t.Errorf("the package's variables are %q, not %q", variables, want)
	}
	for _, f := range []string{"Kind", "Build", "Parse", "Right"} {
		if len(bodies[f]) != 1 {
			t.Errorf("%s is declared %d times", f, len(bodies[f]))
		}
		names := reached(bodies, f)
		for _, v := range variables {
			if names[v] {
				t.Errorf("%s reaches %s", f, v)
			}
		}
	}
	byMap := reached(bodies, "KindByMap")
	for _, v := range variables {
		if !byMap[v] {
			t.Errorf("KindByMap does not reach %s", v)
		}
	}
}
