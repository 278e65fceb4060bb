package props

import (
	"go/ast"
	"go/parser"
	"go/token"
	"os"
	"strings"
	"testing"
)

// The calls that the chapter lists answer by functions alone: nothing that is kept from call to call may be reached from them.

// declarations tells the bodies of the package's functions and methods by their names, and the names of its variables without a value.
func declarations(t *testing.T) (map[string][]ast.Node, map[string]bool) {
	t.Helper()
	entries, err := os.ReadDir(".")
	if err != nil {
		t.Fatal(err)
	}
	bodies, kept := map[string][]ast.Node{}, map[string]bool{}
	for _, e := range entries {
		if !strings.HasSuffix(e.Name(), ".go") || strings.HasSuffix(e.Name(), "_test.go") {
			continue
		}
		file, err := parser.ParseFile(token.NewFileSet(), e.Name(), nil, 0)
		if err != nil {
			t.Fatal(err)
		}
		for _, d := range file.Decls {
			switch d := d.(type) {
			case *ast.FuncDecl:
				bodies[d.Name.Name] = append(bodies[d.Name.Name], d.Body)
			case *ast.GenDecl:
				noteKept(d, kept)
			}
		}
	}
	return bodies, kept
}

func noteKept(d *ast.GenDecl, kept map[string]bool) {
	for _, s := range d.Specs {
		if v, ok := s.(*ast.ValueSpec); ok && d.Tok == token.VAR && len(v.Values) == 0 {
			for _, n := range v.Names {
				kept[n.Name] = true
			}
		}
	}
}

// reached tells every name that stands in a function and in those that it calls.
func reached(bodies map[string][]ast.Node, function string) map[string]bool {
	names := map[string]bool{function: true}
	work := []string{function}
	for len(work) > 0 {
		name := work[0]
		work = work[1:]
		for _, b := range bodies[name] {
			ast.Inspect(b, func(n ast.Node) bool {
				if id, ok := n.(*ast.Ident); ok && !names[id.Name] {
					names[id.Name] = true
					work = append(work, id.Name)
				}
				return true
			})
		}
	}
	return names
}

func TestListedCallsReachNothingThatIsKept(t *testing.T) {
	bodies, kept := declarations(t)
	for _, v := range []string{"classesOnce", "classesMade", "classes"} {
		if !kept[v] {
			t.Errorf("the variable %s does not stand there", v)
		}
		if !reached(bodies, "ClassByBlocks")[v] {
			t.Errorf("ClassByBlocks does not reach %s", v)
		}
	}
	for _, f := range []string{"Class", "Bracket", "Mirror", "Space"} {
		if len(bodies[f]) != 1 {
			t.Errorf("%s is declared %d times", f, len(bodies[f]))
		}
		names := reached(bodies, f)
		for v := range kept {
			if names[v] {
				t.Errorf("%s reaches %s", f, v)
			}
		}
	}
}
