package tests

import (
	"go/ast"
	"go/parser"
	"go/token"
	"testing"
)

// factorsIn counts how often a function names the variable factors, and how often only to throw away what it reads there.
func factorsIn(f *ast.FuncDecl) (named, thrownAway int) {
	ast.Inspect(f.Body, func(n ast.Node) bool {
		switch x := n.(type) {
		case *ast.Ident:
			if x.Name == "factors" {
				named++
			}
		case *ast.AssignStmt:
			if isThrownAway(x) {
				thrownAway++
			}
		}
		return true
	})
	return named, thrownAway
}

// isThrownAway reports whether a statement is _ = factors[...].
func isThrownAway(x *ast.AssignStmt) bool {
	if len(x.Lhs) != 1 || len(x.Rhs) != 1 {
		return false
	}
	to, blank := x.Lhs[0].(*ast.Ident)
	from, indexed := x.Rhs[0].(*ast.IndexExpr)
	if !blank || !indexed || to.Name != "_" {
		return false
	}
	table, direct := from.X.(*ast.Ident)
	return direct && table.Name == "factors"
}

// TestFactorsAreReadButNoResultDependsOnThem looks at the text of chapter 4, as the table is not to be seen in any result.
func TestFactorsAreReadButNoResultDependsOnThem(t *testing.T) {
	file, err := parser.ParseFile(token.NewFileSet(), "../impl/l4_tempo.go", nil, parser.SkipObjectResolution)
	if err != nil {
		t.Fatal(err)
	}
	filled, read := false, false
	for _, d := range file.Decls {
		f, ok := d.(*ast.FuncDecl)
		if !ok {
			continue
		}
		named, thrownAway := factorsIn(f)
		switch {
		case f.Name.Name == "init":
			filled = filled || named > 0
		case named != thrownAway:
			t.Error(f.Name.Name, "may compute with factors")
		default:
			read = read || named > 0 && f.Name.IsExported()
		}
	}
	if !filled || !read {
		t.Error("init fills factors, an exported function reads them:", filled, read)
	}
}
