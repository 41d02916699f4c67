package pattern_test

import (
	"go/ast"
	"go/parser"
	"go/token"
	"path/filepath"
	"slices"
	"strings"
	"testing"
)

// tabled are functions of the library that reach great tables at package level.
var tabled = []string{
	"strings.ToUpper", "strings.ToLower", "strings.ToTitle", "strings.Title", "strings.EqualFold",
	"bytes.ToUpper", "bytes.ToLower", "bytes.ToTitle", "bytes.Title", "bytes.EqualFold",
	"strconv.IsPrint", "strconv.IsGraphic", "strconv.ParseFloat", "strconv.FormatFloat", "strconv.AppendFloat",
}

// No call of the program reaches a great table: package unicode has little else, and of the others some functions do.
func TestNoGreatTables(t *testing.T) {
	files, err := filepath.Glob("../*/*.go")
	if err != nil || len(files) < 20 {
		t.Fatalf("%d files, %v", len(files), err)
	}
	for _, name := range files {
		if strings.HasSuffix(name, "_test.go") {
			continue
		}
		set := token.NewFileSet()
		file, err := parser.ParseFile(set, name, nil, 0)
		if err != nil {
			t.Fatal(err)
		}
		ast.Inspect(file, func(n ast.Node) bool {
			x, isSelector := n.(*ast.SelectorExpr)
			if !isSelector {
				return true
			}
			from, _ := x.X.(*ast.Ident)
			if from == nil {
				return true
			}
			call := from.Name + "." + x.Sel.Name
			if from.Name == "unicode" || slices.Contains(tabled, call) || strings.HasPrefix(call, "strconv.Quote") || strings.HasPrefix(call, "strconv.AppendQuote") {
				t.Errorf("%v: %s", set.Position(n.Pos()), call)
			}
			return true
		})
	}
}
