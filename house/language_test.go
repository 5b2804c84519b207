package house

import (
	"go/ast"
	"go/parser"
	"go/token"
	"path/filepath"
	"strconv"
	"strings"
	"testing"
)

// allowed are the packages of the library that the program may import.
const allowed = " bytes cmp container/heap errors iter maps math math/big math/bits slices sort strconv strings sync sync/atomic unicode unicode/utf8 "

const longest = 60

// packages are the program's own, in the order of the layers: each calls those ahead of it alone.
const packages = "api bits part order agenda lex rule flow rank org roll match solve tally plan core hardy run gate disk journal image desk audit vault line"

// sources are the program's files, less its tests.
func sources(t *testing.T) []string {
	var files []string
	for _, p := range strings.Fields(packages) {
		found, err := filepath.Glob(filepath.Join("..", p, "*.go"))
		if err != nil || len(found) == 0 {
			t.Fatal("no files of package", p, err)
		}
		for _, f := range found {
			if !strings.HasSuffix(f, "_test.go") {
				files = append(files, f)
			}
		}
	}
	return files
}

func TestSourcesKeepToTheLanguage(t *testing.T) {
	fset := token.NewFileSet()
	for _, name := range sources(t) {
		f, err := parser.ParseFile(fset, name, nil, parser.ParseComments)
		if err != nil {
			t.Fatal(err)
		}
		for _, i := range f.Imports {
			path, _ := strconv.Unquote(i.Path.Value)
			if !strings.HasPrefix(path, "provost/") && !strings.Contains(allowed, " "+path+" ") {
				t.Errorf("%s imports %s", name, path)
			}
		}
		for _, group := range f.Comments {
			for _, c := range group.List {
				if strings.HasPrefix(c.Text, "//go:") || strings.HasPrefix(c.Text, "// +build") {
					t.Errorf("%s: %s", fset.Position(c.Pos()), c.Text)
				}
			}
		}
		for _, d := range f.Decls {
			if fun, ok := d.(*ast.FuncDecl); ok && !strings.HasPrefix(name, filepath.Join("..", "api")) {
				if lines := fset.Position(fun.End()).Line - fset.Position(fun.Pos()).Line + 1; lines > longest {
					t.Errorf("%s: %s has %d lines", name, fun.Name.Name, lines)
				}
			}
		}
	}
}

// A layer imports no layer that lies over it.
func TestLayersCallThoseBelow(t *testing.T) {
	place := map[string]int{}
	for i, p := range strings.Fields(packages) {
		place["provost/"+p] = i
	}
	for _, name := range sources(t) {
		f, err := parser.ParseFile(token.NewFileSet(), name, nil, parser.ImportsOnly)
		if err != nil {
			t.Fatal(err)
		}
		own := place["provost/"+f.Name.Name]
		for _, i := range f.Imports {
			path, _ := strconv.Unquote(i.Path.Value)
			other, known := place[path]
			if strings.HasPrefix(path, "provost/") && (!known || other >= own) {
				t.Errorf("%s imports %s", name, path)
			}
		}
	}
}
