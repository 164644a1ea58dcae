package tests

import (
	"bytes"
	"go/ast"
	"go/format"
	"go/parser"
	"go/token"
	"os"
	"path/filepath"
	"strconv"
	"strings"
	"testing"
)

const longestFunction = 60
const allowedImports = " bytes cmp container/heap errors iter maps math math/bits slices sort strconv strings sync sync/atomic unicode unicode/utf8 "

func goFiles(t *testing.T, folder string) []string {
	t.Helper()
	l, err := filepath.Glob(filepath.Join(folder, "*.go"))
	if err != nil || len(l) == 0 {
		t.Fatalf("no Go files in %s: %v", folder, err)
	}
	return l
}

func TestFilesHaveTheUsualLayout(t *testing.T) {
	for _, p := range append(goFiles(t, "../impl"), goFiles(t, ".")...) {
		src, err := os.ReadFile(p)
		if err != nil {
			t.Fatal(err)
		}
		if out, err := format.Source(src); err != nil || !bytes.Equal(src, out) {
			t.Errorf("%s is not in gofmt's layout (%v)", p, err)
		}
	}
}

func TestProgramKeepsToItsLanguage(t *testing.T) {
	for _, p := range goFiles(t, "../impl") {
		fset := token.NewFileSet()
		f, err := parser.ParseFile(fset, p, nil, parser.ParseComments)
		if err != nil {
			t.Fatal(err)
		}
		for _, i := range f.Imports {
			if path, _ := strconv.Unquote(i.Path.Value); !strings.Contains(allowedImports, " "+path+" ") {
				t.Errorf("%s imports %s", p, path)
			}
		}
		for _, g := range f.Comments {
			for _, c := range g.List {
				if strings.HasPrefix(c.Text, "//go:") || strings.HasPrefix(c.Text, "// +build") {
					t.Errorf("%s has the line %s", p, c.Text)
				}
			}
		}
		for _, d := range f.Decls {
			if x, ok := d.(*ast.FuncDecl); ok {
				if n := fset.Position(x.End()).Line - fset.Position(x.Pos()).Line + 1; n > longestFunction {
					t.Errorf("%s: %s has %d lines", p, x.Name.Name, n)
				}
			}
		}
	}
}
