// Package language has no code of its own: its tests hold the program's packages against the rules of ../../shared/LANGUAGE.md that a text shows, and against the order of the layers.
package language_test

import (
	"bytes"
	"go/ast"
	"go/format"
	"go/parser"
	"go/token"
	"io/fs"
	"os"
	"path/filepath"
	"slices"
	"strconv"
	"strings"
	"testing"
)

const (
	root      = ".."
	module    = "purlin/"
	mostLines = 60
)

var layers = []string{
	"term", "lex", "syntax", "check", "heap", "arith", "match", "unify", "model", "queue", "wire", "net",
	"link", "journal", "owner", "refs", "credit", "reach", "node", "durable", "cluster", "trace", "fair", "shell",
}

var library = []string{
	"bytes", "cmp", "container/heap", "errors", "iter", "maps", "math", "math/bits", "slices", "sort", "strconv",
	"strings", "sync", "sync/atomic", "unicode", "unicode/utf8",
}

type source struct {
	path, pack string
	text       []byte
	tree       *ast.File
	set        *token.FileSet
}

// sources are the program's files: no tests, and nothing of what .ci/run lays beside them.
func sources(t *testing.T) []source {
	t.Helper()
	var l []source
	err := filepath.WalkDir(root, func(path string, d fs.DirEntry, err error) error {
		if err != nil {
			return err
		}
		if d.IsDir() && path != root && (strings.HasPrefix(d.Name(), ".") || d.Name() == "sharedtests") {
			return filepath.SkipDir
		}
		if d.IsDir() || !strings.HasSuffix(path, ".go") || strings.HasSuffix(path, "_test.go") {
			return nil
		}
		text, err := os.ReadFile(path)
		if err != nil {
			return err
		}
		set := token.NewFileSet()
		tree, err := parser.ParseFile(set, path, text, parser.ParseComments)
		l = append(l, source{path, filepath.Base(filepath.Dir(path)), text, tree, set})
		return err
	})
	if err != nil {
		t.Fatal(err)
	}
	return l
}

func TestAllLayersAreThere(t *testing.T) {
	there := map[string]int{}
	for _, s := range sources(t) {
		there[s.pack]++
	}
	for _, p := range append([]string{"api"}, layers...) {
		if there[p] == 0 {
			t.Errorf("package %s has no file", p)
		}
	}
}

func TestImports(t *testing.T) {
	for _, s := range sources(t) {
		for _, i := range s.tree.Imports {
			path, err := strconv.Unquote(i.Path.Value)
			if err != nil || i.Name != nil && i.Name.Name == "." {
				t.Errorf("%s: import %s", s.path, i.Path.Value)
			}
			own, isOwn := strings.CutPrefix(path, module)
			if isOwn && !mayCall(s.pack, own) || !isOwn && !slices.Contains(library, path) {
				t.Errorf("%s imports %s", s.path, path)
			}
		}
	}
}

// mayCall: a layer calls those ahead of it, api, and the packages beside the layers; those call no layer.
func mayCall(from, to string) bool {
	target := slices.Index(layers, to)
	return target < 0 || target < slices.Index(layers, from)
}

func TestNoPull(t *testing.T) {
	for _, s := range sources(t) {
		ast.Inspect(s.tree, func(n ast.Node) bool {
			if x, ok := n.(*ast.SelectorExpr); ok {
				if p, ok := x.X.(*ast.Ident); ok && p.Name == "iter" && strings.HasPrefix(x.Sel.Name, "Pull") {
					t.Errorf("%s: iter.%s", s.path, x.Sel.Name)
				}
			}
			return true
		})
	}
}

func TestNoOrdersToTheCompiler(t *testing.T) {
	for _, s := range sources(t) {
		for _, g := range s.tree.Comments {
			for _, c := range g.List {
				if strings.HasPrefix(c.Text, "//go:") || strings.HasPrefix(c.Text, "// +build") {
					t.Errorf("%s: %s", s.path, c.Text)
				}
			}
		}
	}
}

func TestLayout(t *testing.T) {
	for _, s := range sources(t) {
		if want, err := format.Source(s.text); err != nil || !bytes.Equal(want, s.text) {
			t.Errorf("%s is not laid out as gofmt does: %v", s.path, err)
		}
	}
}

func TestFunctionsAreShort(t *testing.T) {
	for _, s := range sources(t) {
		for _, d := range s.tree.Decls {
			f, ok := d.(*ast.FuncDecl)
			if !ok {
				continue
			}
			if n := s.set.Position(f.End()).Line - s.set.Position(f.Pos()).Line + 1; n > mostLines {
				t.Errorf("%s: %s has %d lines", s.path, f.Name.Name, n)
			}
		}
	}
}

// TestPackageVariables: a variable at package level is a table that is written out, or an error of one text.
func TestPackageVariables(t *testing.T) {
	for _, s := range sources(t) {
		for _, d := range s.tree.Decls {
			g, ok := d.(*ast.GenDecl)
			if !ok || g.Tok != token.VAR {
				continue
			}
			for _, spec := range g.Specs {
				v := spec.(*ast.ValueSpec)
				if len(v.Values) != len(v.Names) || slices.ContainsFunc(v.Values, func(e ast.Expr) bool { return !mayStand(e) }) {
					t.Errorf("%s: variable %s", s.path, v.Names[0].Name)
				}
			}
		}
	}
}

func mayStand(e ast.Expr) bool {
	switch x := e.(type) {
	case *ast.CompositeLit:
		_, isMap := x.Type.(*ast.MapType)
		return !isMap
	case *ast.CallExpr:
		f, ok := x.Fun.(*ast.SelectorExpr)
		return ok && f.Sel.Name == "New" && len(x.Args) == 1
	case *ast.BasicLit:
		return x.Kind == token.INT
	}
	return false
}
