// Package rules tests that the source code of the program keeps to its language and to the order of its layers.
package rules

import (
	"bytes"
	"go/ast"
	"go/format"
	"go/parser"
	"go/token"
	"os"
	"path/filepath"
	"slices"
	"strconv"
	"strings"
	"testing"
)

const (
	root     = ".."
	module   = "caravan/"
	maxLines = 60
)

// layers are the packages of the layers, the lowest first.
var layers = strings.Fields("hash oid sector bale tree archive gear cutter merkle weave info book depot registry reap store letter mesh bucket seek provider frontier repute quota swap node cluster")

var library = strings.Fields("bytes cmp container/heap errors iter maps math math/bits slices sort strconv strings sync sync/atomic unicode unicode/utf8")

// used are the only names that may be taken from a package of the library.
var used = map[string][]string{
	"sync": {"Mutex", "RWMutex", "WaitGroup", "Once"},
	"iter": {"Seq", "Seq2"},
}

// source is one Go file of the program.
type source struct {
	path string // from the root of the project on
	text []byte
	set  *token.FileSet
	file *ast.File
}

func (s source) complain(t *testing.T, n ast.Node, what string) {
	t.Helper()
	t.Errorf("%s:%d: %s", s.path, s.set.Position(n.Pos()).Line, what)
}

// program parses the Go files of the program without its tests: the packages of all layers, and what these import.
func program(t *testing.T) []source {
	t.Helper()
	folders := append([]string{"api"}, layers...)
	var list []source
	for i := 0; i < len(folders); i++ {
		for _, s := range parsed(t, folders[i]) {
			list = append(list, s)
			for _, path := range s.imports(t) {
				folder, own := strings.CutPrefix(path, module)
				if own && !slices.Contains(folders, folder) {
					folders = append(folders, folder)
				}
			}
		}
	}
	return list
}

// parsed parses the Go files of one folder, without tests.
func parsed(t *testing.T, folder string) []source {
	t.Helper()
	entries, err := os.ReadDir(filepath.Join(root, folder))
	if err != nil {
		t.Fatal(err)
	}
	var list []source
	for _, entry := range entries {
		path := filepath.Join(folder, entry.Name())
		if entry.IsDir() || strings.HasSuffix(path, "_test.go") {
			continue
		}
		if !strings.HasSuffix(path, ".go") {
			t.Errorf("%s is not a Go file", path)
			continue
		}
		text, err := os.ReadFile(filepath.Join(root, path))
		if err != nil {
			t.Fatal(err)
		}
		s := source{path: path, text: text, set: token.NewFileSet()}
		if s.file, err = parser.ParseFile(s.set, path, text, parser.ParseComments); err != nil {
			t.Fatal(err)
		}
		list = append(list, s)
	}
	if len(list) == 0 {
		t.Errorf("folder %s has no package", folder)
	}
	return list
}

// imports are the paths that a file imports.
func (s source) imports(t *testing.T) []string {
	t.Helper()
	var list []string
	for _, x := range s.file.Imports {
		path, err := strconv.Unquote(x.Path.Value)
		if err != nil {
			t.Fatal(err)
		}
		list = append(list, path)
	}
	return list
}

func TestEveryLayerHasItsPackage(t *testing.T) {
	for _, s := range program(t) {
		if folder := filepath.Base(filepath.Dir(s.path)); s.file.Name.Name != folder {
			t.Errorf("%s is of the package %s", s.path, s.file.Name.Name)
		}
	}
}

func TestImports(t *testing.T) {
	for _, s := range program(t) {
		for _, path := range s.imports(t) {
			if !strings.HasPrefix(path, module) && !slices.Contains(library, path) {
				t.Errorf("%s imports %s", s.path, path)
			}
		}
	}
}

func TestLayersCallOnlyLowerOnes(t *testing.T) {
	for _, s := range program(t) {
		own := slices.Index(layers, filepath.Dir(s.path))
		for _, path := range s.imports(t) {
			other := slices.Index(layers, strings.TrimPrefix(path, module))
			if own >= 0 && other >= own || filepath.Dir(s.path) == "api" {
				t.Errorf("%s imports %s", s.path, path)
			}
		}
	}
}

func TestLibraryNames(t *testing.T) {
	for _, s := range program(t) {
		ast.Inspect(s.file, func(n ast.Node) bool {
			if x, ok := n.(*ast.SelectorExpr); ok {
				if from, ok := x.X.(*ast.Ident); ok {
					allowed, limited := used[from.Name]
					if limited && slices.Contains(s.imports(t), from.Name) && !slices.Contains(allowed, x.Sel.Name) {
						s.complain(t, x, from.Name+"."+x.Sel.Name)
					}
				}
			}
			if x, ok := n.(*ast.CallExpr); ok {
				if called, ok := x.Fun.(*ast.Ident); ok && (called.Name == "print" || called.Name == "println") {
					s.complain(t, x, called.Name)
				}
			}
			return true
		})
	}
}

func TestDirectives(t *testing.T) {
	for _, s := range program(t) {
		for _, group := range s.file.Comments {
			for _, c := range group.List {
				if strings.HasPrefix(c.Text, "//go:") || strings.HasPrefix(strings.TrimSpace(strings.TrimPrefix(c.Text, "//")), "+build") {
					s.complain(t, c, c.Text)
				}
			}
		}
	}
}

func TestLayout(t *testing.T) {
	for _, s := range program(t) {
		text, err := format.Source(s.text)
		if err != nil {
			t.Fatal(err)
		}
		if !bytes.Equal(text, s.text) {
			t.Errorf("%s does not have gofmt's layout", s.path)
		}
		for _, d := range s.file.Decls {
			if f, ok := d.(*ast.FuncDecl); ok && s.set.Position(f.End()).Line-s.set.Position(f.Pos()).Line >= maxLines {
				s.complain(t, f, f.Name.Name+" is too long")
			}
		}
	}
}

// Package-level variables are errors, or tables that are written out where they are declared.
func TestVariables(t *testing.T) {
	for _, s := range program(t) {
		for _, d := range s.file.Decls {
			group, ok := d.(*ast.GenDecl)
			if !ok || group.Tok != token.VAR {
				continue
			}
			for _, spec := range group.Specs {
				v := spec.(*ast.ValueSpec)
				if len(v.Values) != len(v.Names) {
					s.complain(t, v, "a variable without a value of its own")
				}
				for _, value := range v.Values {
					checkValue(t, s, value)
				}
			}
		}
	}
}

func checkValue(t *testing.T, s source, value ast.Expr) {
	t.Helper()
	switch x := value.(type) {
	case *ast.CallExpr:
		if called, ok := x.Fun.(*ast.SelectorExpr); ok && called.Sel.Name == "New" {
			if from, ok := called.X.(*ast.Ident); ok && from.Name == "errors" {
				return
			}
		}
		s.complain(t, x, "a variable that is made by a call")
	case *ast.CompositeLit:
		if _, ok := x.Type.(*ast.MapType); ok {
			s.complain(t, x, "a map at package level")
		}
	case *ast.BasicLit:
		if x.Kind == token.STRING || x.Kind == token.FLOAT {
			s.complain(t, x, "a variable that should be a constant")
		}
	case *ast.FuncLit:
		s.complain(t, x, "a function at package level")
	case *ast.UnaryExpr:
		if x.Op == token.AND {
			s.complain(t, x, "a pointer at package level")
		}
	}
}
