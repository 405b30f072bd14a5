// Package rules holds the program's files against the rules of its language that a file's text shows: which packages it takes, lines to the compiler, layout, long functions.
package rules

import (
	"bytes"
	"go/ast"
	"go/format"
	"go/parser"
	"go/token"
	"io/fs"
	"os"
	"path/filepath"
	"strconv"
	"strings"
	"testing"
)

const root = ".."

// maxLines is what a function may have at most; the rules say 'some 60'.
const maxLines = 60

// library is the packages of Go's library that the program may take.
var library = []string{
	"bytes", "cmp", "container/heap", "errors", "iter", "maps", "math", "math/big", "math/bits", "slices", "sort",
	"strconv", "strings", "sync", "sync/atomic", "unicode", "unicode/utf8",
}

// layers is the packages of the map, and api.
var layers = []string{
	"api", "word", "addr", "prefix", "ranges", "table", "algebra", "least", "trie", "cost", "stride", "mtrie", "share",
	"wire", "code", "asm", "emit", "image", "verify", "vm", "fib", "delta", "update", "stat", "atlas", "shell",
}

// programFiles tells the Go files of the program: neither tests nor what is laid beside it.
func programFiles(t *testing.T) []string {
	t.Helper()
	var l []string
	err := filepath.WalkDir(root, func(path string, d fs.DirEntry, err error) error {
		if err != nil {
			return err
		}
		if d.IsDir() && (d.Name() == ".git" || d.Name() == "sharedtests") {
			return filepath.SkipDir
		}
		if strings.HasSuffix(path, ".go") && !strings.HasSuffix(path, "_test.go") {
			l = append(l, path)
		}
		return nil
	})
	if err != nil {
		t.Fatal(err)
	}
	return l
}

func mayImport(path string) bool {
	if strings.HasPrefix(path, "turnpike/") {
		return true
	}
	for _, p := range library {
		if p == path {
			return true
		}
	}
	return false
}

func checkImports(t *testing.T, name string, f *ast.File) {
	for _, i := range f.Imports {
		path, err := strconv.Unquote(i.Path.Value)
		if err != nil || !mayImport(path) {
			t.Errorf("%s takes %s", name, i.Path.Value)
		}
	}
}

func checkComments(t *testing.T, name string, f *ast.File) {
	for _, g := range f.Comments {
		for _, c := range g.List {
			if strings.HasPrefix(c.Text, "//go:") || strings.HasPrefix(c.Text, "// +build") {
				t.Errorf("%s has the line %s", name, c.Text)
			}
		}
	}
}

func checkLengths(t *testing.T, set *token.FileSet, f *ast.File) {
	for _, d := range f.Decls {
		x, ok := d.(*ast.FuncDecl)
		if !ok {
			continue
		}
		from, to := set.Position(x.Pos()), set.Position(x.End())
		if n := to.Line - from.Line + 1; n > maxLines {
			t.Errorf("%s: %s has %d lines", from, x.Name.Name, n)
		}
	}
}

func TestProgramFiles(t *testing.T) {
	files := programFiles(t)
	if len(files) < len(layers) {
		t.Fatalf("only %d files are found", len(files))
	}
	for _, name := range files {
		text, err := os.ReadFile(name)
		if err != nil {
			t.Fatal(err)
		}
		laid, err := format.Source(text)
		if err != nil || !bytes.Equal(laid, text) {
			t.Errorf("%s is not in gofmt's layout (%v)", name, err)
		}
		set := token.NewFileSet()
		f, err := parser.ParseFile(set, name, text, parser.ParseComments)
		if err != nil {
			t.Fatal(err)
		}
		checkImports(t, name, f)
		checkComments(t, name, f)
		checkLengths(t, set, f)
	}
}

func TestEveryLayerHasItsPackage(t *testing.T) {
	for _, l := range layers {
		text, err := os.ReadFile(filepath.Join(root, l, l+".go"))
		if err != nil || !strings.Contains(string(text), "\npackage "+l+"\n") {
			t.Errorf("package %s is not there (%v)", l, err)
		}
	}
}
