package tests

import (
	"bytes"
	"go/ast"
	"go/format"
	"go/parser"
	"go/token"
	"os"
	"path/filepath"
	"slices"
	"strconv"
	"strings"
	"testing"
)

// allowedImports are the library's packages that the language page lets the program have.
var allowedImports = []string{
	"bytes", "cmp", "container/heap", "errors", "iter", "maps", "math", "math/bits", "slices", "sort",
	"strconv", "strings", "sync", "sync/atomic", "unicode", "unicode/utf8",
}

const longestFunction = 60

func TestProgramKeepsToTheLanguage(t *testing.T) {
	files, err := filepath.Glob(filepath.Join("..", "impl", "*"))
	if err != nil || len(files) == 0 {
		t.Fatal("no files of the program", err)
	}
	for _, name := range files {
		if filepath.Ext(name) != ".go" {
			t.Errorf("%s stands beside the Go files", name)
			continue
		}
		source, err := os.ReadFile(name)
		if err != nil {
			t.Fatal(err)
		}
		checkLayout(t, name, source)
		checkSource(t, name, source)
	}
}

func checkLayout(t *testing.T, name string, source []byte) {
	t.Helper()
	laid, err := format.Source(source)
	if err != nil {
		t.Fatal(name, err)
	}
	if !bytes.Equal(laid, source) {
		t.Errorf("%s does not have gofmt's layout", name)
	}
	for _, line := range strings.Split(string(source), "\n") {
		if strings.HasPrefix(line, "//go:") || strings.HasPrefix(line, "// +build") {
			t.Errorf("%s has the line %q", name, line)
		}
	}
}

func checkSource(t *testing.T, name string, source []byte) {
	t.Helper()
	set := token.NewFileSet()
	file, err := parser.ParseFile(set, name, source, parser.SkipObjectResolution)
	if err != nil {
		t.Fatal(err)
	}
	for _, i := range file.Imports {
		path, err := strconv.Unquote(i.Path.Value)
		if err != nil || !slices.Contains(allowedImports, path) {
			t.Errorf("%s imports %s", name, i.Path.Value)
		}
	}
	checkMaps(t, name, file)
	for _, d := range file.Decls {
		f, ok := d.(*ast.FuncDecl)
		if !ok {
			continue
		}
		if lines := set.Position(f.End()).Line - set.Position(f.Pos()).Line + 1; lines > longestFunction {
			t.Errorf("%s: %s has %d lines", name, f.Name.Name, lines)
		}
	}
}

// checkMaps: no map has bools or texts as values, and none stands at package level.
func checkMaps(t *testing.T, name string, file *ast.File) {
	t.Helper()
	ast.Inspect(file, func(n ast.Node) bool {
		m, ok := n.(*ast.MapType)
		if !ok {
			return true
		}
		if v, ok := m.Value.(*ast.Ident); ok && (v.Name == "bool" || v.Name == "string") {
			t.Errorf("%s has a map with values of type %s", name, v.Name)
		}
		return true
	})
	for _, d := range file.Decls {
		g, ok := d.(*ast.GenDecl)
		if !ok || g.Tok != token.VAR {
			continue
		}
		ast.Inspect(g, func(n ast.Node) bool {
			if _, ok := n.(*ast.MapType); ok {
				t.Errorf("%s has a map at package level", name)
			}
			return true
		})
	}
}
