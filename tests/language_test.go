package tests

import (
	"bytes"
	"go/ast"
	"go/format"
	"go/parser"
	"go/token"
	"os"
	"path/filepath"
	"slices"
	"strconv"
	"testing"
)

// allowedImports are those of the language of the program.
var allowedImports = []string{"bytes", "cmp", "container/heap", "errors", "iter", "maps", "math", "math/bits", "slices", "sort", "strconv", "strings", "sync", "sync/atomic", "unicode", "unicode/utf8"}

const longestFunction = 60

func TestLanguage(t *testing.T) {
	files, err := filepath.Glob("../impl/*.go")
	if err != nil || len(files) != 12 {
		t.Fatalf("the package has %d files, %v", len(files), err)
	}
	for _, name := range files {
		text, err := os.ReadFile(name)
		if err != nil {
			t.Fatal(err)
		}
		laidOut, err := format.Source(text)
		if err != nil || !bytes.Equal(text, laidOut) {
			t.Errorf("%s has not the layout of gofmt, %v", name, err)
		}
		files := token.NewFileSet()
		file, err := parser.ParseFile(files, name, text, parser.ParseComments)
		if err != nil {
			t.Fatal(err)
		}
		checkImports(t, name, file)
		checkLengths(t, name, files, file)
	}
}

func checkImports(t *testing.T, name string, file *ast.File) {
	for _, spec := range file.Imports {
		path, err := strconv.Unquote(spec.Path.Value)
		if err != nil || !slices.Contains(allowedImports, path) {
			t.Errorf("%s imports %s", name, spec.Path.Value)
		}
	}
}

func checkLengths(t *testing.T, name string, files *token.FileSet, file *ast.File) {
	for _, part := range file.Decls {
		function, ok := part.(*ast.FuncDecl)
		if !ok {
			continue
		}
		lines := files.Position(function.End()).Line - files.Position(function.Pos()).Line + 1
		if lines > longestFunction {
			t.Errorf("%s: %s has %d lines", name, function.Name.Name, lines)
		}
	}
}
