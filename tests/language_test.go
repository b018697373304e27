package tests

import (
	"bytes"
	"go/ast"
	"go/format"
	"go/parser"
	"go/token"
	"os"
	"path/filepath"
	"slices"
	"strings"
	"testing"
)

// allowedImports are those of the rules of the language.
const allowedImports = " bytes cmp container/heap errors iter maps math math/bits slices sort strconv strings sync sync/atomic unicode unicode/utf8 "

const mostLines = 60

// TestLanguage checks the rules of the language that can be seen in the text of
// the program: imports, directives, layout and the length of functions.
func TestLanguage(t *testing.T) {
	files, err := filepath.Glob("../impl/*.go")
	if err != nil || len(files) == 0 {
		t.Fatal("no program", err)
	}
	for _, name := range files {
		text, err := os.ReadFile(name)
		if err != nil {
			t.Fatal(err)
		}
		if plain, err := format.Source(text); err != nil || !bytes.Equal(plain, text) {
			t.Errorf("%s: the layout is not that of gofmt", name)
		}
		checkFile(t, name, text)
	}
}

func checkFile(t *testing.T, name string, text []byte) {
	set := token.NewFileSet()
	file, err := parser.ParseFile(set, name, text, parser.ParseComments)
	if err != nil {
		t.Fatal(err)
	}
	for _, one := range file.Imports {
		path := strings.Trim(one.Path.Value, `"`)
		if !strings.Contains(allowedImports, " "+path+" ") {
			t.Errorf("%s imports %s", name, path)
		}
	}
	for _, group := range file.Comments {
		for _, comment := range group.List {
			if strings.HasPrefix(comment.Text, "//go:") || strings.HasPrefix(comment.Text, "//export") {
				t.Errorf("%s has the directive %s", name, comment.Text)
			}
		}
	}
	for _, declared := range file.Decls {
		f, ok := declared.(*ast.FuncDecl)
		if !ok {
			continue
		}
		if lines := set.Position(f.End()).Line - set.Position(f.Pos()).Line + 1; lines > mostLines {
			t.Errorf("%s: %s has %d lines", name, f.Name.Name, lines)
		}
	}
}

// TestFolders checks that the project has no other folders than it may have.
func TestFolders(t *testing.T) {
	entries, err := os.ReadDir("..")
	if err != nil {
		t.Fatal(err)
	}
	for _, entry := range entries {
		if entry.IsDir() && !slices.Contains([]string{"impl", "tests", ".ci", ".git", "sharedtests"}, entry.Name()) {
			t.Errorf("the folder %s is not one of the project's", entry.Name())
		}
	}
}
