// Package rules has no code of the program: its tests hold the whole program against the rules of its language.
package rules

import (
	"bytes"
	"crypto/sha256"
	"encoding/hex"
	"go/ast"
	"go/format"
	"go/parser"
	"go/token"
	"os"
	"path/filepath"
	"slices"
	"strconv"
	"strings"
	"testing"
)

const module = "yardgang/"

// layers from the top on: each may call those ahead of it.
var layers = strings.Fields("api plain plan depth weave ring spill hand join picks greedy list judge park gang groups cells yard trace log bench run")

// library packages that the program may use.
var library = strings.Fields("bytes cmp container/heap errors iter maps math math/bits slices sort strconv strings sync sync/atomic unicode unicode/utf8")

// given files, that stay as they lie, and their sums.
var given = []struct{ path, sum string }{
	{"api/api.go", "beab7db1634b7a70df4a50da83c1b2d11a654cc42d2af3fc9781c7092b8aae14"},
	{"plain/plain.go", "214827a867e518e301d4cec7ae27b9603af78703aa0ae22ea786a2e451021590"},
}

func TestGivenFilesStay(t *testing.T) {
	for _, g := range given {
		b, err := os.ReadFile(filepath.Join("..", g.path))
		if err != nil {
			t.Fatal(err)
		}
		sum := sha256.Sum256(b)
		if hex.EncodeToString(sum[:]) != g.sum {
			t.Errorf("%s is not as it was given", g.path)
		}
		if l, err := os.ReadDir(filepath.Join("..", filepath.Dir(g.path))); err != nil || len(l) != 1 {
			t.Errorf("beside %s: %v %v", g.path, l, err)
		}
	}
}

// sources are the program's files, by the folder that they lie in.
func sources(t *testing.T) map[string][]string {
	l, err := filepath.Glob("../*/*")
	if err != nil || len(l) == 0 {
		t.Fatal(l, err)
	}
	out := map[string][]string{}
	for _, f := range l {
		folder := filepath.Base(filepath.Dir(f))
		if folder == "sharedtests" || strings.HasPrefix(folder, ".") || strings.HasSuffix(f, "_test.go") {
			continue
		}
		out[folder] = append(out[folder], f)
	}
	return out
}

func TestAllLayersAreLaid(t *testing.T) {
	l := sources(t)
	for _, name := range layers {
		if len(l[name]) == 0 {
			t.Errorf("package %s is missing", name)
		}
	}
}

func TestSourcesKeepTheRules(t *testing.T) {
	for folder, files := range sources(t) {
		for _, f := range files {
			if filepath.Ext(f) != ".go" {
				t.Errorf("%s: beside the Go files", f)
				continue
			}
			checkFile(t, folder, f)
		}
	}
}

func checkFile(t *testing.T, folder, path string) {
	b, err := os.ReadFile(path)
	if err != nil {
		t.Fatal(err)
	}
	if laid, err := format.Source(b); err != nil || !bytes.Equal(laid, b) {
		t.Errorf("%s: not in gofmt's layout: %v", path, err)
	}
	set := token.NewFileSet()
	file, err := parser.ParseFile(set, path, b, parser.ParseComments)
	if err != nil {
		t.Fatal(err)
	}
	for _, s := range file.Imports {
		name, _ := strconv.Unquote(s.Path.Value)
		if !mayImport(folder, name) {
			t.Errorf("%s: imports %s", path, name)
		}
	}
	for _, g := range file.Comments {
		for _, c := range g.List {
			if strings.HasPrefix(c.Text, "//go:") || strings.HasPrefix(c.Text, "// +build") {
				t.Errorf("%s: %s", path, c.Text)
			}
		}
	}
	for _, d := range file.Decls {
		if f, ok := d.(*ast.FuncDecl); ok {
			if n := set.Position(f.End()).Line - set.Position(f.Pos()).Line + 1; n > 60 {
				t.Errorf("%s: %s has %d lines", path, f.Name.Name, n)
			}
		}
	}
}

// mayImport: of the library what is listed, of the program what stands above in the table of layers.
func mayImport(folder, name string) bool {
	own, is := strings.CutPrefix(name, module)
	if !is {
		return slices.Contains(library, name)
	}
	to, from := slices.Index(layers, own), slices.Index(layers, folder)
	return to < 0 || from < 0 || to < from
}
