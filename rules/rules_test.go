// Package rules_test holds the layers to what the language of the program allows.
package rules_test

import (
	"go/ast"
	"go/parser"
	"go/token"
	"os"
	"path/filepath"
	"slices"
	"strconv"
	"strings"
	"testing"
)

// calls are the layers in order, each with those that it may call.
const calls = `
u256 api
muldiv api u256
wad api u256 muldiv
octet api u256
sha api
merkle api sha
proof api merkle
store api
keys api u256
cell api u256 wad store keys
history api store keys cell
fifo api store keys cell
due api store keys cell fifo
event api u256 octet
tx api wad octet
leaf api wad octet merkle proof
bank api u256 wad store keys cell
rate api u256 muldiv wad
vault api u256 wad store keys cell bank rate
factor api u256 muldiv wad
roster api store keys cell bank
magn api u256 wad store history
holding api u256 wad store keys cell factor
exit api u256 muldiv wad store keys cell history factor
deleg api store bank vault roster magn holding exit
service api store keys cell bank vault
member api store keys cell roster service
delay api store keys cell
alloc api u256 wad store keys cell fifo due
slash api u256 store vault magn holding exit service member alloc
pool api wad store keys cell bank service
roots api store keys cell
claim api u256 store keys cell leaf bank pool roots
split api u256 muldiv wad store roster service delay
pause api store keys cell tx bank
ledger api u256 store keys cell due event tx bank vault roster magn exit deleg service member delay alloc slash pool roots claim split pause
view api u256 octet sha store cell bank vault roster magn holding exit deleg delay alloc claim split pause ledger
script api octet event pause ledger view
audit api u256 wad store keys cell bank vault roster magn holding exit deleg alloc pool ledger
console api u256 wad sha event tx ledger view audit`

const library = " bytes cmp container/heap errors iter maps math math/bits slices sort strconv strings sync sync/atomic unicode unicode/utf8 "

const mostLines = 75 // some 60

func parse(t *testing.T, dir string) (*token.FileSet, []*ast.File) {
	t.Helper()
	names, err := filepath.Glob(filepath.Join("..", dir, "*.go"))
	if err != nil || len(names) == 0 {
		t.Fatalf("%s: no files (%v)", dir, err)
	}
	set := token.NewFileSet()
	var files []*ast.File
	for _, name := range names {
		if strings.HasSuffix(name, "_test.go") {
			continue
		}
		f, err := parser.ParseFile(set, name, nil, parser.ParseComments)
		if err != nil {
			t.Fatal(err)
		}
		files = append(files, f)
	}
	return set, files
}

func TestLayers(t *testing.T) {
	for line := range strings.SplitSeq(strings.TrimSpace(calls), "\n") {
		words := strings.Fields(line)
		set, files := parse(t, words[0])
		for _, f := range files {
			for _, i := range f.Imports {
				path, _ := strconv.Unquote(i.Path.Value)
				own, is := strings.CutPrefix(path, "tallage/")
				if is && !slices.Contains(words[1:], own) || !is && !strings.Contains(library, " "+path+" ") {
					t.Errorf("%s imports %s", words[0], path)
				}
			}
			checkFile(t, set, f)
		}
	}
}

func checkFile(t *testing.T, set *token.FileSet, f *ast.File) {
	for _, g := range f.Comments {
		for _, c := range g.List {
			if strings.HasPrefix(c.Text, "//go:") || strings.HasPrefix(c.Text, "// +build") {
				t.Errorf("%s: %s", set.Position(c.Pos()), c.Text)
			}
		}
	}
	for _, d := range f.Decls {
		at := set.Position(d.Pos())
		if fn, ok := d.(*ast.FuncDecl); ok {
			if n := set.Position(fn.End()).Line - at.Line + 1; n > mostLines {
				t.Errorf("%s: %s has %d lines", at, fn.Name, n)
			}
		}
	}
}

func TestNoOtherFiles(t *testing.T) {
	for line := range strings.SplitSeq(strings.TrimSpace(calls), "\n") {
		dir := strings.Fields(line)[0]
		files, err := os.ReadDir(filepath.Join("..", dir))
		if err != nil {
			t.Fatal(err)
		}
		for _, f := range files {
			if f.IsDir() || !strings.HasSuffix(f.Name(), ".go") {
				t.Errorf("%s/%s is no Go file", dir, f.Name())
			}
		}
	}
}
