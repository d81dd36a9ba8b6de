package parse

import (
	"slices"
	"strconv"
	"strings"
	"testing"

	"stile/api"
)

// allOps are what a tree that Parse tells may be.
var allOps = strings.Split("create table,create index,on,drop table,drop index,insert,columns,values,row,name,update,set,where,current,delete,"+
	"query,order,key,union,except,intersect,select,items,from,group,having,item,star,table,as,derived,cross,inner,left,right,full,"+
	"commit,rollback,savepoint,rollback to,release,isolation,declare,for,open,close,fetch,next,prior,first,last,absolute,relative,"+
	"column,type,notnull,primary,unique,check,references,foreign,"+
	"or,and,not,=,<>,<,<=,>,>=,any,all,is,between,like,in,+,-,||,*,/,neg,num,text,bool,null,col,of,scalar,exists,case,when,cast,coalesce,nullif,count*,count,sum,min,max", ",")

// show writes a tree: its Op, :S, #N, its parts. What is nothing is not written; an S that is more than a word or sign stands in quotes, so that no two trees are written alike.
func show(n api.Node) string {
	s := n.Op
	if !slices.Contains(allOps, n.Op) {
		s = "?" + strconv.Quote(n.Op)
	}
	if n.S != "" {
		s += ":" + showS(n.S)
	}
	if n.N != 0 {
		s += "#" + strconv.FormatInt(n.N, 10)
	}
	if len(n.L) == 0 {
		return s
	}
	var parts []string
	for _, part := range n.L {
		parts = append(parts, show(part))
	}
	return s + "(" + strings.Join(parts, " ") + ")"
}

func showS(s string) string {
	if s == "read only" || strings.Trim(s, "abcdefghijklmnopqrstuvwxyz0123456789_") == "" || slices.Contains([]string{"=", "<>", "<", "<=", ">", ">="}, s) {
		return s
	}
	return strconv.Quote(s)
}

func reads(t *testing.T, text, want string) {
	t.Helper()
	tree, state := Parse(text)
	if is := show(tree); state != api.Done || is != want {
		t.Errorf("P14.1: S1: %s\nis       %s, %s\nnot      %s", text, is, state, want)
	}
}

// isNothing tells whether there is no tree.
func isNothing(n api.Node) bool {
	return n.Op == "" && n.S == "" && n.N == 0 && len(n.L) == 0
}

func refuses(t *testing.T, text string, want api.State) {
	t.Helper()
	tree, state := Parse(text)
	if state != want {
		t.Errorf("P14.1: S1: %.200q (%d bytes): %q, not %q", text, len(text), state, want)
	}
	if state != api.Done && !isNothing(tree) {
		t.Errorf("P14.1: S1: %.200q: a tree beside %q", text, state)
	}
}

func isSyntax(t *testing.T, texts ...string) {
	t.Helper()
	for _, text := range texts {
		refuses(t, text, api.Syntax)
	}
}

// one is the tree of `select 1 from t`, of which other trees are made.
const one = "select(items(item(num#1)) from(table:t(as:t)) where group having)"

// from is the tree of `select 1 from` some tables.
func from(tables string) string {
	return "query(select(items(item(num#1)) from(" + tables + ") where group having) order)"
}
