package tests

import (
	"cmp"
	"reflect"
	"slices"
	"testing"
)

// spareRoom is how many things stand behind the end of each list that is given, to be seen if they turn.
const spareRoom = 3

// roomy is a copy of a value in which each list, at every depth, has room behind its end.
func roomy[T any](v T) T {
	return roomyValue(reflect.ValueOf(&v).Elem()).Interface().(T)
}

func roomyValue(v reflect.Value) reflect.Value {
	c := reflect.New(v.Type()).Elem()
	switch v.Kind() {
	case reflect.Slice:
		all := reflect.MakeSlice(v.Type(), v.Len()+spareRoom, v.Len()+spareRoom)
		for i := range v.Len() {
			all.Index(i).Set(roomyValue(v.Index(i)))
		}
		for i := v.Len(); i < all.Len(); i++ {
			fillOdd(all.Index(i))
		}
		c.Set(all.Slice(0, v.Len()))
	case reflect.Struct:
		for i := range v.NumField() {
			c.Field(i).Set(roomyValue(v.Field(i)))
		}
	default:
		c.Set(v)
	}
	return c
}

// fillOdd puts in what no list of the program's would hold by itself.
func fillOdd(v reflect.Value) {
	switch v.Kind() {
	case reflect.Int:
		v.SetInt(77)
	case reflect.Uint8:
		v.SetUint(77)
	case reflect.Bool:
		v.SetBool(true)
	case reflect.String:
		v.SetString("guard")
	case reflect.Struct:
		for i := range v.NumField() {
			fillOdd(v.Field(i))
		}
	}
}

// wholeOf is a copy of a value in which the room behind the end of each list is part of the list.
func wholeOf(v reflect.Value) reflect.Value {
	c := reflect.New(v.Type()).Elem()
	switch v.Kind() {
	case reflect.Slice:
		full := v.Slice(0, v.Cap())
		all := reflect.MakeSlice(v.Type(), full.Len(), full.Len())
		for i := range full.Len() {
			all.Index(i).Set(wholeOf(full.Index(i)))
		}
		c.Set(all)
	case reflect.Struct:
		for i := range v.NumField() {
			c.Field(i).Set(wholeOf(v.Field(i)))
		}
	default:
		c.Set(v)
	}
	return c
}

// region is where a list lies, its spare room included.
type region struct{ from, to uintptr }

// regionsOf tells where all lists of a value lie, at every depth.
func regionsOf(v reflect.Value) []region {
	var all []region
	switch v.Kind() {
	case reflect.Slice:
		if v.Cap() > 0 {
			from := v.Pointer()
			all = append(all, region{from, from + uintptr(v.Cap())*v.Type().Elem().Size()})
		}
		for i := range v.Len() {
			all = append(all, regionsOf(v.Index(i))...)
		}
	case reflect.Struct:
		for i := range v.NumField() {
			all = append(all, regionsOf(v.Field(i))...)
		}
	}
	return all
}

func regionsOfAll(values []any) []region {
	var all []region
	for _, v := range values {
		all = append(all, regionsOf(reflect.ValueOf(v))...)
	}
	return all
}

// checkMemory calls with arguments, which are to have spare room, and looks where what it answers lies, and whether something was written into what it was given.
func checkMemory(t *testing.T, what string, given []any, call func() []any) {
	t.Helper()
	var before []any
	for _, g := range given {
		before = append(before, wholeOf(reflect.ValueOf(g)).Interface())
	}
	mine := regionsOfAll(given)
	answer := call()
	for k, g := range given {
		if !reflect.DeepEqual(wholeOf(reflect.ValueOf(g)).Interface(), before[k]) {
			t.Errorf("%s: something is written into argument %d", what, k)
		}
	}
	if !slices.Equal(regionsOfAll(given), mine) {
		t.Errorf("%s: other lists are put into an argument", what)
	}
	inArgument, inAnswer := shared(mine, regionsOfAll(answer))
	if inArgument {
		t.Errorf("%s: the answer lies in an argument", what)
	}
	if inAnswer {
		t.Errorf("%s: two lists of the answer share memory", what)
	}
}

// shared says whether an answer's list meets one that was given, and whether it meets another one of the answer's.
func shared(given, answer []region) (bool, bool) {
	type owned struct {
		region
		told bool
	}
	var all []owned
	for _, r := range given {
		all = append(all, owned{r, false})
	}
	for _, r := range answer {
		all = append(all, owned{r, true})
	}
	slices.SortFunc(all, func(a, b owned) int { return cmp.Compare(a.from, b.from) })
	var inArgument, inAnswer bool
	var givenEnd, answerEnd uintptr
	for _, r := range all {
		if r.told {
			inArgument, inAnswer = inArgument || r.from < givenEnd, inAnswer || r.from < answerEnd
			answerEnd = max(answerEnd, r.to)
		} else {
			inArgument = inArgument || r.from < answerEnd
			givenEnd = max(givenEnd, r.to)
		}
	}
	return inArgument, inAnswer
}

type nested struct {
	N     int
	Lists [][]cell
	Texts []string
}

func badlyShared(n nested) nested { return nested{Lists: [][]cell{n.Lists[0][1:1]}} }

func sharedInside() nested {
	x := chain(3)
	return nested{Lists: [][]cell{x[:1], x[2:]}}
}

// TestSharedMemoryIsSeen: what looks for shared memory finds it.
func TestSharedMemoryIsSeen(t *testing.T) {
	n := roomy(nested{N: 3, Lists: [][]cell{chain(2), nil, chain(4)}, Texts: []string{"a"}})
	if len(n.Lists) != 3 || cap(n.Lists) != 3+spareRoom || len(n.Lists[1]) != 0 || cap(n.Lists[1]) != spareRoom || !slices.Equal(n.Lists[2], chain(4)) {
		t.Fatalf("the copy is %v", n)
	}
	if n.Lists[0][:3][2] != (cell{Kind: 77, N: 77, Name: "guard"}) {
		t.Fatalf("the room behind is %v", n.Lists[0][:5])
	}
	for k, one := range []struct {
		answer               []any
		inArgument, inAnswer bool
	}{
		{[]any{badlyShared(n)}, true, false},
		{[]any{sharedInside()}, false, true},
		{[]any{roomy(n)}, false, false},
		{[]any{roomy(n), n.Texts[1:1]}, true, false},
		{[]any{roomy(n), roomy(n)}, false, false},
		{[]any{nested{}}, false, false},
	} {
		inArgument, inAnswer := shared(regionsOfAll([]any{n}), regionsOfAll(one.answer))
		if inArgument != one.inArgument || inAnswer != one.inAnswer {
			t.Errorf("%d: %t and %t", k, inArgument, inAnswer)
		}
	}
	was := wholeOf(reflect.ValueOf(n)).Interface()
	n.Lists[2][:6][5].N = 3
	if reflect.DeepEqual(was, wholeOf(reflect.ValueOf(n)).Interface()) {
		t.Errorf("what is written behind an end is not seen")
	}
}
