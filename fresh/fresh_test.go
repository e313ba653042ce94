package fresh

import (
	"fmt"
	"reflect"
	"slices"
	"testing"

	"bastion/api"
)

// filled is a thing with something in each field, and room behind each list.
func filled[T any]() T {
	v := reflect.New(reflect.TypeFor[T]()).Elem()
	n := 0
	fill(v, &n)
	return v.Interface().(T)
}

func fill(v reflect.Value, n *int) {
	*n++
	switch v.Kind() {
	case reflect.Bool:
		v.SetBool(true)
	case reflect.String:
		v.SetString(fmt.Sprint("text ", *n))
	case reflect.Struct:
		for i := range v.NumField() {
			fill(v.Field(i), n)
		}
	case reflect.Array:
		for i := range v.Len() {
			fill(v.Index(i), n)
		}
	case reflect.Slice:
		v.Set(reflect.MakeSlice(v.Type(), 2, 5))
		for i := range v.Len() {
			fill(v.Index(i), n)
		}
	default:
		v.Set(reflect.ValueOf(*n % 200).Convert(v.Type()))
	}
}

// memory is where each list and text of a thing begins and ends.
func memory(v reflect.Value) [][2]uintptr {
	var out [][2]uintptr
	switch v.Kind() {
	case reflect.String:
		from := uintptr(v.UnsafePointer())
		out = append(out, [2]uintptr{from, from + uintptr(v.Len())})
	case reflect.Struct:
		for i := range v.NumField() {
			out = append(out, memory(v.Field(i))...)
		}
	case reflect.Slice:
		out = append(out, [2]uintptr{v.Pointer(), v.Pointer() + uintptr(v.Cap())*v.Type().Elem().Size()})
		for i := range v.Len() {
			out = append(out, memory(v.Index(i))...)
		}
	}
	return out
}

// copies tells whether a copy is what was copied, in memory of its own.
func copies[T any](t *testing.T, become func(T) T) {
	t.Helper()
	x := filled[T]()
	y, z := become(x), become(x)
	if !reflect.DeepEqual(x, y) || !reflect.DeepEqual(x, filled[T]()) {
		t.Errorf("of %+v: %+v", filled[T](), y)
	}
	all := slices.Concat(memory(reflect.ValueOf(x)), memory(reflect.ValueOf(y)), memory(reflect.ValueOf(z)))
	slices.SortFunc(all, func(a, b [2]uintptr) int { return slices.Compare(a[:], b[:]) })
	for i := 1; i < len(all); i++ {
		if all[i][0] < all[i-1][1] {
			t.Errorf("of %T: memory is shared", x)
			return
		}
	}
	var none T
	if !reflect.DeepEqual(become(none), none) {
		t.Errorf("of nothing: %+v", become(none))
	}
}

// Words: what is answered is new memory, in all lists and texts.
func TestCopies(t *testing.T) {
	copies(t, Texts)
	copies(t, Url)
	copies(t, Origin)
	copies(t, Policies)
	copies(t, Grants)
	copies(t, Doc)
	copies(t, Tree)
	copies(t, Key)
	copies(t, Cell)
	copies(t, Cells)
	copies(t, State)
}

// P1: nil and empty lists are alike.
func TestEmpty(t *testing.T) {
	room := append(make([]string, 0, 3), "a")
	// Not even an end of what was handed in is kept.
	if l := Texts(room[:0]); l != nil {
		t.Errorf("Texts of none: %q, room for %d", l, cap(l))
	}
	if x := Tree(api.Tree{Navs: []api.Nav{{History: []int{}}}, Docs: []api.Doc{}}); len(x.Navs) != 1 || len(x.Docs) != 0 {
		t.Errorf("Tree: %+v", x)
	}
}
