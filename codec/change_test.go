package codec_test

import (
	"math"
	"reflect"
	"slices"
	"strings"
)

// changes answers copies of a thing, in each of which just one field, at any
// depth, is another than in x: each number, text and bool, and each list, with
// a row more or fewer, or with rows that changed places.
func changes[T any](x *T) []*T {
	var all []*T
	visit(reflect.ValueOf(plain(x)).Elem(), func(path []int) {
		for k := range ways {
			c := plain(x)
			if changed(at(reflect.ValueOf(c).Elem(), path), k) && !same(c, x) {
				all = append(all, c)
			}
		}
	}, nil)
	return all
}

// visit calls f with the path of each field and row below v.
func visit(v reflect.Value, f func(path []int), path []int) {
	if len(path) > 0 && v.Kind() != reflect.Struct {
		f(slices.Clone(path))
	}
	switch v.Kind() {
	case reflect.Struct:
		for i := range v.NumField() {
			visit(v.Field(i), f, append(path, i))
		}
	case reflect.Slice:
		for i := range v.Len() {
			visit(v.Index(i), f, append(path, i))
		}
	}
}

// at answers what stands at a path.
func at(v reflect.Value, path []int) reflect.Value {
	for _, i := range path {
		if v.Kind() == reflect.Struct {
			v = v.Field(i)
		} else {
			v = v.Index(i)
		}
	}
	return v
}

// ways is how many ways there are to change one field.
const ways = 9

// changed changes a field in way k, if there is such a way.
func changed(v reflect.Value, k int) bool {
	switch v.Kind() {
	case reflect.Bool:
		v.SetBool(!v.Bool())
		return k == 0
	case reflect.String:
		return changedText(v, k)
	case reflect.Slice:
		return changedList(v, k)
	default:
		n := v.Int()
		v.SetInt([ways]int64{n ^ 1, n + 1, n - 1, -n, ^n, n ^ math.MinInt64, 0, math.MinInt64, math.MaxInt64}[k])
		return true
	}
}

func changedText(v reflect.Value, k int) bool {
	s := v.String()
	n := len(s)
	if n == 0 {
		v.SetString([ways]string{"x", "\x00", "\xff", "xy", " ", "1", "ann", strings.Repeat("x", 128), "\x00\x00"}[k])
		return true
	}
	v.SetString([ways]string{
		"", s[1:], s[:n-1], s + "x", s + "\x00", "x" + s,
		string([]byte{s[0] ^ 1}) + s[1:], s[:n-1] + string([]byte{s[n-1] ^ 0x80}), s + s,
	}[k])
	return true
}

func changedList(v reflect.Value, k int) bool {
	n := v.Len()
	empty := reflect.MakeSlice(v.Type(), 1, 1)
	switch {
	case k == 0:
		v.Set(reflect.AppendSlice(v, empty))
	case k == 1:
		v.Set(reflect.AppendSlice(empty, v))
	case n == 0:
		return false
	case k == 2:
		v.Set(v.Slice(1, n))
	case k == 3:
		v.Set(v.Slice(0, n-1))
	case k == 4:
		v.SetZero()
	case k == 5:
		v.Set(reflect.AppendSlice(v, v))
	case k == 6:
		v.Index(0).SetZero()
	case k == 7 && n > 1:
		reflect.Swapper(v.Interface())(0, n-1)
	default:
		return false
	}
	return true
}
