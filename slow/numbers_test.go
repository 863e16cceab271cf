package slow_test

import (
	"math"
	"math/big"
	"strconv"
	"testing"

	"keystone/api"
	"keystone/instr"
)

// corners are numbers at which something may go wrong.
var corners = []int64{0, 1, -1, 2, -2, 3, 5, -5, 7, 10, 31, 32, 62, 63, 64, 65, 127, 128, -63, -64, -65, 1 << 31, -1 << 31, 1<<31 - 1, 1 << 32, 1<<32 + 1, 1 << 62, 3 << 61, math.MaxInt64, math.MaxInt64 - 1, math.MinInt64, math.MinInt64 + 1}

// wrapped is a whole number modulo 2^64, with a sign.
func wrapped(n *big.Int) int64 {
	m := new(big.Int).And(n, new(big.Int).SetUint64(math.MaxUint64))
	return int64(m.Uint64())
}

// reckonedPlainly is what an operation of two numbers puts, by whole numbers without bounds.
func reckonedPlainly(op int, a, b int64) int64 {
	x, y, n := big.NewInt(a), big.NewInt(b), new(big.Int)
	six := uint(uint64(b) % 64)
	switch op {
	case api.IAdd:
		n.Add(x, y)
	case api.ISub:
		n.Sub(x, y)
	case api.IMul:
		n.Mul(x, y)
	case api.IDiv:
		n.Quo(x, y)
	case api.IRem:
		n.Rem(x, y)
	case api.IAnd:
		n.And(x, y)
	case api.IOr:
		n.Or(x, y)
	case api.IXor:
		n.Xor(x, y)
	case api.IShl:
		n.Lsh(x, six)
	case api.IShr:
		n.Rsh(x, six) // rounds down, as a sign that is kept does
	}
	return wrapped(n)
}

// P1402: numbers of two: all corners with each other.
func TestReckoning(t *testing.T) {
	for _, op := range []int{api.IAdd, api.ISub, api.IMul, api.IDiv, api.IRem, api.IAnd, api.IOr, api.IXor, api.IShl, api.IShr} {
		m := alone(t, "(II)I 2 2", "load 0\nload 1\n"+instr.Name(op)+"\ngive")
		for _, a := range corners {
			for _, b := range corners {
				want := api.Result{Err: api.ErrThrown, Thrown: "DivError", Steps: 3}
				if b != 0 || op != api.IDiv && op != api.IRem {
					want = api.Result{Value: num(reckonedPlainly(op, a, b)), Steps: 4}
				}
				if got := m.Run(9, "M", "f", sig("(II)I"), num(a), num(b)); resText(got) != resText(want) {
					t.Errorf("%d %s %d: %s, wanted %s", a, instr.Name(op), b, resText(got), resText(want))
				}
			}
		}
	}
}

// P1402: the same, written out.
func TestReckoningByHand(t *testing.T) {
	const low, high = "-9223372036854775808", "9223372036854775807"
	for _, x := range [][3]string{
		{high + " 1", "add", low}, {low + " 1", "sub", high}, {low + " -1", "mul", low}, {high + " 2", "mul", "-2"},
		{"7 2", "div", "3"}, {"-7 2", "div", "-3"}, {"7 -2", "div", "-3"}, {"-7 -2", "div", "3"}, {low + " -1", "div", low}, {low + " 1", "div", low}, {"0 5", "div", "0"},
		{"7 2", "rem", "1"}, {"-7 2", "rem", "-1"}, {"7 -2", "rem", "1"}, {"-7 -2", "rem", "-1"}, {low + " -1", "rem", "0"}, {low + " " + high, "rem", "-1"},
		{"6 3", "and", "2"}, {"-1 5", "and", "5"}, {"6 3", "or", "7"}, {"-8 1", "or", "-7"}, {"6 3", "xor", "5"}, {"-1 5", "xor", "-6"},
		{"1 63", "shl", low}, {"1 64", "shl", "1"}, {"1 65", "shl", "2"}, {"3 -1", "shl", low}, {"3 -64", "shl", "3"}, {"3 -63", "shl", "6"}, {"5 0", "shl", "5"},
		{low + " 63", "shr", "-1"}, {"-5 1", "shr", "-3"}, {"5 1", "shr", "2"}, {low + " 64", "shr", low}, {high + " 63", "shr", "0"}, {"-1 -1", "shr", "-1"}, {low + " -1", "shr", "-1"}, {"-1 63", "shr", "-1"},
	} {
		tells(t, "(II)I 2 2", "load 0\nload 1\n"+x[1]+"\ngive", x[0], "ok "+x[2]+" :4")
	}
	for _, op := range []string{"div", "rem"} {
		for _, n := range []string{"0", "1", "-1", low, high} {
			tells(t, "(II)I 2 2", "load 0\nload 1\n"+op+"\ngive", n+" 0", "thrown DivError :3")
		}
	}
	for n, want := range map[string]string{"0": "0", "5": "-5", "-5": "5", low: low, high: "-" + high} {
		tells(t, "(I)I 1 1", "load 0\nneg\ngive", n, "ok "+want+" :3")
	}
}

// P1402: number puts what its entry says.
func TestNumbers(t *testing.T) {
	for _, n := range corners {
		s := strconv.FormatInt(n, 10)
		tells(t, "()I 1 0", "number "+s+"\ngive", "", "ok "+s+" :2")
	}
}

// P1402: jumps of numbers, taken and not.
func TestJumps(t *testing.T) {
	const taken, not = "ok 1 :4", "ok 0 :4"
	for _, n := range corners {
		s := strconv.FormatInt(n, 10)
		want := map[bool]string{true: taken, false: not}
		tells(t, "(I)I 2 1", "load 0\nzero yes\nnumber 0\ngive\nyes: number 1\ngive", s, want[n == 0])
		tells(t, "(I)I 2 1", "load 0\nminus yes\nnumber 0\ngive\nyes: number 1\ngive", s, want[n < 0])
	}
	m := alone(t, "(II)I 2 2", "load 0\nload 1\nless yes\nnumber 0\ngive\nyes: number 1\ngive")
	for _, a := range corners {
		for _, b := range corners {
			want := "ok 0 :5"
			if a < b {
				want = "ok 1 :5"
			}
			if got := resText(m.Run(9, "M", "f", sig("(II)I"), num(a), num(b))); got != want {
				t.Errorf("%d less %d: %s", a, b, got)
			}
		}
	}
	tells(t, "()I 1 0", "jump there\nback: number 2\ngive\nthere: jump back", "", "ok 2 :4")
	tells(t, "(I)I 3 1", "again: load 0\nprint\nload 0\nzero end\nload 0\nnumber 1\nsub\nstore 0\njump again\nend: load 0\ngive", "2", "ok 0 :24 [2 1 0]")
	tells(t, "(I)I 2 1", "load 0\nzero next\nnext: number 4\ngive", "0", "ok 4 :4")
	tells(t, "(I)I 2 1", "load 0\nzero next\nnext: number 4\ngive", "1", "ok 4 :4")
}

// P1402: jumps of objects, taken and not.
func TestObjectJumps(t *testing.T) {
	const asked = "\nisnil yes\nnumber 0\ngive\nyes: number 1\ngive"
	tells(t, "()I", "nil"+asked, "", "ok 1 :4")
	tells(t, "()I", made("A")+asked, "", "ok 0 :9")
	tells(t, "()I", "number 0\narray I"+asked, "", "ok 0 :5")
	tells(t, "(LObject;)I", "load 0"+asked, "@0", "ok 1 :4")
	tells(t, "(LObject;)I", "load 0"+asked, "@1", "ok 0 :4")
	const both = "load 0\nload 1\nsame yes\nnumber 0\ngive\nyes: number 1\ngive"
	for args, want := range map[string]string{"@0 @0": "1", "@1 @1": "1", "@1 @2": "0", "@0 @1": "0", "@1 @0": "0", "@6 @6": "1"} {
		tells(t, "(LObject;LObject;)I", both, args, "ok "+want+" :5")
	}
	tells(t, "()I", made("A")+"dup\nsame yes\nnumber 0\ngive\nyes: number 1\ngive", "", "ok 1 :10")
	tells(t, "()I", made("A")+made("A")+"same yes\nnumber 0\ngive\nyes: number 1\ngive", "", "ok 0 :15")
}
