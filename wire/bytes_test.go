package wire_test

import (
	"bytes"
	"encoding/binary"
	"fmt"
	"math/big"
	"math/rand/v2"
	"runtime"
	"slices"
	"strings"
	"testing"

	"platelayer/api"
	"platelayer/asm"
	"platelayer/obj"
	"platelayer/wire"
)

// written is what Bytes must make of messages, put down by hand; behind it comes the sum.
var written = []struct {
	m    api.Msg
	text string
	sum  int
}{
	{lease(), "\x01\x02\x03\x01\x2c\x00\x00\x00\x00\x00\x00\x03nop", 63<<8 | 13},
	{api.Msg{Kind: api.MsgObject}, "\x02\x00\x00\x00\x00\x00\x00\x00\x00\x00\x00\x00", 36<<8 | 73},
	{fault(), "\x03\x01\x01\xff\xff\x04\x00\x07\x00\x00\x00\x00", 65<<8 | 196},
	{object(), "\x02\x01\x02\x00\x01\x00\x00\x00\x00\x00\x00\x04\x00\xff\x00\x09", -1},
	{api.Msg{Kind: api.MsgLease, Turn: 0x1234}, "\x01\x00\x00\x12\x34\x00\x00\x00\x00\x00\x00\x00", -1},
	{api.Msg{Kind: api.MsgFault, Unit: 3, Fault: api.Fault{Err: api.ErrBusy, At: 0xabcd}}, "\x03\x00\x03\x00\x00\x0e\xab\xcd\x00\x00\x00\x00", -1},
	{api.Msg{Kind: api.MsgLease, Data: bytes.Repeat([]byte{7}, 259)}, "\x01\x00\x00\x00\x00\x00\x00\x00\x00\x00\x01\x03" + strings.Repeat("\x07", 259), -1},
	{api.Msg{Kind: api.MsgObject, Data: make([]byte, 66000)}, "\x02\x00\x00\x00\x00\x00\x00\x00\x00\x01\x01\xd0" + strings.Repeat("\x00", 66000), -1},
	{api.Msg{Kind: api.MsgLease, Data: bytes.Repeat([]byte{0xff}, 1<<20)}, "\x01\x00\x00\x00\x00\x00\x00\x00\x00\x10\x00\x00" + strings.Repeat("\xff", 1<<20), -1},
}

// plainSum keeps the whole number, however great, and takes the rest at the end alone; of many bytes it does so piece by piece.
func plainSum(text string) int {
	end := big.NewInt(65521)
	n := big.NewInt(1)
	for piece := range slices.Chunk([]byte(text), 64) {
		for _, x := range piece {
			n.Mul(n, big.NewInt(31))
			n.Add(n, big.NewInt(int64(x)+1))
		}
		if len(text) > 1000 {
			n.Mod(n, end)
		}
	}
	return int(n.Mod(n, end).Int64())
}

// summed is a text with its sum behind it.
func summed(text string) string {
	return withSum(text, plainSum(text))
}

func withSum(text string, n int) string {
	return text + string([]byte{byte(n >> 8), byte(n)})
}

func TestJ1BytesAsWritten(t *testing.T) {
	for _, c := range written {
		if n := plainSum(c.text); c.sum >= 0 && n != c.sum {
			t.Errorf("the sum of %.40q is %d, not %d", c.text, n, c.sum)
		}
		if b, err := wire.Bytes(c.m); string(b) != summed(c.text) || err != api.OK {
			t.Errorf("Bytes(%s) is %.40q %v, not %.40q", told(c.m), b, err, summed(c.text))
		}
	}
	if b, _ := wire.Bytes(lease()); len(b) != 17 {
		t.Errorf("a message of three bytes has %d", len(b))
	}
}

func TestJ1ParseOfWhatIsWritten(t *testing.T) {
	for _, c := range written {
		if m, err := wire.Parse([]byte(summed(c.text))); !same(m, c.m) || err != api.OK {
			t.Errorf("Parse(%.40q) is %s %v, not %s", c.text, told(m), err, told(c.m))
		}
	}
}

// refuse fails if Parse has another error, or something beside it.
func refuse(t *testing.T, text string, err api.Errno) {
	t.Helper()
	if m, got := wire.Parse([]byte(text)); got != err || !same(m, api.Msg{}) {
		t.Errorf("Parse(%.40q of %d) is %s %v, not %v", text, len(text), told(m), got, err)
	}
}

func TestJ1ParseOfTooFewAndTooMany(t *testing.T) {
	for _, c := range written[:7] {
		text := summed(c.text)
		for k := range len(text) {
			refuse(t, text[:k], api.ErrForm)
		}
		for k := range len(c.text) {
			refuse(t, summed(c.text[:k]), api.ErrForm)
		}
		refuse(t, text+"\x00", api.ErrForm)
		refuse(t, summed(c.text+"\x00"), api.ErrForm)
		refuse(t, "\x00"+text, api.ErrForm)
		refuse(t, text+text, api.ErrForm)
	}
	refuse(t, "", api.ErrForm)
	if m, err := wire.Parse(nil); err != api.ErrForm || !same(m, api.Msg{}) {
		t.Errorf("Parse(nil) is %s %v", told(m), err)
	}
}

func TestJ1ParseOfOtherLengths(t *testing.T) {
	head := "\x01\x00\x00\x00\x00\x00\x00\x00"
	for _, text := range []string{
		head + "\x00\x00\x00\x01", head + "\x00\x00\x00\x00x", head + "\x00\x00\x00\x02x", head + "\x03\x00\x00\x00xyz",
		// The greatest ones, and such as would be 0, or the sum's bytes, in a number that has a sign.
		head + "\xff\xff\xff\xff", head + "\x7f\xff\xff\xff", head + "\x80\x00\x00\x00", head + "\xff\xff\xff\xfe", head + "\xff\xff\xff\xf2",
		// The sum is no data, though it is there.
		head + "\x00\x00\x00\x02", head + "\x00\x00\x00\x03x",
	} {
		refuse(t, summed(text), api.ErrForm)
	}
	// What is wrong, too, has another length first.
	refuse(t, summed("\x04\x09\x09\x00\x00\x63\x00\x00\x00\x00\x00\x01"), api.ErrForm)
	refuse(t, summed("\x01\x00\x00\x00\x00\x00\x00\x00\x00\x10\x00\x02"+strings.Repeat("x", 1<<20+1)), api.ErrForm)
}

func TestJ1ParseOfOtherSums(t *testing.T) {
	for _, c := range written[:6] {
		n := plainSum(c.text)
		for k := range 1 << 16 {
			if k != n {
				refuse(t, withSum(c.text, k), api.ErrForm)
			}
		}
	}
	// What is wrong, too, has another sum first.
	refuse(t, "\x04\x09\x09\x00\x00\x63\x00\x00\x00\x00\x00\x00\x00\x00", api.ErrForm)
}

// lowSum is a message whose sum is so low that it could be written with 65521 more.
func lowSum(t *testing.T) string {
	for k := range 1 << 16 {
		text := "\x01\x00\x00" + string([]byte{byte(k >> 8), byte(k)}) + "\x00\x00\x00\x00\x00\x00\x00"
		if plainSum(text) <= 65535-65521 {
			return text
		}
	}
	t.Fatal("there is no such message")
	return ""
}

func TestJ1ParseOfASumThatIsNoRest(t *testing.T) {
	text := lowSum(t)
	refuse(t, withSum(text, plainSum(text)+65521), api.ErrForm)
	if m, err := wire.Parse([]byte(summed(text))); err != api.OK || m.Kind != api.MsgLease {
		t.Errorf("Parse(%q) is %s %v", summed(text), told(m), err)
	}
}

func TestJ1ParseOfWhatIsWrong(t *testing.T) {
	for _, c := range []struct {
		text string
		err  api.Errno
	}{
		{"\x00\x00\x00\x00\x00\x00\x00\x00\x00\x00\x00\x00", api.ErrKind},
		{"\x04\x00\x00\x00\x00\x00\x00\x00\x00\x00\x00\x00", api.ErrKind},
		{"\xff\xff\xff\xff\xff\xff\xff\xff\x00\x00\x00\x01\xff", api.ErrKind},
		{"\x01\x03\x00\x00\x00\x00\x00\x00\x00\x00\x00\x00", api.ErrRange},
		{"\x01\xff\x00\x00\x00\x01\x00\x00\x00\x00\x00\x00", api.ErrRange},
		{"\x02\x00\x04\x00\x00\x00\x00\x00\x00\x00\x00\x00", api.ErrRange},
		{"\x03\x00\xff\x00\x00\x00\x00\x00\x00\x00\x00\x00", api.ErrRange},
		{"\x01\x00\x00\x00\x00\x01\x00\x00\x00\x00\x00\x00", api.ErrFit},
		{"\x02\x00\x00\x00\x00\x00\x00\x01\x00\x00\x00\x00", api.ErrFit},
		{"\x02\x00\x00\x00\x00\x00\x01\x00\x00\x00\x00\x01x", api.ErrFit},
		{"\x03\x00\x00\x00\x00\x00\x00\x00\x00\x00\x00\x00", api.ErrFit},
		{"\x03\x00\x00\x00\x00\x0f\x00\x00\x00\x00\x00\x00", api.ErrFit},
		{"\x03\x00\x00\x00\x00\xff\x00\x00\x00\x00\x00\x00", api.ErrFit},
		{"\x03\x00\x00\x00\x00\x01\x00\x00\x00\x00\x00\x01x", api.ErrFit},
		{"\x01\x00\x00\x00\x00\x00\x00\x00\x00\x10\x00\x01" + strings.Repeat("x", 1<<20+1), api.ErrMuch},
		{"\x02\x00\x00\x00\x00\x00\x00\x00\x00\x10\x00\x01" + strings.Repeat("x", 1<<20+1), api.ErrMuch},
		{"\x03\x00\x00\x00\x00\x01\x00\x00\x00\x10\x00\x01" + strings.Repeat("x", 1<<20+1), api.ErrFit},
		{"\x02\x00\x00\x00\x00\x00\x00\x01\x00\x10\x00\x01" + strings.Repeat("x", 1<<20+1), api.ErrFit},
	} {
		refuse(t, summed(c.text), c.err)
	}
}

func TestJ1ParseSharesNothing(t *testing.T) {
	text, _ := wire.Bytes(object())
	b := append(slices.Clone(text), "more"...)
	before := slices.Clone(b)
	m, err := wire.Parse(b[:len(text)])
	if err != api.OK || !same(m, object()) || !slices.Equal(b, before) {
		t.Fatalf("Parse is %s %v, and what was handed in %q", told(m), err, b)
	}
	spoil(b)
	if !same(m, object()) {
		t.Errorf("the message is %s behind a change of its bytes", told(m))
	}
	spoilt := slices.Clone(b)
	spoil(m.Data)
	if !slices.Equal(b, spoilt) {
		t.Error("bytes are others behind a change of the message")
	}
}

// spread is a message as the library lays it.
type spread struct {
	Kind, Worker, Unit uint8
	Turn               uint16
	Err                uint8
	At                 uint16
	Data               uint32
}

// plainParse reads by the library's means; what is wrong with a message is what plainWrong says.
func plainParse(b []byte) (api.Msg, api.Errno) {
	var s spread
	if len(b) < 14 || binary.Read(bytes.NewReader(b), binary.BigEndian, &s) != nil || uint64(s.Data) != uint64(len(b)-14) {
		return api.Msg{}, api.ErrForm
	}
	text := string(b[:len(b)-2])
	if summed(text) != string(b) {
		return api.Msg{}, api.ErrForm
	}
	m := api.Msg{Kind: int(s.Kind), Worker: int(s.Worker), Unit: int(s.Unit), Turn: int(s.Turn), Data: []byte(text[12:])}
	m.Fault = api.Fault{Err: api.Errno(s.Err), At: int(s.At)}
	if err := plainWrong(m); err != api.OK {
		return api.Msg{}, err
	}
	return m, api.OK
}

// plainWrong puts down all that is wrong, in the chapter's order, and answers the first.
func plainWrong(m api.Msg) api.Errno {
	all := []api.Errno{}
	add := func(wrong bool, err api.Errno) {
		if wrong {
			all = append(all, err)
		}
	}
	isFault := m.Kind == 3
	add(!slices.Contains([]int{1, 2, 3}, m.Kind), api.ErrKind)
	add(m.Worker < 0 || m.Worker > 2 || m.Unit < 0 || m.Unit > 3 || m.Turn < 0 || m.Turn > 65535, api.ErrRange)
	add(isFault && (m.Fault.Err < 1 || m.Fault.Err > 14 || m.Fault.At < 0 || m.Fault.At > 65535 || len(m.Data) > 0), api.ErrFit)
	add(!isFault && (m.Fault.Err != 0 || m.Fault.At != 0), api.ErrFit)
	add(len(m.Data) > 1048576, api.ErrMuch)
	return append(all, api.OK)[0]
}

// against fails if Parse of b is not the plain one, or, where there is no error, Bytes of that is not b.
func against(t *testing.T, b []byte) api.Errno {
	t.Helper()
	m, err := wire.Parse(b)
	p, plain := plainParse(b)
	if !same(m, p) || err != plain {
		t.Fatalf("Parse(%q) is %s %v, not %s %v", b, told(m), err, told(p), plain)
	}
	if err == api.OK {
		if again, e := wire.Bytes(m); !slices.Equal(again, b) || e != api.OK {
			t.Fatalf("Bytes of what %q is are %q %v", b, again, e)
		}
	}
	return err
}

func TestJ1ParseOfEveryOtherByte(t *testing.T) {
	seen := map[api.Errno]int{}
	for _, c := range written[:6] {
		text := summed(c.text)
		for i := range len(text) {
			for x := range 256 {
				b := []byte(text)
				b[i] = byte(x)
				if err := against(t, b); (err == api.OK) != (string(b) == text) {
					t.Fatalf("Parse(%q) has error %v, one byte of %q being another one", b, err, text)
				}
				seen[against(t, []byte(summed(string(b[:len(c.text)]))))]++
			}
		}
	}
	for _, err := range []api.Errno{api.OK, api.ErrForm, api.ErrKind, api.ErrRange, api.ErrFit} {
		if seen[err] < 100 {
			t.Errorf("only %d texts have error %v", seen[err], err)
		}
	}
}

// made is a message in which something may be wrong.
func made(r *rand.Rand) api.Msg {
	// A number from 0 to below n, or sometimes any one.
	pick := func(n int) int {
		if r.IntN(12) == 0 {
			return odd[r.IntN(len(odd))]
		}
		return r.IntN(n)
	}
	m := api.Msg{Kind: 1 + pick(3), Worker: pick(3), Unit: pick(4), Turn: pick(65536)}
	if m.Kind == api.MsgFault || r.IntN(12) == 0 {
		m.Fault = api.Fault{Err: api.Errno(1 + pick(14)), At: pick(65536)}
	}
	if m.Kind != api.MsgFault || r.IntN(12) == 0 {
		m.Data = make([]byte, r.IntN(40))
	}
	for i := range m.Data {
		m.Data[i] = byte(r.Uint32())
	}
	return m
}

// put is a message as Bytes would write it, if nothing were wrong with it: numbers that have no room are cut.
func put(m api.Msg) string {
	var b bytes.Buffer
	s := spread{uint8(m.Kind), uint8(m.Worker), uint8(m.Unit), uint16(m.Turn), uint8(m.Fault.Err), uint16(m.Fault.At), uint32(len(m.Data))}
	if binary.Write(&b, binary.BigEndian, s) != nil {
		panic("a message can't be written")
	}
	return summed(b.String() + string(m.Data))
}

func TestJ1OfManyMessages(t *testing.T) {
	r := rand.New(rand.NewPCG(10, 1))
	seen := map[api.Errno]int{}
	for range 60000 {
		m := made(r)
		err := plainWrong(m)
		seen[err]++
		b, got := wire.Bytes(m)
		if wrong := wire.Wrong(m); wrong != err || got != err {
			t.Fatalf("Wrong(%s) is %v, and Bytes's error %v, not %v", told(m), wrong, got, err)
		}
		against(t, []byte(put(m)))
		if err != api.OK {
			if len(b) > 0 {
				t.Fatalf("Bytes(%s) is %q beside an error", told(m), b)
			}
			continue
		}
		if string(b) != put(m) {
			t.Fatalf("Bytes(%s) is %q, not %q", told(m), b, put(m))
		}
		if p, err := wire.Parse(b); !same(p, m) || err != api.OK {
			t.Fatalf("Parse of what %s is as bytes is %s %v", told(m), told(p), err)
		}
	}
	for _, err := range []api.Errno{api.OK, api.ErrKind, api.ErrRange, api.ErrFit} {
		if seen[err] < 100 {
			t.Errorf("only %d messages have error %v", seen[err], err)
		}
	}
}

func TestJ1OfAnyBytes(t *testing.T) {
	r := rand.New(rand.NewPCG(10, 2))
	for range 60000 {
		b := make([]byte, r.IntN(40))
		for i := range b {
			b[i] = byte(r.IntN(256) >> r.IntN(9)) // low ones too, so that little is wrong
		}
		against(t, b)
		if len(b) >= 12 {
			binary.BigEndian.PutUint32(b[8:], uint32(len(b)-12))
			against(t, []byte(summed(string(b))))
		}
	}
}

func TestJ1OfWhatFarmsSend(t *testing.T) {
	source := []byte("mov.l =a,r1\na: bra a\nnop")
	o, f := asm.Unit(source)
	data, err := obj.Bytes(o)
	if f.Err != api.OK || err != api.OK {
		t.Fatalf("%q is %v %v %v", source, o, f, err)
	}
	_, f = asm.Unit([]byte("nop\nbt far"))
	for _, m := range []api.Msg{
		{Kind: api.MsgLease, Worker: 1, Unit: 2, Turn: 3, Data: source},
		{Kind: api.MsgObject, Worker: 1, Unit: 2, Turn: 3, Data: data},
		{Kind: api.MsgFault, Worker: 1, Unit: 2, Turn: 3, Fault: f},
		{Kind: api.MsgFault, Fault: api.Fault{Err: api.ErrMuch}},
	} {
		b, err := wire.Bytes(m)
		if p, again := wire.Parse(b); err != api.OK || again != api.OK || !same(p, m) {
			t.Errorf("of what %s is as bytes (%v) comes %s %v", told(m), err, told(p), again)
		}
	}
}

func TestJ1ParseTakesNoRoomForWhatIsTooMuch(t *testing.T) {
	const many = 1 << 24
	text := []byte(summed("\x01\x00\x00\x00\x00\x00\x00\x00\x01\x00\x00\x00" + strings.Repeat("x", many)))
	var before, behind runtime.MemStats
	runtime.ReadMemStats(&before)
	m, err := wire.Parse(text)
	runtime.ReadMemStats(&behind)
	if err != api.ErrMuch || !same(m, api.Msg{}) {
		t.Errorf("Parse of %d bytes of data is %s %v", many, told(m), err)
	}
	if n := behind.TotalAlloc - before.TotalAlloc; n > 1<<20 {
		t.Errorf("Parse asks for %d bytes", n)
	}
}

func Example() {
	b, err := wire.Bytes(api.Msg{Kind: api.MsgLease, Worker: 2, Unit: 3, Turn: 300, Data: []byte("nop")})
	fmt.Println(b, err)
	m, err := wire.Parse(b)
	fmt.Printf("%d %d %d %d %q %v\n", m.Kind, m.Worker, m.Unit, m.Turn, m.Data, err)
	// Output:
	// [1 2 3 1 44 0 0 0 0 0 0 3 110 111 112 63 13] 0
	// 1 2 3 300 "nop" 0
}
