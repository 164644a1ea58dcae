package tests

import (
	"fmt"
	"math"
	"slices"
	"strings"
	"testing"
	"time"

	"loop.example/g00253/impl"
)

const lastVersion = 1000

func sameClient(a, b impl.Client) bool {
	return a.Id == b.Id && a.Text == b.Text && a.Version == b.Version && a.Seq == b.Seq && a.Waits == b.Waits && a.Dirty == b.Dirty && slices.Equal(a.Sent, b.Sent) && slices.Equal(a.Buffer, b.Buffer)
}

func sameMeeting(a, b impl.Meeting) bool {
	return sameServer(a.Server, b.Server) && slices.EqualFunc(a.Clients, b.Clients, sameClient)
}

func isZeroClient(c impl.Client) bool { return sameClient(c, impl.Client{}) }

func isZeroMeeting(m impl.Meeting) bool { return sameMeeting(m, impl.Meeting{}) }

func cloneOfClient(c impl.Client) impl.Client {
	c.Sent, c.Buffer = slices.Clone(c.Sent), slices.Clone(c.Buffer)
	return c
}

// cloneOfMeeting has lists of its own, as long as they are.
func cloneOfMeeting(m impl.Meeting) impl.Meeting {
	out := impl.Meeting{Server: cloneOfServer(m.Server)}
	for _, c := range m.Clients {
		out.Clients = append(out.Clients, cloneOfClient(c))
	}
	return out
}

// writerIsGood asks for what chapter 16 says of a client alone, one by one.
func writerIsGood(c impl.Client) bool {
	if c.Id < 0 || c.Id > impl.MaxClients-1 || c.Version < 0 || c.Version > lastVersion || c.Seq < 0 || c.Seq > lastSeq {
		return false
	}
	if !textIsGood(c.Text) || !opIsGood(c.Sent) || !opIsGood(c.Buffer) {
		return false
	}
	if len(c.Sent) > 0 && !c.Waits || len(c.Buffer) > 0 && !c.Dirty {
		return false
	}
	return (!c.Waits || c.Seq != 0) && (!c.Dirty || c.Waits)
}

// hasTextByHand tells whether a client's Text is what it has done to the server's
// text at its version.
func hasTextByHand(s impl.Server, c impl.Client) bool {
	texts, _ := textsByHand(s.Start, s.Log)
	text, fits := texts[c.Version], true
	if c.Waits {
		text, fits = applyByHand(c.Sent, text)
	}
	if fits && c.Dirty {
		text, fits = applyByHand(c.Buffer, text)
	}
	return fits && text == c.Text
}

// hasSeqsByHand tells whether a client's own entries are where they may be.
func hasSeqsByHand(s impl.Server, c impl.Client) bool {
	others := func(e impl.Entry) bool { return e.Client != c.Id }
	unheard := slices.DeleteFunc(cloneOfEntries(s.Log[c.Version:]), others)
	most, _ := lastSeqByHand(s, c.Id)
	if len(unheard) > 1 || len(unheard) == 1 && (!c.Waits || unheard[0].Seq != c.Seq) {
		return false
	}
	if c.Waits && len(unheard) == 0 {
		return most < c.Seq
	}
	return most <= c.Seq
}

// meetingIsGood asks for what chapter 16 says of a meeting, one by one.
func meetingIsGood(m impl.Meeting) bool {
	if len(m.Clients) == 0 || len(m.Clients) > impl.MaxClients || !serverIsGood(m.Server) {
		return false
	}
	for i, c := range m.Clients {
		if c.Id != i || !writerIsGood(c) || c.Version > len(m.Server.Log) {
			return false
		}
		if !hasTextByHand(m.Server, c) || !hasSeqsByHand(m.Server, c) {
			return false
		}
	}
	return true
}

func editByHand(c impl.Client, op []impl.Part) (impl.Client, bool) {
	text, fits := applyByHand(op, c.Text)
	if !fits || !opIsGood(op) || !writerIsGood(c) {
		return impl.Client{}, false
	}
	out := cloneOfClient(c)
	out.Text = text
	if !c.Waits {
		out.Waits, out.Seq, out.Sent = true, c.Seq+1, normalByHand(op)
		return out, writerIsGood(out)
	}
	ahead := c.Buffer
	if !c.Dirty {
		ahead, _ = impl.KeepAll(len(c.Text))
	}
	whole, told := composeByHand(ahead, op)
	out.Dirty, out.Buffer = true, whole
	return out, told && writerIsGood(out)
}

func hearByHand(c impl.Client, e impl.Entry) (impl.Client, bool) {
	if !writerIsGood(c) || !entryIsGood(e) {
		return impl.Client{}, false
	}
	out := cloneOfClient(c)
	out.Version++
	if e.Client == c.Id && c.Waits && e.Seq == c.Seq {
		out.Waits, out.Sent, out.Buffer, out.Dirty = false, nil, nil, false
		if c.Dirty {
			out.Waits, out.Sent, out.Seq = true, slices.Clone(c.Buffer), c.Seq+1
		}
		return out, writerIsGood(out)
	}
	o, ok := e.Op, true
	if c.Waits {
		out.Sent, o, ok = transformByHand(c.Sent, o)
	}
	if ok && c.Dirty {
		out.Buffer, o, ok = transformByHand(c.Buffer, o)
	}
	if ok {
		out.Text, ok = applyByHand(o, c.Text)
	}
	return out, ok && writerIsGood(out)
}

func spliceByHand(s string, from, to int, with string) ([]impl.Part, bool) {
	if from < 0 || from > to || to > len(s) || !textIsGood(s) || !textIsGood(with) {
		return nil, false
	}
	parts := []impl.Part{keep(from), put(with), drop(s[from:to]), keep(len(s) - to)}
	if s[from:to] == with {
		parts = []impl.Part{keep(len(s))}
	}
	op := normalByHand(parts)
	return op, opIsGood(op)
}

// stepByHand takes a good meeting.
func stepByHand(m impl.Meeting, s impl.MeetStep) (impl.Meeting, bool) {
	if s.Client < 0 || s.Client >= len(m.Clients) {
		return impl.Meeting{}, false
	}
	out, ok := cloneOfMeeting(m), false
	c := &out.Clients[s.Client]
	hand := func() (impl.Server, int) {
		server, _, code := takeByHand(m.Server, entry(c.Id, c.Seq, c.Sent...), c.Version)
		return server, code
	}
	switch {
	case s.Kind == impl.MeetEdit:
		var op []impl.Part
		if op, ok = spliceByHand(c.Text, s.From, s.To, s.Put); ok {
			*c, ok = editByHand(*c, op)
		}
	case s.Kind == impl.MeetPush && c.Waits:
		server, code := hand()
		out.Server, ok = cloneOfServer(server), code == impl.TakeOk
	case s.Kind == impl.MeetAgain && c.Waits:
		_, code := hand()
		ok = code == impl.TakeTwice
	case s.Kind == impl.MeetPull && c.Version < len(m.Server.Log):
		*c, ok = hearByHand(*c, m.Server.Log[c.Version])
	}
	if !ok {
		return impl.Meeting{}, false
	}
	return out, true
}

func settleByHand(m impl.Meeting) (impl.Meeting, bool) {
	if !meetingIsGood(m) {
		return impl.Meeting{}, false
	}
	try := func(kind, client int) bool {
		next, ok := stepByHand(m, impl.MeetStep{Kind: kind, Client: client})
		if ok {
			m = next
		}
		return ok
	}
	for goesOn := true; goesOn; {
		goesOn = false
		for i := range m.Clients {
			for try(impl.MeetPull, i) {
				goesOn = true
			}
			goesOn = try(impl.MeetPush, i) || goesOn
		}
	}
	if slices.ContainsFunc(m.Clients, func(c impl.Client) bool { return c.Waits }) {
		return impl.Meeting{}, false
	}
	return m, true
}

// checkEdited holds EditClient against what is reckoned by hand.
func checkEdited(t *testing.T, c impl.Client, op []impl.Part) bool {
	t.Helper()
	want, can := editByHand(c, op)
	if !can {
		want = impl.Client{}
	}
	got, ok := impl.EditClient(c, op)
	if !sameClient(got, want) || ok != can {
		t.Fatalf("EditClient(%s, %s) = %s, %v, not %s, %v", outset(c), outset(op), outset(got), ok, outset(want), can)
	}
	if ok && (!got.Waits || !isNormal(got.Sent) && !c.Waits || !isNormal(got.Buffer)) {
		t.Fatalf("EditClient(%s, %s) = %s", outset(c), outset(op), outset(got))
	}
	return ok
}

// checkHeard holds HearEntry against what is reckoned by hand, and asks that an own
// entry changes no text.
func checkHeard(t *testing.T, c impl.Client, e impl.Entry) bool {
	t.Helper()
	want, can := hearByHand(c, e)
	if !can {
		want = impl.Client{}
	}
	got, ok := impl.HearEntry(c, e)
	if !sameClient(got, want) || ok != can {
		t.Fatalf("HearEntry(%s, %s) = %s, %v, not %s, %v", outset(c), outset(e), outset(got), ok, outset(want), can)
	}
	own := c.Waits && e.Client == c.Id && e.Seq == c.Seq
	if ok && (own && got.Text != c.Text || got.Version != c.Version+1) {
		t.Fatalf("HearEntry(%s, %s) = %s", outset(c), outset(e), outset(got))
	}
	return ok
}

// checkMeeting asks all that is asked of a meeting alone, whatever it is, and
// tells whether it is good.
func checkMeeting(t *testing.T, m impl.Meeting) bool {
	t.Helper()
	good := meetingIsGood(m)
	if impl.GoodMeeting(m) != good {
		t.Fatalf("GoodMeeting(%s) is not %v", outset(m), good)
	}
	for i := -1; i <= len(m.Clients); i++ {
		can := good && 0 <= i && i < len(m.Clients)
		agrees, ok := impl.AgreesWith(m, i)
		if want := can && m.Clients[i].Text == m.Server.Text; agrees != want || ok != can {
			t.Fatalf("AgreesWith(%s, %d) = %v, %v, not %v, %v", outset(m), i, agrees, ok, want, can)
		}
		// Promise 16.
		if can && !m.Clients[i].Waits && m.Clients[i].Version == len(m.Server.Log) && !agrees {
			t.Fatalf("%s: client %d has heard all, and has another text", outset(m), i)
		}
	}
	return good
}

// logHasSent tells whether what is in the log with the Seq of a Sent is that Sent,
// as it is behind what came ahead. A meeting is good by the Seq alone, but only
// with such a log may it be asked to stay good, or to settle in one text.
func logHasSent(m impl.Meeting) bool {
	for _, c := range m.Clients {
		own := func(e impl.Entry) bool { return c.Waits && e.Client == c.Id && e.Seq == c.Seq }
		unheard := m.Server.Log[c.Version:]
		at := slices.IndexFunc(unheard, own)
		if at < 0 {
			continue
		}
		op, told := c.Sent, true
		for _, e := range unheard[:at] {
			if op, _, told = transformByHand(op, e.Op); !told {
				return false
			}
		}
		if !slices.Equal(normalByHand(op), normalByHand(unheard[at].Op)) {
			return false
		}
	}
	return true
}

// checkStep holds StepMeeting against what is reckoned by hand, asks that the
// meeting stays good and that nothing but what is named changes, and tells whether
// the step was done.
func checkStep(t *testing.T, m impl.Meeting, s impl.MeetStep) bool {
	t.Helper()
	var want impl.Meeting
	can := false
	if meetingIsGood(m) {
		want, can = stepByHand(m, s)
	}
	got, ok := impl.StepMeeting(m, s)
	if !sameMeeting(got, want) || ok != can {
		t.Fatalf("StepMeeting(%s, %v) = %s, %v, not %s, %v", outset(m), s, outset(got), ok, outset(want), can)
	}
	if !ok {
		return false
	}
	if !checkMeeting(t, got) && logHasSent(m) {
		t.Fatalf("StepMeeting(%s, %v) = %s is not good", outset(m), s, outset(got))
	}
	for i, c := range got.Clients {
		if (i != s.Client || s.Kind == impl.MeetPush || s.Kind == impl.MeetAgain) && !sameClient(c, m.Clients[i]) {
			t.Fatalf("StepMeeting(%s, %v) = %s: client %d was changed", outset(m), s, outset(got), i)
		}
	}
	if s.Kind != impl.MeetPush && !sameServer(got.Server, m.Server) {
		t.Fatalf("StepMeeting(%s, %v) = %s: the server was changed", outset(m), s, outset(got))
	}
	return true
}

// checkSettled holds SettleMeeting against what is reckoned by hand, asks for
// promise 16 of all clients at once, and tells whether it was settled.
func checkSettled(t *testing.T, m impl.Meeting) bool {
	t.Helper()
	want, can := settleByHand(m)
	got, ok := impl.SettleMeeting(m)
	if !sameMeeting(got, want) || ok != can {
		t.Fatalf("SettleMeeting(%s) = %s, %v, not %s, %v", outset(m), outset(got), ok, outset(want), can)
	}
	if !ok || !logHasSent(m) {
		return ok
	}
	for i, c := range got.Clients {
		agrees, told := impl.AgreesWith(got, i)
		if c.Waits || c.Dirty || c.Text != got.Server.Text || c.Version != len(got.Server.Log) || !agrees || !told {
			t.Fatalf("SettleMeeting(%s) = %s: client %d is not settled", outset(m), outset(got), i)
		}
	}
	if again, ok := impl.SettleMeeting(got); !sameMeeting(again, got) || !ok {
		t.Fatalf("SettleMeeting(%s) = %s, %v", outset(got), outset(again), ok)
	}
	return true
}

func typed(client, from, to int, with string) impl.MeetStep {
	return impl.MeetStep{Kind: impl.MeetEdit, Client: client, From: from, To: to, Put: with}
}
func pushed(client int) impl.MeetStep { return impl.MeetStep{Kind: impl.MeetPush, Client: client} }
func pulled(client int) impl.MeetStep { return impl.MeetStep{Kind: impl.MeetPull, Client: client} }
func handedAgain(client int) impl.MeetStep {
	return impl.MeetStep{Kind: impl.MeetAgain, Client: client}
}

// met is a meeting at its beginning.
func met(t *testing.T, clients int, s string) impl.Meeting {
	t.Helper()
	m, ok := impl.NewMeeting(clients, s)
	if !ok || m.Server.Start != s || m.Server.Text != s || len(m.Server.Log) != 0 || len(m.Clients) != clients {
		t.Fatalf("NewMeeting(%d, %q) = %v, %v", clients, s, m, ok)
	}
	for i, c := range m.Clients {
		if !sameClient(c, impl.Client{Id: i, Text: s}) {
			t.Fatalf("NewMeeting(%d, %q): client %d is %v", clients, s, i, c)
		}
	}
	return m
}

// stepped is a meeting once steps are done that can be.
func stepped(t *testing.T, m impl.Meeting, l ...impl.MeetStep) impl.Meeting {
	t.Helper()
	for k, s := range l {
		if !checkStep(t, m, s) {
			t.Fatalf("%s: the step %d, %v, is not done", outset(m), k, s)
		}
		m, _ = impl.StepMeeting(m, s)
	}
	return m
}

// played is what PlayMeeting makes of steps, held against StepMeeting of each.
func played(t *testing.T, clients int, s string, l ...impl.MeetStep) impl.Meeting {
	t.Helper()
	m, did, ok := impl.PlayMeeting(clients, s, l)
	if !ok || len(did) != len(l) {
		t.Fatalf("PlayMeeting(%d, %q, %d steps) = %v, %v", clients, s, len(l), did, ok)
	}
	want := met(t, clients, s)
	for k, x := range l {
		next, can := impl.StepMeeting(want, x)
		if did[k] != can {
			t.Fatalf("PlayMeeting(%d, %q): the step %d, %v, is told %v", clients, s, k, x, did[k])
		}
		if can {
			want = next
		}
	}
	if !sameMeeting(m, want) {
		t.Fatalf("PlayMeeting(%d, %q, %v) = %s, not %s", clients, s, l, outset(m), outset(want))
	}
	checkMeeting(t, m)
	return m
}

// quiet, waiting and busy are clients that have nothing on their way, Sent, and
// Buffer too.
func quiet(id int, text string, version, seq int) impl.Client {
	return impl.Client{Id: id, Text: text, Version: version, Seq: seq}
}
func waiting(id int, text string, version, seq int, sent ...impl.Part) impl.Client {
	return impl.Client{Id: id, Text: text, Version: version, Seq: seq, Waits: true, Sent: sent}
}
func busy(c impl.Client, text string, buffer ...impl.Part) impl.Client {
	c.Text, c.Dirty, c.Buffer = text, true, buffer
	return c
}

func talk(s impl.Server, clients ...impl.Client) impl.Meeting {
	return impl.Meeting{Server: s, Clients: clients}
}

// The document's words, one by one: what each step makes of a meeting.
func TestMeetingsOneByOne(t *testing.T) {
	m := met(t, 2, "ab")
	x := []impl.Part{put("x"), keep(2)}
	y := []impl.Part{keep(2), put("y")}
	z := []impl.Part{keep(3), put("z")}
	alone := waiting(1, "aby", 0, 1, y...)
	first, second, third := entry(1, 1, y...), entry(0, 1, put("x"), keep(3)), entry(0, 2, keep(3), put("z"), keep(1))
	for k, c := range []struct {
		step impl.MeetStep
		want impl.Meeting
	}{
		{typed(0, 0, 0, "x"), talk(logged("ab"), waiting(0, "xab", 0, 1, x...), quiet(1, "ab", 0, 0))},
		{typed(1, 2, 2, "y"), talk(logged("ab"), waiting(0, "xab", 0, 1, x...), alone)},
		{pushed(1), talk(logged("ab", first), waiting(0, "xab", 0, 1, x...), alone)},
		{typed(0, 3, 3, "z"), talk(logged("ab", first), busy(waiting(0, "xab", 0, 1, x...), "xabz", z...), alone)},
		{pulled(0), talk(logged("ab", first), busy(waiting(0, "", 1, 1, put("x"), keep(3)), "xabzy", keep(3), put("z"), keep(1)), alone)},
		{handedAgain(1), talk(logged("ab", first), busy(waiting(0, "", 1, 1, put("x"), keep(3)), "xabzy", keep(3), put("z"), keep(1)), alone)},
		{pushed(0), talk(logged("ab", first, second), busy(waiting(0, "", 1, 1, put("x"), keep(3)), "xabzy", keep(3), put("z"), keep(1)), alone)},
		{pulled(1), talk(logged("ab", first, second), busy(waiting(0, "", 1, 1, put("x"), keep(3)), "xabzy", keep(3), put("z"), keep(1)), quiet(1, "aby", 1, 1))},
		{pulled(0), talk(logged("ab", first, second), waiting(0, "xabzy", 2, 2, keep(3), put("z"), keep(1)), quiet(1, "aby", 1, 1))},
		{pushed(0), talk(logged("ab", first, second, third), waiting(0, "xabzy", 2, 2, keep(3), put("z"), keep(1)), quiet(1, "aby", 1, 1))},
		{pulled(1), talk(logged("ab", first, second, third), waiting(0, "xabzy", 2, 2, keep(3), put("z"), keep(1)), quiet(1, "xaby", 2, 1))},
		{pulled(1), talk(logged("ab", first, second, third), waiting(0, "xabzy", 2, 2, keep(3), put("z"), keep(1)), quiet(1, "xabzy", 3, 1))},
		{pulled(0), talk(logged("ab", first, second, third), quiet(0, "xabzy", 3, 2), quiet(1, "xabzy", 3, 1))},
	} {
		checkSettled(t, m)
		if m = stepped(t, m, c.step); !sameMeeting(m, c.want) {
			t.Fatalf("behind step %d it is %v, not %v", k, m, c.want)
		}
	}
	for i := range 2 {
		for _, s := range []impl.MeetStep{pushed(i), pulled(i), handedAgain(i)} {
			if checkStep(t, m, s) {
				t.Errorf("%v is done in the end", s)
			}
		}
	}
}

// Chapter 16: what a client makes of a change of its own.
func TestEditedOneByOne(t *testing.T) {
	some := waiting(1, "ab", 3, 5, keep(1), put("b"))
	for _, x := range []struct {
		name string
		c    impl.Client
		op   []impl.Part
		want impl.Client
	}{
		{"the first change", quiet(1, "ab", 3, 4), []impl.Part{keep(2), put("c")}, waiting(1, "abc", 3, 5, keep(2), put("c"))},
		{"the very first change", quiet(0, "ab", 0, 0), []impl.Part{drop("ab")}, waiting(0, "", 0, 1, drop("ab"))},
		{"a change that is not normal", quiet(1, "ab", 3, 4), []impl.Part{keep(1), drop("b"), put("x"), put("y")}, waiting(1, "axy", 3, 5, keep(1), put("xy"), drop("b"))},
		{"a change that does nothing", quiet(1, "ab", 3, 4), []impl.Part{keep(1), keep(1)}, waiting(1, "ab", 3, 5, keep(2))},
		{"a change without parts", quiet(1, "", 3, 4), nil, waiting(1, "", 3, 5)},
		{"a change that puts what it drops", quiet(1, "ab", 3, 4), []impl.Part{drop("ab"), put("ab")}, waiting(1, "ab", 3, 5, put("ab"), drop("ab"))},
		{"the last Seq", quiet(1, "ab", 3, lastSeq-1), []impl.Part{keep(2)}, waiting(1, "ab", 3, lastSeq, keep(2))},
		{"the last Version", quiet(3, "ab", lastVersion, 4), []impl.Part{keep(2)}, waiting(3, "ab", lastVersion, 5, keep(2))},
		{"the second change", some, []impl.Part{keep(2), put("c")}, busy(some, "abc", keep(2), put("c"))},
		{"the second change, not normal", some, []impl.Part{drop("a"), put("x"), put("y"), keep(1)}, busy(some, "xyb", put("xy"), drop("a"), keep(1))},
		{"the second change, that does nothing", some, []impl.Part{keep(1), keep(1)}, busy(some, "ab", keep(2))},
		{"the second change, without parts", waiting(1, "", 3, 5, drop("b")), nil, busy(waiting(1, "", 3, 5, drop("b")), "")},
		{"the second change with the last Seq", waiting(1, "ab", 3, lastSeq, keep(2)), []impl.Part{drop("ab")}, busy(waiting(1, "ab", 3, lastSeq, keep(2)), "", drop("ab"))},
		{"a change that takes back what was sent", some, []impl.Part{keep(1), drop("b")}, busy(some, "a", keep(1), drop("b"))},
		{"the third change", busy(some, "abc", keep(2), put("c")), []impl.Part{drop("a"), keep(2), put("d")}, busy(some, "bcd", drop("a"), keep(1), put("cd"))},
		{"the third change, that takes back the second one", busy(some, "abc", keep(2), put("c")), []impl.Part{keep(2), drop("c")}, busy(some, "ab", keep(2))},
		{"the third change, of a Buffer that is not normal", busy(some, "xyb", drop("a"), put("x"), put("y"), keep(1)), []impl.Part{keep(3)}, busy(some, "xyb", put("xy"), drop("a"), keep(1))},
		{"Sent that is not normal stays", waiting(1, "ab", 3, 5, put("a"), put("b")), []impl.Part{keep(2)}, busy(waiting(1, "ab", 3, 5, put("a"), put("b")), "ab", keep(2))},
		{"the third change behind one that did nothing", busy(some, "ab", keep(1), keep(1)), []impl.Part{keep(2), put("c")}, busy(some, "abc", keep(2), put("c"))},
	} {
		got, ok := impl.EditClient(x.c, x.op)
		if !sameClient(got, x.want) || !ok {
			t.Errorf("%s: %v, %v, not %v", x.name, got, ok, x.want)
		}
		checkEdited(t, x.c, x.op)
	}
}

// Chapter 16: what a client can't make a change of its own.
func TestNotEdited(t *testing.T) {
	full := longText(impl.MaxDoc)
	wide := fence(impl.MaxParts, keep(2), put("x"))
	for name, x := range map[string]struct {
		c  impl.Client
		op []impl.Part
	}{
		"one Seq more than there may be":        {quiet(1, "ab", 3, lastSeq), []impl.Part{keep(2)}},
		"too few bytes":                         {quiet(1, "ab", 3, 4), []impl.Part{keep(1)}},
		"too many bytes":                        {quiet(1, "ab", 3, 4), []impl.Part{keep(3)}},
		"no parts":                              {quiet(1, "ab", 3, 4), nil},
		"another byte":                          {quiet(1, "ab", 3, 4), []impl.Part{keep(1), drop("a")}},
		"another byte behind one on its way":    {waiting(1, "ab", 3, 4, keep(2)), []impl.Part{drop("b"), keep(1)}},
		"a byte too many":                       {quiet(1, full, 3, 4), []impl.Part{keep(impl.MaxDoc), put("a")}},
		"a Buffer that makes fewer bytes":       {busy(waiting(1, "ab", 3, 4, keep(2)), "ab", keep(1)), []impl.Part{keep(2)}},
		"a Buffer that makes more bytes":        {busy(waiting(1, "ab", 3, 4, keep(2)), "ab", keep(3)), []impl.Part{keep(2)}},
		"a Buffer that has put another byte":    {busy(waiting(1, "ab", 3, 4, keep(2)), "ab", put("cd")), []impl.Part{drop("a"), keep(1)}},
		"a Buffer without parts":                {busy(waiting(1, "ab", 3, 4, keep(2)), "ab"), []impl.Part{keep(2)}},
		"a Buffer of more than MaxParts parts":  {busy(waiting(1, "ab", 3, 4, keep(60)), strings.Repeat("aax", 30), wide...), []impl.Part{put("y"), keep(90)}},
		"a Buffer that drops more than MaxDoc":  {busy(waiting(1, "ab", 3, 4, keep(2)), full, drop("b"), put(full)), []impl.Part{keep(impl.MaxDoc), {}}},
		"a Buffer that drops MaxDoc, then more": {busy(waiting(1, "ab", 3, 4, keep(2)), "ab", drop(full), keep(2)), []impl.Part{drop("ab")}},
	} {
		before := cloneOfClient(x.c)
		if got, ok := impl.EditClient(x.c, x.op); !isZeroClient(got) || ok {
			t.Errorf("%s: %s, %v", name, outset(got), ok)
		}
		checkEdited(t, x.c, x.op)
		if !sameClient(x.c, before) {
			t.Errorf("%s: the client was changed", name)
		}
	}
}

// Chapter 16: what a client makes of an entry, its own or another one's.
func TestHeardOneByOne(t *testing.T) {
	y := []impl.Part{keep(1), put("y"), keep(1)}
	some := waiting(1, "axb", 3, 5, keep(1), put("x"), keep(1))
	more := busy(some, "axbc", keep(3), put("c"))
	for _, x := range []struct {
		name string
		c    impl.Client
		e    impl.Entry
		want impl.Client
	}{
		{"another one's, with nothing on its way", quiet(1, "ab", 3, 5), entry(2, 9, y...), quiet(1, "ayb", 4, 5)},
		{"another one's behind Sent: both put at one place", some, entry(2, 9, y...), waiting(1, "axyb", 4, 5, keep(1), put("x"), keep(2))},
		{"another one's behind Sent and Buffer", more, entry(2, 9, y...), busy(waiting(1, "", 4, 5, keep(1), put("x"), keep(2)), "axybc", keep(4), put("c"))},
		{"another one's with the same Seq", some, entry(2, 5, y...), waiting(1, "axyb", 4, 5, keep(1), put("x"), keep(2))},
		{"another one's that is none of the meeting", some, entry(9, 5, y...), waiting(1, "axyb", 4, 5, keep(1), put("x"), keep(2))},
		{"all three put at one place", busy(waiting(1, "", 0, 1, put("x")), "xz", keep(1), put("z")), entry(2, 1, put("y")), busy(waiting(1, "", 1, 1, put("x"), keep(1)), "xzy", keep(1), put("z"), keep(1))},
		{"all three put at one place, Buffer ahead", busy(waiting(1, "", 0, 1, put("x")), "zx", put("z"), keep(1)), entry(2, 1, put("y")), busy(waiting(1, "", 1, 1, put("x"), keep(1)), "zxy", put("z"), keep(2))},
		{"it drops what Sent puts into", waiting(1, "axb", 0, 1, keep(1), put("x"), keep(1)), entry(2, 1, drop("ab")), waiting(1, "x", 1, 1, put("x"))},
		{"it puts into what Sent drops", waiting(1, "", 0, 1, drop("ab")), entry(2, 1, y...), waiting(1, "y", 1, 1, drop("a"), keep(1), drop("b"))},
		{"it puts into what Buffer drops", busy(waiting(1, "", 0, 1, put("x"), keep(2)), "x", keep(1), drop("ab")), entry(2, 1, y...), busy(waiting(1, "", 1, 1, put("x"), keep(3)), "xy", keep(1), drop("a"), keep(1), drop("b"))},
		{"it drops what Buffer puts into", busy(waiting(1, "", 0, 1, put("x"), keep(2)), "xazb", keep(2), put("z"), keep(1)), entry(2, 1, drop("ab")), busy(waiting(1, "", 1, 1, put("x")), "xz", keep(1), put("z"))},
		{"both drop the same", waiting(1, "b", 0, 1, drop("a"), keep(1)), entry(2, 1, drop("ab")), waiting(1, "", 1, 1)},
		{"it drops what Buffer drops", busy(waiting(1, "", 0, 1, keep(2)), "b", drop("a"), keep(1)), entry(2, 1, drop("ab")), busy(waiting(1, "", 1, 1), "")},
		{"Buffer takes back what Sent puts", busy(waiting(1, "", 0, 1, put("x"), keep(2)), "ab", drop("x"), keep(2)), entry(2, 1, y...), busy(waiting(1, "", 1, 1, put("x"), keep(3)), "ayb", drop("x"), keep(3))},
		{"an entry that does nothing", more, entry(2, 9, keep(2)), busy(waiting(1, "", 4, 5, keep(1), put("x"), keep(1)), "axbc", keep(3), put("c"))},
		{"an entry without parts", busy(waiting(1, "", 0, 1), ""), entry(2, 1), busy(waiting(1, "", 1, 1), "")},
		{"Sent and Buffer that are not normal", busy(waiting(1, "", 0, 1, drop("ab"), put("c"), put("d")), "dc", drop("c"), keep(1), put("c")), entry(2, 1, keep(1), keep(1)), busy(waiting(1, "", 1, 1, put("cd"), drop("ab")), "dc", drop("c"), keep(1), put("c"))},
		{"an entry that is not normal", quiet(1, "ab", 3, 5), entry(2, 9, drop("ab"), put("c"), put("d")), quiet(1, "cd", 4, 5)},
		{"its own, with nothing else", some, entry(1, 5, y...), quiet(1, "axb", 4, 5)},
		{"its own, though it would not fit", some, entry(1, 5, drop("zzz"), keep(7)), quiet(1, "axb", 4, 5)},
		{"its own, without parts", some, entry(1, 5), quiet(1, "axb", 4, 5)},
		{"its own, with more done since", more, entry(1, 5, y...), waiting(1, "axbc", 4, 6, keep(3), put("c"))},
		{"its own, with more done since that is not normal", busy(some, "cd", drop("axb"), put("c"), put("d")), entry(1, 5, y...), waiting(1, "cd", 4, 6, drop("axb"), put("c"), put("d"))},
		{"its own, with nothing done since, though Dirty", busy(waiting(1, "", 3, 5, drop("a")), ""), entry(1, 5, drop("a")), waiting(1, "", 4, 6)},
		{"its own, with the last Seq", waiting(1, "ab", 3, lastSeq, keep(2)), entry(1, lastSeq, keep(2)), quiet(1, "ab", 4, lastSeq)},
		{"its own, with the last Seq but one, Dirty", busy(waiting(1, "", 3, lastSeq-1, keep(2)), "ab", keep(2)), entry(1, lastSeq-1, keep(2)), waiting(1, "ab", 4, lastSeq, keep(2))},
		{"its own Id, but nothing is on its way", quiet(1, "ab", 3, 5), entry(1, 5, y...), quiet(1, "ayb", 4, 5)},
		{"its own Id, with a lesser Seq", some, entry(1, 4, y...), waiting(1, "axyb", 4, 5, keep(1), put("x"), keep(2))},
		{"its own Id, with a greater Seq", some, entry(1, 6, y...), waiting(1, "axyb", 4, 5, keep(1), put("x"), keep(2))},
		{"the last Version", quiet(1, "ab", lastVersion-1, 5), entry(2, 9, y...), quiet(1, "ayb", lastVersion, 5)},
		{"the last Version, by its own", waiting(1, "axb", lastVersion-1, 5, some.Sent...), entry(1, 5, y...), quiet(1, "axb", lastVersion, 5)},
		{"Version and Seq 0", quiet(0, "ab", 0, 0), entry(0, 1, y...), quiet(0, "ayb", 1, 0)},
	} {
		got, ok := impl.HearEntry(x.c, x.e)
		if !sameClient(got, x.want) || !ok {
			t.Errorf("%s: %v, %v, not %v", x.name, got, ok, x.want)
		}
		checkHeard(t, x.c, x.e)
	}
}

// Chapter 16: entries that a client can't hear.
func TestNotHeard(t *testing.T) {
	full := longText(impl.MaxDoc)
	wide := fence(impl.MaxParts, drop("aa"), keep(1))
	some := waiting(1, "axb", 3, 5, keep(1), put("x"), keep(1))
	for name, x := range map[string]struct {
		c impl.Client
		e impl.Entry
	}{
		"Client -1":                              {quiet(1, "ab", 3, 5), entry(-1, 1, keep(2))},
		"Client 10":                              {quiet(1, "ab", 3, 5), entry(lastClient+1, 1, keep(2))},
		"Seq 0":                                  {quiet(1, "ab", 3, 5), entry(2, 0, keep(2))},
		"Seq 1001":                               {quiet(1, "ab", 3, 5), entry(2, lastSeq+1, keep(2))},
		"its own Seq 0":                          {quiet(1, "ab", 3, 0), entry(1, 0, keep(2))},
		"a part that is none":                    {quiet(1, "ab", 3, 5), entry(2, 1, keep(2), impl.Part{})},
		"its own, with a part that is none":      {some, entry(1, 5, keep(2), impl.Part{})},
		"its own, with too many parts":           {some, entry(1, 5, fence(impl.MaxParts+1, put("a"), put("b"))...)},
		"it does not fit: too few bytes":         {quiet(1, "ab", 3, 5), entry(2, 1, keep(1))},
		"it does not fit: too many bytes":        {quiet(1, "ab", 3, 5), entry(2, 1, keep(3))},
		"it does not fit: another byte":          {quiet(1, "ab", 3, 5), entry(2, 1, keep(1), drop("a"))},
		"it does not fit: no parts":              {quiet(1, "ab", 3, 5), entry(2, 1)},
		"it fits Text, not what Sent takes":      {some, entry(2, 1, keep(3))},
		"it drops another byte than Sent":        {waiting(1, "b", 3, 5, drop("a"), keep(1)), entry(2, 1, drop("bb"))},
		"it drops another byte than Buffer":      {busy(waiting(1, "", 3, 5, keep(2)), "b", drop("a"), keep(1)), entry(2, 1, drop("bb"))},
		"it drops another byte than Text":        {waiting(1, "ab", 3, 5, keep(2)), entry(2, 1, drop("b"), keep(1))},
		"Buffer does not take what Sent makes":   {busy(some, "axb", keep(2)), entry(2, 1, keep(2))},
		"Text is not what Buffer makes":          {busy(some, "axb", keep(3), put("y")), entry(2, 1, keep(2))},
		"Text is not what Sent makes":            {waiting(1, "ab", 3, 5, keep(1), put("x"), keep(1)), entry(2, 1, keep(2))},
		"Sent would have more than MaxParts":     {waiting(1, longText(30), 3, 5, wide...), entry(2, 1, keep(1), put("y"), keep(89))},
		"it would have more than MaxParts":       {waiting(1, longText(91), 3, 5, keep(1), put("y"), keep(89)), entry(2, 1, wide...)},
		"Buffer would have more than MaxParts":   {busy(waiting(1, "", 3, 5, keep(90)), longText(30), wide...), entry(2, 1, keep(1), put("y"), keep(89))},
		"Sent would put too much":                {waiting(1, longText(200), 3, 5, put(longText(200))), entry(2, 1, put(longText(101)))},
		"Buffer would put too much":              {busy(waiting(1, "", 3, 5), longText(200), put(longText(200))), entry(2, 1, put(longText(101)))},
		"Text is full":                           {waiting(1, full, 3, 5, keep(299), put("a")), entry(2, 1, keep(299), put("b"))},
		"one Version more than there may be":     {quiet(1, "ab", lastVersion, 5), entry(2, 1, keep(2))},
		"one Version more, by its own":           {waiting(1, "ab", lastVersion, 5, keep(2)), entry(1, 5, keep(2))},
		"its own, Dirty, and no Seq is left":     {busy(waiting(1, "", 3, lastSeq, keep(2)), "ab", keep(2)), entry(1, lastSeq, keep(2))},
		"no Seq is left, and Dirty with nothing": {busy(waiting(1, "", 3, lastSeq, drop("a")), ""), entry(1, lastSeq, keep(2))},
	} {
		before := cloneOfClient(x.c)
		if got, ok := impl.HearEntry(x.c, x.e); !isZeroClient(got) || ok {
			t.Errorf("%s: %s, %v", name, outset(got), ok)
		}
		checkHeard(t, x.c, x.e)
		if !sameClient(x.c, before) {
			t.Errorf("%s: the client was changed", name)
		}
	}
}

// Promise 16: two clients that write at once, at every place of a short text: both
// come to the text that is told by hand, whoever is pushed first.
func TestTwoWriteAtEveryPlace(t *testing.T) {
	many := 0
	for _, s := range []string{"", "a", "ab"} {
		for _, a := range bytesOps(s, "x") {
			for _, b := range bytesOps(s, "y") {
				for first := range 2 {
					m := met(t, 2, s)
					m.Clients[0], _ = impl.EditClient(m.Clients[0], a)
					m.Clients[1], _ = impl.EditClient(m.Clients[1], b)
					m = stepped(t, m, pushed(first), pushed(1-first))
					// What is sent is normal; the one that comes later is the a of TransformOps.
					sent := [][]impl.Part{normalByHand(a), normalByHand(b)}
					later, _, _ := transformByHand(sent[1-first], sent[first])
					text, _ := applyByHand(sent[first], s)
					text, _ = applyByHand(later, text)
					if got, ok := impl.SettleMeeting(m); !ok || got.Server.Text != text || got.Clients[0].Text != text || got.Clients[1].Text != text {
						t.Fatalf("%q with %v and %v, %d first: %v, %v, not %q", s, a, b, first, got, ok, text)
					}
					many++
				}
			}
		}
	}
	if many < 1000 {
		t.Errorf("only %d meetings", many)
	}
}

// Promise 16: texts that are told by hand, of those who write at one place, or one
// of them within what another one drops.
func TestMeetingsThatClash(t *testing.T) {
	for _, x := range []struct {
		name    string
		clients int
		s       string
		l       []impl.MeetStep
		want    string
	}{
		{"two put at one place: the later one stands ahead", 2, "ab", []impl.MeetStep{typed(0, 1, 1, "x"), typed(1, 1, 1, "y"), pushed(0), pushed(1)}, "ayxb"},
		{"two put at one place, the other one first", 2, "ab", []impl.MeetStep{typed(0, 1, 1, "x"), typed(1, 1, 1, "y"), pushed(1), pushed(0)}, "axyb"},
		{"two put at one place, settled in order", 2, "ab", []impl.MeetStep{typed(0, 1, 1, "x"), typed(1, 1, 1, "y")}, "ayxb"},
		{"two put at one place, having heard", 2, "ab", []impl.MeetStep{typed(0, 1, 1, "x"), typed(1, 1, 1, "y"), pushed(0), pulled(1), pulled(0), pushed(1)}, "ayxb"},
		{"four put at one place", 4, "", []impl.MeetStep{typed(0, 0, 0, "w"), typed(1, 0, 0, "x"), typed(2, 0, 0, "y"), typed(3, 0, 0, "z"), pushed(2), pushed(0), pushed(3), pushed(1)}, "xzwy"},
		{"two type on", 2, "", []impl.MeetStep{typed(0, 0, 0, "a"), typed(1, 0, 0, "x"), typed(0, 1, 1, "b"), typed(1, 1, 1, "y"), typed(0, 2, 2, "c"), typed(1, 2, 2, "z")}, "xyzabc"},
		{"one puts into what the other one drops", 2, "abc", []impl.MeetStep{typed(0, 0, 3, ""), typed(1, 1, 1, "y"), pushed(0), pushed(1)}, "y"},
		{"one drops what the other one puts into", 2, "abc", []impl.MeetStep{typed(0, 0, 3, ""), typed(1, 1, 1, "y"), pushed(1), pushed(0)}, "y"},
		{"one puts in place of what the other one drops", 2, "abc", []impl.MeetStep{typed(0, 0, 3, "x"), typed(1, 1, 2, "y"), pushed(0), pushed(1)}, "xy"},
		{"both drop the same", 2, "abcd", []impl.MeetStep{typed(0, 0, 3, ""), typed(1, 1, 4, "")}, ""},
		{"one drops what it put, and the other one has heard of it", 2, "ab", []impl.MeetStep{typed(0, 1, 1, "xyz"), pushed(0), pulled(1), typed(1, 2, 2, "-"), typed(1, 2, 2, "w"), typed(0, 1, 4, "")}, "awb"},
		{"one types on while it waits, and another one puts between", 2, "ab", []impl.MeetStep{typed(0, 1, 1, "x"), typed(0, 2, 2, "y"), typed(1, 1, 2, ""), pushed(1), pulled(0), typed(0, 3, 3, "z"), pushed(0)}, "axyz"},
		{"changes that do nothing", 2, "ab", []impl.MeetStep{typed(0, 1, 1, ""), typed(1, 0, 2, "ab"), typed(0, 0, 0, ""), typed(1, 2, 2, "")}, "ab"},
		{"changes that do nothing to nothing", 3, "", []impl.MeetStep{typed(0, 0, 0, ""), typed(1, 0, 0, ""), typed(0, 0, 0, ""), pushed(0), typed(2, 0, 0, "")}, ""},
		{"one alone", 1, "ab", []impl.MeetStep{typed(0, 0, 1, "x"), typed(0, 2, 2, "y"), pushed(0), typed(0, 0, 0, "z"), pulled(0), typed(0, 4, 4, "w")}, "zxbyw"},
		{"elements", 2, "Aab/", []impl.MeetStep{typed(0, 2, 2, "/A"), typed(1, 0, 1, "B"), pushed(1), pushed(0)}, "Ba/Ab/"},
	} {
		m := played(t, x.clients, x.s, x.l...)
		if !checkSettled(t, m) {
			t.Errorf("%s: it is not settled", x.name)
		}
		got, ok := impl.SettleMeeting(m)
		if got.Server.Text != x.want || !ok {
			t.Errorf("%s: %q, %v, not %q", x.name, got.Server.Text, ok, x.want)
		}
	}
}

// meetSteps are the steps that are tried at each meeting: of each client all that
// can be heard and sent, and changes at the beginning, at the end, and of all.
func meetSteps(m impl.Meeting) []impl.MeetStep {
	var out []impl.MeetStep
	for i, c := range m.Clients {
		n, mine := len(c.Text), string(rune('w'+i))
		out = append(out, pushed(i), pulled(i), handedAgain(i))
		if n > 3 || c.Dirty {
			continue
		}
		out = append(out, typed(i, n/2, n/2, mine), typed(i, 0, n, ""))
	}
	return out
}

// eachMeeting goes through meetings of short texts, by all steps that can be done,
// so many at most.
func eachMeeting(t *testing.T, m impl.Meeting, deep int, f func(m impl.Meeting)) {
	t.Helper()
	f(m)
	if deep == 0 {
		return
	}
	for _, s := range meetSteps(m) {
		// What is handed in again leads nowhere new.
		if checkStep(t, m, s) && s.Kind != impl.MeetAgain {
			next, _ := impl.StepMeeting(m, s)
			eachMeeting(t, next, deep-1, f)
		}
	}
}

// Promise 16: all short meetings.
func TestShortMeetings(t *testing.T) {
	many, settled := 0, 0
	see := func(m impl.Meeting) {
		if !checkMeeting(t, m) {
			t.Fatalf("%v is not good", m)
		}
		if many++; many%7 == 0 && checkSettled(t, m) {
			settled++
		}
	}
	eachMeeting(t, met(t, 2, ""), 5, see)
	eachMeeting(t, met(t, 2, "ab"), 5, see)
	eachMeeting(t, met(t, 1, "a"), 6, see)
	eachMeeting(t, met(t, 3, "a"), 4, see)
	eachMeeting(t, met(t, 4, "ab"), 3, see)
	if many < 5000 || settled < 700 {
		t.Errorf("only %d meetings, and %d of them settled", many, settled)
	}
}

// meetStep is a step that can mostly be done; of long texts it is a long one.
func (c *chooser) meetStep(m impl.Meeting, longest int) impl.MeetStep {
	i := c.next(len(m.Clients))
	n := len(m.Clients[i].Text)
	switch c.next(8) {
	case 0, 1:
		return pushed(i)
	case 2, 3:
		return pulled(i)
	case 4:
		return handedAgain(i)
	case 5:
		return typed(i, n, n, c.text(c.next(3)))
	case 6:
		from := c.next(n + 1)
		return typed(i, from, min(n, from+c.next(longest)), "")
	}
	from := c.next(n + 1)
	return typed(i, from, min(n, from+c.next(3)), c.text(c.next(longest)))
}

// Promise 16: meetings that go on as long as they may, of each number of clients,
// of short texts and of such as are nearly full.
func TestMeetingsThatGoOn(t *testing.T) {
	c := &chooser{16}
	var did [5]int
	refused, settled, not := 0, 0, 0
	for k := range 32 {
		clients, s := 1+k%impl.MaxClients, c.text(c.next(1+9*k))
		m := met(t, clients, s)
		var l []impl.MeetStep
		for range impl.MaxMeetSteps - k%7 {
			x := c.meetStep(m, 2+k/2)
			l = append(l, x)
			if !checkStep(t, m, x) {
				refused++
				continue
			}
			did[x.Kind]++
			m, _ = impl.StepMeeting(m, x)
		}
		if got := played(t, clients, s, l...); !sameMeeting(got, m) {
			t.Fatalf("PlayMeeting comes to %s, not %s", outset(got), outset(m))
		}
		if checkSettled(t, m) {
			settled++
		} else {
			not++
		}
	}
	if slices.Min(did[1:]) < 100 || refused < 300 || settled < 20 {
		t.Errorf("%v were done, %d not; %d were settled, %d not", did[1:], refused, settled, not)
	}
}

// Promise 16: what is heard goes through Sent and Buffer: what is told of them is
// told of the text, too.
func TestSentAndBufferGoOn(t *testing.T) {
	c := &chooser{161}
	heard, own := 0, 0
	for k := range 300 {
		base := c.text(c.next(1 + k))
		client := quiet(1, base, c.next(5), c.next(5))
		texts := []string{base}
		for range c.next(4) {
			op := c.opOn(client.Text, 1+c.next(6))
			if !checkEdited(t, client, op) {
				break
			}
			client, _ = impl.EditClient(client, op)
			texts = append(texts, client.Text)
		}
		sent := entry(1, max(1, client.Seq), client.Sent...)
		if checkHeard(t, client, sent) && client.Waits {
			got, _ := impl.HearEntry(client, sent)
			if got.Text != client.Text || !slices.Equal(got.Sent, client.Buffer) || got.Waits != client.Dirty || got.Dirty || len(got.Buffer) != 0 {
				t.Fatalf("%s heard of its own: %s", outset(client), outset(got))
			}
			own++
		}
		theirs := c.opOn(base, 1+c.next(6))
		if !checkHeard(t, client, entry(2, 1, theirs...)) {
			continue
		}
		got, _ := impl.HearEntry(client, entry(2, 1, theirs...))
		text, _ := applyByHand(theirs, base)
		if got.Waits {
			text, _ = impl.ApplyOp(got.Sent, text)
		}
		if got.Dirty {
			text, _ = impl.ApplyOp(got.Buffer, text)
		}
		if text != got.Text || got.Seq != client.Seq || got.Waits != client.Waits || got.Dirty != client.Dirty {
			t.Fatalf("%s heard of %s: %s, but %q comes of it", outset(client), outset(theirs), outset(got), text)
		}
		heard++
	}
	if heard < 200 || own < 150 {
		t.Errorf("%d were heard of, %d of their own", heard, own)
	}
}

// Chapter 16: what the server has taken changes nothing when it is handed in again,
// and what it has not can't be handed in again.
func TestHandedInAgain(t *testing.T) {
	m := played(t, 2, "ab", typed(0, 0, 0, "x"), typed(0, 0, 0, "y"), typed(1, 2, 2, "z"), pushed(1))
	if checkStep(t, m, handedAgain(0)) {
		t.Error("what was not handed in is handed in again")
	}
	m = stepped(t, m, pushed(0))
	for range 3 {
		for i := range 2 {
			got, ok := impl.StepMeeting(m, handedAgain(i))
			if !sameMeeting(got, m) || !ok {
				t.Fatalf("client %d: %v, %v", i, got, ok)
			}
			if checkStep(t, m, pushed(i)) {
				t.Fatalf("client %d is taken twice", i)
			}
		}
		m = stepped(t, m, handedAgain(0), handedAgain(1))
	}
	// Having heard of the other one's it is the same still.
	m = stepped(t, m, pulled(0), handedAgain(0), pulled(0), pulled(1), pulled(1))
	if checkStep(t, m, handedAgain(0)) || checkStep(t, m, handedAgain(1)) {
		t.Error("what is not on its way is handed in again")
	}
	m = stepped(t, m, pushed(0), handedAgain(0), pulled(0))
	if !checkSettled(t, m) || m.Server.Text != "yxabz" {
		t.Errorf("%v", m)
	}
	// Also where the log has no room.
	full := talk(logged("ab", idle("ab", impl.MaxEntries)...), waiting(0, "ab", 50, 6, keep(2)), waiting(1, "ab", impl.MaxEntries, 7, keep(2)))
	if !checkStep(t, full, handedAgain(0)) || checkStep(t, full, handedAgain(1)) || checkStep(t, full, pushed(0)) || checkStep(t, full, pushed(1)) {
		t.Error("in a full log")
	}
}

// Chapter 16: 1 and MaxClients clients, and all that are none.
func TestHowManyClients(t *testing.T) {
	for clients := 1; clients <= impl.MaxClients; clients++ {
		for _, s := range []string{"", "a", "/A", allBytes, longText(impl.MaxDoc)} {
			m := met(t, clients, s)
			if !checkMeeting(t, m) || !checkSettled(t, m) {
				t.Errorf("%d clients of %q: not good", clients, s)
			}
			for i := range clients {
				for _, x := range []impl.MeetStep{pushed(i), pulled(i), handedAgain(i)} {
					if checkStep(t, m, x) {
						t.Errorf("%d clients of %q: %v is done", clients, s, x)
					}
				}
				if !checkStep(t, m, typed(i, 0, len(s), "")) || !checkStep(t, m, typed(i, len(s), len(s), "")) {
					t.Errorf("%d clients of %q: client %d can't write", clients, s, i)
				}
				if checkStep(t, m, typed(i, 0, 0, "b")) != (len(s) < impl.MaxDoc) {
					t.Errorf("%d clients of %q: client %d puts more than may be, or can't", clients, s, i)
				}
			}
			if got := played(t, clients, s); !sameMeeting(got, m) {
				t.Errorf("%d clients of %q without steps: %v", clients, s, got)
			}
		}
	}
	for _, clients := range []int{math.MinInt, -4, -1, 0, impl.MaxClients + 1, 10, 256, 1 << 32, 1<<32 + 1, math.MaxInt} {
		for _, s := range []string{"", "ab"} {
			if m, ok := impl.NewMeeting(clients, s); !isZeroMeeting(m) || ok {
				t.Errorf("NewMeeting(%d, %q) = %v, %v", clients, s, m, ok)
			}
			if m, did, ok := impl.PlayMeeting(clients, s, []impl.MeetStep{typed(0, 0, 0, "x")}); !isZeroMeeting(m) || len(did) != 0 || ok {
				t.Errorf("PlayMeeting(%d, %q) = %v, %v, %v", clients, s, m, did, ok)
			}
		}
	}
}

// Chapter 16: no step, MaxMeetSteps steps, and one more.
func TestHowManySteps(t *testing.T) {
	for _, n := range []int{0, 1, impl.MaxMeetSteps - 1, impl.MaxMeetSteps} {
		for _, x := range []impl.MeetStep{typed(1, 0, 0, "x"), pulled(0), {}, pushed(9)} {
			m := played(t, 2, "ab", slices.Repeat([]impl.MeetStep{x}, n)...)
			if want := "ab"; x.Kind == impl.MeetEdit {
				want = strings.Repeat("x", n) + want
				if m.Clients[1].Text != want || m.Clients[1].Seq != min(n, 1) {
					t.Errorf("%d steps: %v", n, m.Clients[1])
				}
			} else if !sameMeeting(m, met(t, 2, "ab")) {
				t.Errorf("%d steps that do nothing: %v", n, m)
			}
		}
	}
	for _, n := range []int{impl.MaxMeetSteps + 1, 200, 1000000} {
		for _, x := range []impl.MeetStep{typed(1, 0, 0, "x"), {}} {
			if m, did, ok := impl.PlayMeeting(2, "ab", slices.Repeat([]impl.MeetStep{x}, n)); !isZeroMeeting(m) || len(did) != 0 || ok {
				t.Errorf("%d steps: %s, %d, %v", n, outset(m), len(did), ok)
			}
		}
	}
}

// Chapter 16: a meeting goes on till the log is full, and then nobody can push.
func TestMeetingsTillTheLogIsFull(t *testing.T) {
	m := met(t, 3, "")
	for k := range impl.MaxEntries {
		i := k % 3
		m = stepped(t, m, typed(i, 0, 0, plainBytes[k%36:][:1]), pushed(i))
		if k%20 == 0 {
			checkSettled(t, m)
		}
		for m.Clients[i].Version < len(m.Server.Log) {
			m = stepped(t, m, pulled(i))
		}
	}
	if len(m.Server.Log) != impl.MaxEntries || len(m.Server.Text) != impl.MaxEntries {
		t.Fatalf("%s", outset(m))
	}
	if !checkSettled(t, m) {
		t.Error("it is not settled")
	}
	late := stepped(t, m, typed(1, 0, 0, "z"))
	if checkStep(t, late, pushed(1)) {
		t.Error("one more is taken")
	}
	if got, ok := impl.SettleMeeting(late); !isZeroMeeting(got) || ok {
		t.Errorf("SettleMeeting = %s, %v, though nothing more is taken", outset(got), ok)
	}
	checkSettled(t, late)
	for late.Clients[1].Version < impl.MaxEntries {
		late = stepped(t, late, pulled(1))
	}
	if checkStep(t, late, pulled(1)) || !checkMeeting(t, late) {
		t.Error("there is one more to be heard")
	}
	if agrees, ok := impl.AgreesWith(late, 1); agrees || !ok {
		t.Errorf("AgreesWith of who has more = %v, %v", agrees, ok)
	}
}

// Chapter 16: what can't be told behind another one's change is not pulled or
// pushed, and then the meeting is not settled.
func TestMeetingsBeyondALimit(t *testing.T) {
	full := longText(impl.MaxDoc)
	wide := fence(impl.MaxParts, drop("aa"), keep(1))
	base := longText(90)
	theirs := entry(9, 1, keep(1), put("y"), keep(89))
	for _, x := range []struct {
		name       string
		m          impl.Meeting
		pull, push bool
	}{
		{"two put into a text that is nearly full", talk(logged(full[1:], entry(9, 1, keep(299), put("b"))), waiting(0, full, 0, 1, keep(299), put("a"))), false, false},
		{"two put into a text with room for both", talk(logged(full[2:], entry(9, 1, keep(298), put("b"))), waiting(0, full[1:], 0, 1, keep(298), put("a"))), true, true},
		{"Sent can't be told", talk(logged(base, theirs), waiting(0, longText(30), 0, 1, wide...)), false, false},
		{"Buffer can't be told", talk(logged(base, theirs), busy(waiting(0, "", 0, 1, keep(90)), longText(30), wide...)), false, true},
		{"the entry can't be told", talk(logged(base, entry(9, 1, wide...)), waiting(0, "aya"+longText(88), 0, 1, keep(1), put("y"), keep(89))), false, false},
		{"Text would be too long by Buffer", talk(logged("a", entry(9, 1, keep(1), put("b"))), busy(waiting(0, "", 0, 1, keep(1)), full, keep(1), put(full[1:]))), false, true},
	} {
		if !checkMeeting(t, x.m) {
			t.Errorf("%s: it is not good", x.name)
		}
		if checkStep(t, x.m, pulled(0)) != x.pull || checkStep(t, x.m, pushed(0)) != x.push {
			t.Errorf("%s: it is not pulled %v and pushed %v", x.name, x.pull, x.push)
		}
		if checkSettled(t, x.m) != x.pull {
			t.Errorf("%s: it is not settled %v", x.name, x.pull)
		}
	}
}

// Chapter 16: with the last Seq on its way no client can send more.
func TestTheLastSeq(t *testing.T) {
	m := stepped(t, talk(logged("ab"), quiet(0, "ab", 0, lastSeq-1), quiet(1, "ab", 0, lastSeq)), typed(0, 0, 0, "x"))
	if checkStep(t, m, typed(1, 0, 0, "x")) {
		t.Error("there is one Seq more")
	}
	m = stepped(t, m, pushed(0))
	if !checkSettled(t, m) {
		t.Error("the last Seq is not settled")
	}
	m = stepped(t, m, typed(0, 0, 0, "y"))
	if checkStep(t, m, pulled(0)) || checkSettled(t, m) || !checkStep(t, m, handedAgain(0)) || !checkStep(t, m, pulled(1)) {
		t.Error("what was done since is sent with a Seq that is none")
	}
}

// A log may have another change with the Seq of what a client has on its way: the
// meeting is good by all that is said, and who hears of that change takes it for
// its own.
func TestOwnEntriesOfAnotherChange(t *testing.T) {
	for name, m := range map[string]impl.Meeting{
		"another change":               talk(logged("ab", entry(0, 1, keep(2), put("x"))), waiting(0, "yab", 0, 1, put("y"), keep(2)), quiet(1, "ab", 0, 0)),
		"another change, and Dirty":    talk(logged("ab", entry(0, 1, keep(2), put("x"))), busy(waiting(0, "", 0, 1, put("y"), keep(2)), "yabz", keep(3), put("z")), quiet(1, "ab", 0, 0)),
		"another change behind others": talk(logged("ab", entry(1, 1, keep(2)), entry(0, 1, drop("ab"))), waiting(0, "yab", 1, 1, put("y"), keep(2)), quiet(1, "ab", 1, 1)),
		"one that makes the same":      talk(logged("aa", entry(0, 1, keep(1), put("a"), keep(1))), waiting(0, "aaa", 0, 1, put("a"), keep(2)), quiet(1, "aa", 0, 0)),
	} {
		if !checkMeeting(t, m) || logHasSent(m) {
			t.Errorf("%s: it is not good, or is what was sent", name)
		}
		if !checkStep(t, m, pulled(0)) || !checkStep(t, m, pulled(1)) || !checkStep(t, m, handedAgain(0)) || checkStep(t, m, pushed(0)) {
			t.Errorf("%s: a step is done that can't be, or is not that can", name)
		}
		if got, _ := impl.StepMeeting(m, pulled(0)); got.Clients[0].Text != m.Clients[0].Text {
			t.Errorf("%s: its own entry changed its text", name)
		}
	}
}

// Chapter 16: steps that are none do nothing.
func TestWrongSteps(t *testing.T) {
	m := stepped(t, met(t, 2, "abc"), typed(0, 0, 0, "x"), pushed(0), typed(1, 3, 3, "y"))
	before := cloneOfMeeting(m)
	see := func(x impl.MeetStep) {
		t.Helper()
		if got, ok := impl.StepMeeting(m, x); !isZeroMeeting(got) || ok {
			t.Errorf("%v: %v, %v", x, got, ok)
		}
		checkStep(t, m, x)
		played(t, 2, "abc", typed(0, 0, 0, "x"), x, pushed(0), x)
	}
	for _, kind := range []int{math.MinInt, -1, 0, 5, 6, 256 + impl.MeetPull, 1<<32 + impl.MeetPull, math.MaxInt} {
		for client := range 2 {
			see(impl.MeetStep{Kind: kind, Client: client, Put: "x"})
		}
	}
	for _, client := range []int{math.MinInt, -1, 2, impl.MaxClients, 1 << 32, math.MaxInt} {
		for _, kind := range []int{impl.MeetEdit, impl.MeetPush, impl.MeetPull, impl.MeetAgain, 0} {
			see(impl.MeetStep{Kind: kind, Client: client, Put: "x"})
		}
		if agrees, ok := impl.AgreesWith(m, client); agrees || ok {
			t.Errorf("AgreesWith %d = %v, %v", client, agrees, ok)
		}
	}
	for _, at := range oddPlaces("abcx") {
		for client := range 2 {
			for _, to := range []int{0, 4, at} {
				see(typed(client, at, to, "x"))
				see(typed(client, to, at, ""))
			}
		}
	}
	for client := range 2 {
		see(typed(client, 3, 2, "x"))
		see(typed(client, 0, 0, longText(impl.MaxDoc-3)))
		for _, s := range notTexts() {
			see(typed(client, 0, 0, s))
		}
	}
	if !sameMeeting(m, before) {
		t.Error("the meeting was changed")
	}
	// Also of the empty text, which a change without parts would fit.
	empty := met(t, 1, "")
	for _, x := range []impl.MeetStep{typed(0, 0, 1, "x"), typed(0, 1, 1, "x"), typed(0, -1, 0, ""), typed(0, 1, 0, ""), typed(0, 0, 0, "-"), typed(0, 0, 0, longText(impl.MaxDoc+1))} {
		if got, ok := impl.StepMeeting(empty, x); !isZeroMeeting(got) || ok {
			t.Errorf("%v of the empty text: %v, %v", x, got, ok)
		}
		played(t, 1, "", x, pushed(0), x)
	}
	// What a kind has no need of is not looked at.
	for _, x := range []impl.MeetStep{pulled(1), pushed(1), handedAgain(0)} {
		want := stepped(t, m, x)
		x.From, x.To, x.Put = math.MinInt, -1, "\xff"
		if got := stepped(t, m, x); !sameMeeting(got, want) {
			t.Errorf("%v: %v, not %v", x, got, want)
		}
	}
}

// goodTalk has a client that waits, one that is busy and whose Sent is in the log
// already, and one that has heard all.
func goodTalk() impl.Meeting {
	x := []impl.Part{keep(1), put("x"), keep(1)}
	return talk(logged("ab", entry(3, 7, keep(2)), entry(1, 3, x...)), waiting(0, "yab", 0, 1, put("y"), keep(2)), busy(waiting(1, "", 1, 3, x...), "axbz", keep(3), put("z")), quiet(2, "axb", 2, 5), quiet(3, "ab", 1, 7))
}

// changed is goodTalk with one of its clients turned into another one.
func changed(i int, turn func(c *impl.Client)) impl.Meeting {
	m := goodTalk()
	turn(&m.Clients[i])
	return m
}

// wrongMeetings are not good, each in one way that the document names.
func wrongMeetings() map[string]impl.Meeting {
	good := goodTalk()
	all := good.Clients
	more := logged("ab", entry(1, 1, keep(2)), entry(1, 2, keep(2)))
	return map[string]impl.Meeting{
		"no client":                talk(good.Server),
		"an empty list of clients": {Server: good.Server, Clients: []impl.Client{}},
		"nothing at all":           {},
		"five clients":             talk(good.Server, append(slices.Clone(all), quiet(4, "axb", 2, 0))...),
		"five clients, the last with an Id that is":   talk(good.Server, append(slices.Clone(all), quiet(3, "ab", 1, 7))...),
		"very many clients":                           talk(good.Server, slices.Repeat(all, 100000)...),
		"the server's Text is another one":            talk(served("ab", "ab", good.Server.Log...), all...),
		"the server's Start is another one":           talk(served("aa", "axa", good.Server.Log...), all...),
		"the server's Seqs fall":                      talk(served("ab", "ab", entry(1, 2, keep(2)), entry(1, 1, keep(2))), quiet(0, "ab", 2, 0)),
		"the server's log is too long":                talk(logged("ab", idle("ab", impl.MaxEntries+1)...), quiet(0, "ab", 0, 9)),
		"the server's text is no good one":            talk(served("-", "-"), quiet(0, "-", 0, 0)),
		"Ids from 1 on":                               talk(logged("ab"), quiet(1, "ab", 0, 0), quiet(2, "ab", 0, 0)),
		"Ids in another order":                        talk(logged("ab"), quiet(1, "ab", 0, 0), quiet(0, "ab", 0, 0)),
		"two Ids alike":                               talk(logged("ab"), quiet(0, "ab", 0, 0), quiet(0, "ab", 0, 0)),
		"Id -1":                                       talk(logged("ab"), quiet(-1, "ab", 0, 0)),
		"Id 4":                                        talk(logged("ab"), quiet(4, "ab", 0, 0)),
		"Version -1":                                  changed(0, func(c *impl.Client) { c.Version = -1 }),
		"Version beyond the server's":                 changed(2, func(c *impl.Client) { c.Version = 3 }),
		"Version 1000":                                changed(2, func(c *impl.Client) { c.Version = lastVersion }),
		"Version 1001":                                changed(2, func(c *impl.Client) { c.Version = lastVersion + 1 }),
		"Version far off":                             changed(2, func(c *impl.Client) { c.Version = math.MaxInt }),
		"Version far off, below":                      changed(0, func(c *impl.Client) { c.Version = math.MinInt }),
		"Seq -1":                                      changed(2, func(c *impl.Client) { c.Seq = -1 }),
		"Seq 1001":                                    changed(2, func(c *impl.Client) { c.Seq = lastSeq + 1 }),
		"Seq 1001 on its way":                         changed(0, func(c *impl.Client) { c.Seq = lastSeq + 1 }),
		"Seq far off":                                 changed(2, func(c *impl.Client) { c.Seq = math.MaxInt }),
		"Text is that of another version":             changed(2, func(c *impl.Client) { c.Text = "ab" }),
		"Text is that of a later version":             changed(3, func(c *impl.Client) { c.Text = "axb" }),
		"Text is empty":                               changed(3, func(c *impl.Client) { c.Text = "" }),
		"Text is no good text":                        changed(3, func(c *impl.Client) { c.Text = "-" }),
		"Text is too long":                            changed(3, func(c *impl.Client) { c.Text = longText(301) }),
		"Text is beyond all measure":                  changed(3, func(c *impl.Client) { c.Text = longText(3000000) }),
		"Text is without Sent":                        changed(0, func(c *impl.Client) { c.Text = "ab" }),
		"Text is not what Sent makes":                 changed(0, func(c *impl.Client) { c.Text = "aby" }),
		"Text is without Buffer":                      changed(1, func(c *impl.Client) { c.Text = "axb" }),
		"Text is with Buffer twice":                   changed(1, func(c *impl.Client) { c.Text = "axbzz" }),
		"Text is not what Buffer makes":               changed(1, func(c *impl.Client) { c.Text = "axbw" }),
		"Sent does not fit: too few bytes":            changed(0, func(c *impl.Client) { c.Sent, c.Text = []impl.Part{keep(1)}, "a" }),
		"Sent does not fit: too many bytes":           changed(0, func(c *impl.Client) { c.Sent, c.Text = []impl.Part{keep(3)}, "aba" }),
		"Sent does not fit: another byte":             changed(0, func(c *impl.Client) { c.Sent, c.Text = []impl.Part{drop("b"), keep(1)}, "b" }),
		"Sent does not fit: no parts":                 changed(0, func(c *impl.Client) { c.Sent, c.Text = nil, "" }),
		"Sent without parts and a Text as it was":     changed(0, func(c *impl.Client) { c.Sent, c.Text = nil, "ab" }),
		"Sent that is in the log does not fit":        changed(1, func(c *impl.Client) { c.Sent = []impl.Part{keep(3)} }),
		"Sent that is in the log has no parts":        changed(1, func(c *impl.Client) { c.Sent = nil }),
		"Sent that is in the log makes another text":  changed(1, func(c *impl.Client) { c.Sent = []impl.Part{put("x"), keep(2)} }),
		"Sent fits another version":                   talk(logged("ab", entry(3, 7, keep(2), put("c"))), waiting(0, "abd", 1, 1, keep(2), put("d"))),
		"Sent fits the last version, not its own":     talk(logged("ab", entry(3, 7, keep(2), put("c"))), waiting(0, "abcd", 0, 1, keep(3), put("d"))),
		"Buffer does not fit: too few bytes":          changed(1, func(c *impl.Client) { c.Buffer, c.Text = []impl.Part{keep(2)}, "ax" }),
		"Buffer does not fit: another byte":           changed(1, func(c *impl.Client) { c.Buffer, c.Text = []impl.Part{keep(2), drop("x")}, "ax" }),
		"Buffer does not fit: no parts":               changed(1, func(c *impl.Client) { c.Buffer, c.Text = nil, "axb" }),
		"Buffer fits the server's text, not Sent's":   talk(logged("ab"), busy(waiting(0, "", 0, 1, keep(2), put("x")), "ab", keep(2))),
		"Sent is no good change":                      changed(0, func(c *impl.Client) { c.Sent = []impl.Part{put("y"), keep(2), {}} }),
		"Buffer is no good change":                    changed(1, func(c *impl.Client) { c.Buffer = []impl.Part{keep(3), {Keep: 1, Put: "z"}} }),
		"Sent of too many parts":                      changed(0, func(c *impl.Client) { c.Sent, c.Text = fence(61, keep(1), put("y")), "ayby" }),
		"Sent, but it does not wait":                  changed(2, func(c *impl.Client) { c.Sent = []impl.Part{keep(3)} }),
		"Sent to come, but it does not wait":          changed(0, func(c *impl.Client) { c.Waits = false }),
		"Dirty, but it does not wait":                 changed(2, func(c *impl.Client) { c.Dirty, c.Buffer = true, []impl.Part{keep(3)} }),
		"Dirty with nothing, but it does not wait":    talk(logged(""), impl.Client{Dirty: true}),
		"Buffer, but it is not Dirty":                 changed(1, func(c *impl.Client) { c.Dirty = false }),
		"Buffer that keeps all, but it is not Dirty":  changed(0, func(c *impl.Client) { c.Buffer = []impl.Part{keep(3)} }),
		"Buffer, but it does not wait":                changed(2, func(c *impl.Client) { c.Buffer = []impl.Part{keep(3)} }),
		"it waits with Seq 0":                         changed(0, func(c *impl.Client) { c.Seq = 0 }),
		"it waits with Seq -1":                        changed(0, func(c *impl.Client) { c.Seq = -1 }),
		"Seq below what the log has":                  changed(3, func(c *impl.Client) { c.Seq = 6 }),
		"Seq 0, and the log has one":                  changed(3, func(c *impl.Client) { c.Seq = 0 }),
		"Seq below what the log has, and it waits":    changed(3, func(c *impl.Client) { c.Seq, c.Waits, c.Sent = 6, true, []impl.Part{keep(2)} }),
		"it waits with a Seq that it has heard of":    changed(3, func(c *impl.Client) { c.Waits, c.Sent = true, []impl.Part{keep(2)} }),
		"its own entry is unheard, but it is quiet":   talk(more, quiet(0, "ab", 0, 0), quiet(1, "ab", 1, 2)),
		"two of its own entries are unheard":          talk(more, quiet(0, "ab", 0, 0), waiting(1, "ab", 0, 2, keep(2))),
		"its unheard entry has a greater Seq":         talk(more, quiet(0, "ab", 0, 0), waiting(1, "ab", 1, 1, keep(2))),
		"its unheard entry has a lesser Seq":          talk(more, quiet(0, "ab", 0, 0), waiting(1, "ab", 1, 3, keep(2))),
		"its first unheard entry is that of Sent":     talk(more, quiet(0, "ab", 0, 0), waiting(1, "ab", 0, 1, keep(2))),
		"the Version is ahead of an entry it waits":   changed(1, func(c *impl.Client) { c.Version = 2 }),
		"the Version is behind an entry it had heard": changed(3, func(c *impl.Client) { c.Version = 0 }),
	}
}

// zeroOfMeeting is of a meeting that is not good: each function that takes one has
// its zero answer.
func zeroOfMeeting(t *testing.T, name string, m impl.Meeting) {
	t.Helper()
	if impl.GoodMeeting(m) {
		t.Errorf("%s: it is good", name)
	}
	if got, ok := impl.SettleMeeting(m); !isZeroMeeting(got) || ok {
		t.Errorf("%s: SettleMeeting = %s, %v", name, outset(got), ok)
	}
	for i := -1; i <= impl.MaxClients; i++ {
		for _, s := range []impl.MeetStep{typed(i, 0, 0, ""), typed(i, 0, 0, "w"), pushed(i), pulled(i), handedAgain(i), {Client: i}} {
			if got, ok := impl.StepMeeting(m, s); !isZeroMeeting(got) || ok {
				t.Errorf("%s: StepMeeting %v = %s, %v", name, s, outset(got), ok)
			}
		}
		if agrees, ok := impl.AgreesWith(m, i); agrees || ok {
			t.Errorf("%s: AgreesWith %d = %v, %v", name, i, agrees, ok)
		}
	}
}

// Promise 20: meetings that are not good have the zero answer of each function.
func TestWrongMeetingsHaveTheZeroAnswer(t *testing.T) {
	if !checkMeeting(t, goodTalk()) || !checkSettled(t, goodTalk()) {
		t.Fatal("the one of which they are made is not good")
	}
	for name, m := range wrongMeetings() {
		before := cloneOfMeeting(m)
		zeroOfMeeting(t, name, m)
		if !sameMeeting(m, before) {
			t.Errorf("%s: it was changed", name)
		}
		if meetingIsGood(m) {
			t.Errorf("%s: it is good by hand", name)
		}
	}
	for name, s := range wrongServers() {
		zeroOfMeeting(t, name, talk(s, quiet(0, s.Text, len(s.Log), 0)))
		zeroOfMeeting(t, name, talk(s, quiet(0, s.Start, 0, 1000)))
	}
	for _, s := range notTexts() {
		zeroOfMeeting(t, outset(s), talk(served(s, s), quiet(0, s, 0, 0)))
		zeroOfMeeting(t, outset(s), talk(logged(""), waiting(0, s, 0, 1, put(s))))
		if m, ok := impl.NewMeeting(2, s); !isZeroMeeting(m) || ok {
			t.Errorf("NewMeeting of %.40q = %s, %v", s, outset(m), ok)
		}
		if m, did, ok := impl.PlayMeeting(2, s, []impl.MeetStep{pulled(0)}); !isZeroMeeting(m) || len(did) != 0 || ok {
			t.Errorf("PlayMeeting of %.40q = %s, %v, %v", s, outset(m), did, ok)
		}
	}
}

// Meetings that look much like wrong ones, but are good.
func TestMeetingsThatAreGoodStill(t *testing.T) {
	two := []impl.Part{keep(2)}
	full := logged("ab", idle("ab", impl.MaxEntries)...)
	for name, m := range map[string]impl.Meeting{
		"Seq 1000 of one who is quiet":                   talk(logged("ab"), quiet(0, "ab", 0, lastSeq)),
		"Seq 1000 on its way":                            talk(logged("ab"), waiting(0, "ab", 0, lastSeq, two...)),
		"a Seq far above that in the log":                talk(logged("ab", entry(0, 3, two...)), waiting(0, "ab", 1, 9, two...)),
		"a Seq just above that in the log":               talk(logged("ab", entry(0, 3, two...)), waiting(0, "ab", 1, 4, two...)),
		"the Seq in the log of one who is quiet":         talk(logged("ab", entry(0, 3, two...)), quiet(0, "ab", 1, 3)),
		"Sent in the log behind others":                  talk(logged("ab", entry(8, 3, two...), entry(0, 3, two...)), waiting(0, "ab", 0, 3, two...)),
		"Sent in the log ahead of others":                talk(logged("ab", entry(0, 3, two...), entry(8, 3, two...)), waiting(0, "ab", 0, 3, two...)),
		"Sent in the log, and one that was heard":        talk(logged("ab", entry(0, 2, two...), entry(0, 3, two...)), waiting(0, "ab", 1, 3, two...)),
		"Sent in the log, of two parts":                  talk(logged("ab", entry(0, 3, two...)), waiting(0, "ab", 0, 3, keep(1), keep(1))),
		"Sent that is not normal":                        talk(logged("ab"), waiting(0, "xy", 0, 1, drop("ab"), put("x"), put("y"))),
		"Buffer that is not normal":                      talk(logged("ab"), busy(waiting(0, "", 0, 1, two...), "xy", drop("ab"), put("x"), put("y"))),
		"Sent without parts":                             talk(logged(""), waiting(0, "", 0, 1)),
		"Buffer without parts":                           talk(logged(""), busy(waiting(0, "", 0, 1), "")),
		"Buffer without parts behind Sent":               talk(logged("ab"), busy(waiting(0, "", 0, 1, drop("ab")), "")),
		"entries of clients that are not of the meeting": talk(logged("ab", entry(1, 1, two...), entry(9, 1, two...)), quiet(0, "ab", 1, 0)),
		"a full log of which nothing is heard":           talk(full, quiet(0, "ab", 0, 0)),
		"a full log of which all is heard":               talk(full, quiet(0, "ab", impl.MaxEntries, 6), quiet(1, "ab", 60, 1000)),
		"a full text":                                    talk(logged(longText(300)), waiting(0, longText(300), 0, 1, put(longText(300)), drop(longText(300)))),
		"a text that is no document":                     talk(logged("/A"), waiting(0, "/A/", 0, 1, keep(2), put("/"))),
	} {
		if good := checkMeeting(t, m); good == (name == "a full log of which nothing is heard") {
			t.Errorf("%s: good is %v", name, good)
		}
		for _, s := range meetSteps(m) {
			checkStep(t, m, s)
		}
		checkSettled(t, m)
	}
}

// wrongClients are clients that are not good by themselves.
func wrongClients() map[string]impl.Client {
	two := []impl.Part{keep(2)}
	return map[string]impl.Client{
		"Id -1":                   quiet(-1, "ab", 0, 1),
		"Id 4":                    quiet(impl.MaxClients, "ab", 0, 1),
		"Id far off":              quiet(math.MaxInt, "ab", 0, 1),
		"Version -1":              quiet(0, "ab", -1, 1),
		"Version 1001":            quiet(0, "ab", lastVersion+1, 1),
		"Version far off":         quiet(0, "ab", math.MaxInt, 1),
		"Version far off, below":  quiet(0, "ab", math.MinInt, 1),
		"Seq -1":                  quiet(0, "ab", 0, -1),
		"Seq 1001":                quiet(0, "ab", 0, lastSeq+1),
		"Seq 1001 on its way":     waiting(0, "ab", 0, lastSeq+1, two...),
		"Seq far off":             quiet(0, "ab", 0, math.MaxInt),
		"Text is no good text":    quiet(0, "a-", 0, 1),
		"Text is too long":        quiet(0, longText(301), 0, 1),
		"Waits with Seq 0":        waiting(0, "ab", 0, 0, two...),
		"Waits with Seq -1":       waiting(0, "ab", 0, -1, two...),
		"Sent, but not Waits":     {Text: "ab", Seq: 1, Sent: two},
		"Dirty, but not Waits":    {Text: "ab", Seq: 1, Dirty: true, Buffer: two},
		"Dirty with nothing":      {Text: "", Seq: 1, Dirty: true},
		"Buffer, but not Dirty":   {Text: "ab", Seq: 1, Waits: true, Sent: two, Buffer: two},
		"Buffer alone":            {Text: "ab", Seq: 1, Buffer: two},
		"Sent of no good part":    waiting(0, "ab", 0, 1, keep(2), impl.Part{}),
		"Sent of too many parts":  waiting(0, "ab", 0, 1, fence(impl.MaxParts+1, put("a"), put("b"))...),
		"Sent of too many bytes":  waiting(0, "ab", 0, 1, put(longText(300)), put("a")),
		"Buffer of no good part":  busy(waiting(0, "", 0, 1, two...), "ab", keep(2), impl.Part{}),
		"Buffer of a negative":    busy(waiting(0, "", 0, 1, two...), "ab", keep(3), keep(-1)),
		"Sent of a wrong text":    waiting(0, "ab", 0, 1, keep(2), put("-")),
		"Buffer of a wrong text":  busy(waiting(0, "", 0, 1, two...), "ab", keep(2), drop("-")),
		"Buffer of too many more": busy(waiting(0, "", 0, 1, two...), "ab", fence(300000, put("a"), put("b"))...),
	}
}

// Promise 20: clients that are not good have the zero answer.
func TestWrongClientsHaveTheZeroAnswer(t *testing.T) {
	for name, c := range wrongClients() {
		before := cloneOfClient(c)
		for _, op := range [][]impl.Part{nil, {keep(2)}, {drop("ab")}, {keep(2), put("x")}, {{}}} {
			if got, ok := impl.EditClient(c, op); !isZeroClient(got) || ok {
				t.Errorf("%s: EditClient of %v = %s, %v", name, op, outset(got), ok)
			}
			for _, e := range []impl.Entry{entry(2, 1, op...), entry(c.Id, c.Seq, op...), entry(0, 1, op...), {}} {
				if got, ok := impl.HearEntry(c, e); !isZeroClient(got) || ok {
					t.Errorf("%s: HearEntry of %v = %s, %v", name, e, outset(got), ok)
				}
			}
		}
		if !sameClient(c, before) || writerIsGood(c) {
			t.Errorf("%s: it was changed, or is good", name)
		}
		zeroOfMeeting(t, name, talk(logged(""), c))
		zeroOfMeeting(t, name, talk(logged("ab"), c))
	}
	for _, s := range notTexts() {
		for _, c := range []impl.Client{quiet(0, s, 0, 0), waiting(0, s, 0, 1), busy(waiting(0, s, 0, 1), s)} {
			if checkEdited(t, c, nil) || checkEdited(t, c, []impl.Part{keep(min(300, len(s)))}) || checkHeard(t, c, entry(1, 1)) || checkHeard(t, c, entry(0, 1)) {
				t.Errorf("%.40q is a good text", s)
			}
		}
	}
}

// Promise 20: a change that is not good, handed in, on its way, done since, and in
// an entry.
func TestWrongChangesOfMeetings(t *testing.T) {
	for number, op := range notOps() {
		before := slices.Clone(op)
		name := fmt.Sprintf("the change %d", number)
		for _, text := range []string{"", "ab"} {
			all, _ := impl.KeepAll(len(text))
			for _, c := range []impl.Client{quiet(1, text, 0, 0), waiting(1, text, 0, 1, all...), busy(waiting(1, text, 0, 1, all...), text, all...)} {
				if got, ok := impl.EditClient(c, op); !isZeroClient(got) || ok {
					t.Errorf("%s: EditClient = %s, %v", name, outset(got), ok)
				}
				for _, e := range []impl.Entry{entry(2, 1, op...), entry(1, 1, op...)} {
					if got, ok := impl.HearEntry(c, e); !isZeroClient(got) || ok {
						t.Errorf("%s: HearEntry = %s, %v", name, outset(got), ok)
					}
				}
			}
			for _, c := range []impl.Client{waiting(0, text, 0, 1, op...), busy(waiting(0, text, 0, 1, all...), text, op...)} {
				if checkEdited(t, c, all) || checkHeard(t, c, entry(2, 1, all...)) || checkHeard(t, c, entry(0, 1, all...)) {
					t.Errorf("%s: the client is good", name)
				}
				zeroOfMeeting(t, name, talk(logged(text), c))
			}
		}
		if !slices.Equal(op, before) {
			t.Errorf("%s: it was changed", name)
		}
	}
}

// Promise 20: all clients of few values, good or not, alone and in a meeting.
func TestAllSmallClients(t *testing.T) {
	ops := [][]impl.Part{nil, {keep(1)}, {put("b"), keep(1)}, {drop("a")}, {{}}}
	good, not, edited, heard := 0, 0, 0, 0
	see := func(c impl.Client) {
		if writerIsGood(c) {
			good++
		} else {
			not++
		}
		for _, op := range ops {
			if checkEdited(t, c, op) {
				edited++
			}
			if checkHeard(t, c, entry(1, 1, op...)) && checkHeard(t, c, entry(0, 1, op...)) {
				heard++
			}
		}
		for _, s := range []impl.Server{logged("a"), logged("a", entry(0, 1, keep(1))), logged("a", entry(0, 1, put("b"), keep(1)))} {
			checkMeeting(t, talk(s, c))
		}
	}
	for bits := range 4 {
		for _, text := range []string{"", "a", "ba", "-"} {
			for _, number := range []int{-1, 0, 1, 2} {
				for _, sent := range ops {
					for _, buffer := range ops {
						c := impl.Client{Text: text, Version: 1, Seq: number, Waits: bits&1 != 0, Dirty: bits&2 != 0, Sent: sent, Buffer: buffer}
						see(c)
						c.Version, c.Seq = number, 1
						see(c)
					}
				}
			}
		}
	}
	if good < 300 || not < 2000 || edited < 200 || heard < 100 {
		t.Errorf("%d are good, %d not; %d were edited, %d heard", good, not, edited, heard)
	}
}

// turnClient makes one thing of a client another one.
func (c *chooser) turnClient(x *impl.Client, m impl.Meeting) {
	switch c.next(9) {
	case 0:
		x.Version += 1 - 2*c.next(2)
	case 1:
		x.Seq += 1 - 2*c.next(2)
	case 2:
		x.Waits = !x.Waits
	case 3:
		x.Dirty = !x.Dirty
	case 4:
		x.Text = c.text(c.next(4))
	case 5:
		x.Sent = c.opOn(m.Server.Text, 3)
	case 6:
		x.Buffer = c.opOn(x.Text, 3)
	case 7:
		x.Sent, x.Waits, x.Text = nil, false, m.Server.Text
	case 8:
		x.Buffer, x.Dirty = nil, false
	}
}

// Meetings in which one thing or two are turned: each is good or not as it is said.
func TestMeetingsTurned(t *testing.T) {
	c := &chooser{162}
	good, not := 0, 0
	for k := range 60 {
		m := met(t, 1+k%impl.MaxClients, c.text(c.next(5)))
		for range 20 + k {
			if next, ok := impl.StepMeeting(m, c.meetStep(m, 4)); ok {
				m = next
			}
			turned := cloneOfMeeting(m)
			for range 1 + c.next(2) {
				c.turnClient(&turned.Clients[c.next(len(m.Clients))], m)
			}
			if !checkMeeting(t, turned) {
				zeroOfMeeting(t, "a turned one", turned)
				not++
				continue
			}
			good++
			for range 3 {
				checkStep(t, turned, c.meetStep(turned, 4))
			}
			checkSettled(t, turned)
		}
	}
	if good < 100 || not < 1000 {
		t.Errorf("%d are good, %d not", good, not)
	}
}

// The nil list and the empty list are the same value: of parts, of entries, of
// clients and of steps.
func TestEmptyListsOfMeetings(t *testing.T) {
	for _, op := range [][]impl.Part{nil, {}, make([]impl.Part, 0, 5)} {
		for _, log := range [][]impl.Entry{nil, {}, make([]impl.Entry, 0, 5)} {
			for _, c := range []impl.Client{{Sent: op, Buffer: op}, {Seq: 1, Waits: true, Sent: op, Buffer: op}, {Seq: 1, Waits: true, Dirty: true, Sent: op, Buffer: op}} {
				m := talk(impl.Server{Log: log}, c)
				if !checkMeeting(t, m) || !checkSettled(t, m) || !checkStep(t, m, typed(0, 0, 0, "")) || !checkStep(t, m, typed(0, 0, 0, "x")) {
					t.Errorf("%v is not good", m)
				}
				if checkStep(t, m, pushed(0)) != c.Waits || !checkEdited(t, c, op) || !checkHeard(t, c, entry(2, 1, op...)) || !checkHeard(t, c, impl.Entry{Client: 0, Seq: 1, Op: op}) {
					t.Errorf("%v: a step is done that can't be, or is not that can", m)
				}
				c.Text = "a"
				checkMeeting(t, talk(impl.Server{Start: "a", Text: "a", Log: log}, c))
			}
		}
	}
	for _, clients := range [][]impl.Client{nil, {}, make([]impl.Client, 0, 5)} {
		zeroOfMeeting(t, "without clients", impl.Meeting{Clients: clients})
	}
	for _, l := range [][]impl.MeetStep{nil, {}, make([]impl.MeetStep, 0, 5)} {
		if m, did, ok := impl.PlayMeeting(2, "ab", l); !sameMeeting(m, met(t, 2, "ab")) || len(did) != 0 || !ok {
			t.Errorf("PlayMeeting without steps = %v, %v, %v", m, did, ok)
		}
	}
	if impl.GoodMeeting(impl.Meeting{}) || !impl.GoodMeeting(impl.Meeting{Clients: []impl.Client{{}}}) {
		t.Error("the zero meeting is none; with a zero client it is one")
	}
}

// stretchesOfMeeting is all memory of a meeting, without such as has no byte.
func stretchesOfMeeting(m impl.Meeting) []stretch {
	out := append(stretchesOfServer(m.Server), stretchOf(m.Clients))
	for _, c := range m.Clients {
		out = append(out, stretchOfText(c.Text))
		out = append(out, stretchesOfOp(c.Sent)...)
		out = append(out, stretchesOfOp(c.Buffer)...)
	}
	return slices.DeleteFunc(out, func(x stretch) bool { return x.from == x.to })
}

// answersOfMeeting are all answers of a meeting and what may be done to it, each
// laid out as a meeting, so that they can be looked at alike.
func answersOfMeeting(m impl.Meeting, s impl.MeetStep, e impl.Entry) []impl.Meeting {
	first, _ := impl.NewMeeting(len(m.Clients), m.Server.Start)
	settled, _ := impl.SettleMeeting(m)
	play, _, _ := impl.PlayMeeting(len(m.Clients), m.Server.Start, []impl.MeetStep{s, pushed(s.Client), s, pulled(s.Client)})
	out := []impl.Meeting{first, settled, play}
	for _, kind := range []int{impl.MeetEdit, impl.MeetPush, impl.MeetPull, impl.MeetAgain} {
		s.Kind = kind
		next, _ := impl.StepMeeting(m, s)
		out = append(out, next)
	}
	for _, c := range m.Clients {
		edited, _ := impl.EditClient(c, e.Op)
		heard, _ := impl.HearEntry(c, e)
		own, _ := impl.HearEntry(c, impl.Entry{Client: c.Id, Seq: c.Seq, Op: e.Op})
		out = append(out, talk(impl.Server{}, edited), talk(impl.Server{}, heard), talk(impl.Server{}, own))
	}
	return out
}

// longMeetings are such as have texts of two bytes or more alone: a text of one
// byte may lie in memory that all such texts share.
func longMeetings(t *testing.T, f func(m impl.Meeting, s impl.MeetStep, e impl.Entry)) {
	t.Helper()
	m := met(t, 3, strings.Repeat("ab", 30))
	see := func() {
		for i, c := range m.Clients {
			n := len(c.Text)
			half := n / 2
			for _, e := range []impl.Entry{entry(9, 9, keep(n)), entry(9, 9, keep(half), put("uuuu"), keep(n-half)), entry(9, 9, drop(c.Text), put("tttt"), put("ss")), entry(9, 9, keep(60)), entry(9, 9, drop("zz"))} {
				f(m, typed(i, half, half, "vvvv"), e)
				f(m, typed(i, 0, n, "vvvv"), e)
				f(m, typed(i, n+1, n, "vvvv"), e)
			}
		}
	}
	see()
	for _, s := range []impl.MeetStep{typed(0, 20, 20, "xyxyxy"), typed(1, 0, 20, "zwzwzw"), pushed(0), typed(0, 0, 4, "dcdc"), pulled(1), typed(1, 10, 10, "efef"), typed(2, 30, 40, ""), pushed(1), pulled(0), pulled(0)} {
		m = stepped(t, m, s)
		see()
	}
}

// Promise 20: the answers share no memory with what was handed in, nor with one
// another, and no two lists or texts of one answer share any.
func TestMeetingsAreNewMemory(t *testing.T) {
	many := 0
	longMeetings(t, func(m impl.Meeting, s impl.MeetStep, e impl.Entry) {
		given := append(stretchesOfMeeting(m), stretchOfText(s.Put))
		given = append(given, stretchesOfOp(e.Op)...)
		var ahead []stretch
		for i, a := range answersOfMeeting(m, s, e) {
			l := stretchesOfMeeting(a)
			if anyMeet(l, given) {
				t.Fatalf("the answer %d of %s lies in the memory of what was handed in", i, outset(m))
			}
			if anyMeet(l, ahead) {
				t.Fatalf("the answer %d of %s lies in the memory of another one", i, outset(m))
			}
			for k, x := range l {
				if slices.ContainsFunc(l[:k], x.meets) {
					t.Fatalf("two lists or texts of the answer %d of %s lie in one memory: %s", i, outset(m), outset(a))
				}
			}
			ahead = append(ahead, l...)
			many += len(l)
		}
	})
	if many < 10000 {
		t.Errorf("only %d lists and texts were looked at", many)
	}
}

// roomyOp has parts behind its length, which must stay there.
func roomyOp(op []impl.Part) []impl.Part {
	return append(slices.Clone(op), keep(1), put("behind"))[:len(op)]
}

// roomyMeeting has things behind the length of each list.
func roomyMeeting(m impl.Meeting) impl.Meeting {
	var clients []impl.Client
	for _, c := range m.Clients {
		c.Sent, c.Buffer = roomyOp(c.Sent), roomyOp(c.Buffer)
		clients = append(clients, c)
	}
	clients = append(clients, quiet(len(m.Clients), m.Server.Text, len(m.Server.Log), 0), waiting(1, "behind", 1, 1, put("behind")))
	return impl.Meeting{Server: roomyServer(m.Server), Clients: clients[:len(m.Clients)]}
}

// wholeMeeting is a meeting with all that lies behind the length of each list.
func wholeMeeting(m impl.Meeting) impl.Meeting {
	out := impl.Meeting{Server: wholeServer(m.Server)}
	for _, c := range m.Clients[:cap(m.Clients)] {
		c.Sent, c.Buffer = slices.Clone(c.Sent[:cap(c.Sent)]), slices.Clone(c.Buffer[:cap(c.Buffer)])
		out.Clients = append(out.Clients, c)
	}
	return out
}

// wipeMeeting writes into all memory of a meeting that can be written.
func wipeMeeting(m impl.Meeting) {
	wipeServer(m.Server)
	for _, c := range m.Clients {
		clear(c.Sent[:cap(c.Sent)])
		clear(c.Buffer[:cap(c.Buffer)])
	}
	clear(m.Clients[:cap(m.Clients)])
}

// meetingHides tells whether anything lies behind the length of a list.
func meetingHides(m impl.Meeting) bool {
	isPart := func(p impl.Part) bool { return p != impl.Part{} }
	isClient := func(c impl.Client) bool { return !isZeroClient(c) }
	for _, c := range m.Clients {
		if slices.ContainsFunc(c.Sent[len(c.Sent):cap(c.Sent)], isPart) || slices.ContainsFunc(c.Buffer[len(c.Buffer):cap(c.Buffer)], isPart) {
			return true
		}
	}
	return hidesBehind(m.Server) || slices.ContainsFunc(m.Clients[len(m.Clients):cap(m.Clients)], isClient)
}

// checkMeetingStays asks for promise 20 of a meeting and an entry that have things
// behind the length of their lists.
func checkMeetingStays(t *testing.T, m impl.Meeting, s impl.MeetStep, e impl.Entry) {
	t.Helper()
	given, op := roomyMeeting(m), roomyOp(e.Op)
	before, was := wholeMeeting(given), slices.Clone(op[:cap(op)])
	if good := meetingIsGood(m); impl.GoodMeeting(given) != good {
		t.Fatalf("GoodMeeting(%s) is not %v: what lies behind is read", outset(m), good)
	}
	if agrees, ok := impl.AgreesWith(given, len(m.Clients)); agrees || ok {
		t.Fatalf("AgreesWith(%s) of a client that lies behind is told", outset(m))
	}
	want := answersOfMeeting(m, s, e)
	for i, a := range answersOfMeeting(given, s, impl.Entry{Client: e.Client, Seq: e.Seq, Op: op}) {
		if !sameMeeting(a, want[i]) {
			t.Fatalf("the answer %d of %s is %s: what lies behind is read", i, outset(m), outset(a))
		}
		if meetingHides(a) {
			t.Fatalf("the answer %d of %s is %s, and something lies behind", i, outset(m), outset(a))
		}
		wipeMeeting(a)
	}
	if !sameMeeting(wholeMeeting(given), before) || !slices.Equal(op[:cap(op)], was) {
		t.Fatalf("%s or %s was changed", outset(m), outset(e))
	}
}

// Promise 20: nothing is written into a meeting, a client or an entry, nor behind a
// length, nor read or handed out from there.
func TestMeetingsStayAsTheyWere(t *testing.T) {
	longMeetings(t, func(m impl.Meeting, s impl.MeetStep, e impl.Entry) { checkMeetingStays(t, m, s, e) })
	for _, m := range wrongMeetings() {
		if len(m.Clients) < 100 {
			checkMeetingStays(t, m, typed(0, 0, 0, "vvvv"), entry(9, 9, keep(2)))
			checkMeetingStays(t, m, typed(1, 0, 1, ""), entry(1, 3, keep(2), put("vv")))
		}
	}
	for _, c := range wrongClients() {
		if len(c.Buffer) < 100 {
			checkMeetingStays(t, talk(logged("ab"), c), typed(0, 0, 0, "vv"), entry(1, 1, keep(2)))
		}
	}
	for _, op := range notOps() {
		if len(op) < 100 {
			checkMeetingStays(t, goodTalk(), typed(0, 0, 0, "vv"), entry(1, 3, op...))
		}
	}
	many := 0
	eachMeeting(t, met(t, 2, "ab"), 4, func(m impl.Meeting) {
		if many++; many%5 == 0 {
			checkMeetingStays(t, m, typed(many%2, 0, 0, "x"), entry(1-many%2, 1, keep(2)))
		}
	})
}

// Steps are neither changed nor read behind their length.
func TestStepsStayAsTheyWere(t *testing.T) {
	l := []impl.MeetStep{typed(0, 0, 0, "xx"), pushed(0), pulled(1), typed(1, 0, 4, ""), typed(5, 1, 1, "y"), pushed(1)}
	before := slices.Clone(l)
	for n := range len(l) + 1 {
		m, did, ok := impl.PlayMeeting(2, "abab", l[:n])
		want, told, can := impl.PlayMeeting(2, "abab", slices.Clone(l[:n]))
		if !sameMeeting(m, want) || !slices.Equal(did, told) || len(did) != n || !ok || !can {
			t.Errorf("%d steps: %v, %v, %v, not %v, %v", n, m, did, ok, want, told)
		}
		if slices.Contains(did[len(did):cap(did)], true) {
			t.Errorf("%d steps: something lies behind %v", n, did)
		}
		wipeMeeting(m)
		if !slices.Equal(l, before) {
			t.Fatalf("%v, not %v", l, before)
		}
	}
}

// An answer is the same, whatever was asked and refused ahead of it.
func TestMeetingsAreToldAnew(t *testing.T) {
	want := played(t, 2, "ab", typed(0, 0, 0, "x"), typed(1, 2, 2, "y"), pushed(0), pushed(1))
	for range 3 {
		m := played(t, 2, "ab", typed(0, 0, 0, "x"), typed(1, 2, 2, "y"), pushed(0), pushed(1))
		settled, ok := impl.SettleMeeting(m)
		impl.StepMeeting(m, pulled(0))
		impl.StepMeeting(m, typed(0, 9, 9, "z"))
		if !sameMeeting(m, want) || !ok || settled.Server.Text != "xaby" {
			t.Fatalf("%v, %v", m, settled)
		}
		wipeMeeting(m)
		if settled.Clients[1].Text != "xaby" || !impl.GoodMeeting(settled) {
			t.Fatalf("%v", settled)
		}
	}
}

// The greatest meetings are answered in a moment, and such as go far beyond all
// limits are refused in one.
func TestGreatestMeetingsInAMoment(t *testing.T) {
	full := longText(impl.MaxDoc)
	wide := fence(impl.MaxParts, keep(5), keep(5))
	var most []impl.Entry
	for k := range impl.MaxEntries - impl.MaxClients {
		most = append(most, entry(9, 1+k, wide...))
	}
	var clients []impl.Client
	for i := range impl.MaxClients {
		clients = append(clients, busy(waiting(i, "", 0, 1, wide...), full, wide...))
	}
	broad := fence(300000, keep(1), put("x"))
	for k, m := range []impl.Meeting{talk(served(full, full, most...), clients...), talk(served(full, full, slices.Repeat(most, 5000)...), clients...), talk(served(full, full), slices.Repeat(clients, 50000)...), talk(served(full, full), waiting(0, full, 0, 1, broad...)), talk(served(full, full), quiet(0, longText(3000000), 0, 0))} {
		start := time.Now()
		for range 3 {
			impl.GoodMeeting(m)
			impl.SettleMeeting(m)
			impl.StepMeeting(m, pulled(0))
			impl.StepMeeting(m, pushed(0))
			impl.EditClient(m.Clients[0], broad)
			impl.HearEntry(m.Clients[0], entry(9, 1, broad...))
		}
		if took := time.Since(start); took > 5*time.Second {
			t.Errorf("the meeting %d took %v", k, took)
		}
	}
	if !impl.GoodMeeting(talk(served(full, full, most...), clients...)) {
		t.Error("the greatest meeting is not good")
	}
}

// FuzzMeetings: no argument makes one of the eight functions panic, or tell another thing than the document says.
func FuzzMeetings(f *testing.F) {
	f.Add("ab", "axb", uint32(1), 2, 1, 0, 1, 3, "x", uint8(3), 1, "", "", 0, "x", "", 1, "", "")
	f.Add(longText(300), longText(300), uint32(9), 4, 1000, 1, 0, 300, "", uint8(1), 300, "", "", 0, longText(300), "", 0, "", longText(300))
	f.Add("", "", uint32(3), -1, 0, -1, 9, -1, "\xff", uint8(2), -1, "a", "b", 1<<62, "", "", 0, "\xff", "-")
	f.Fuzz(func(t *testing.T, s, text string, seed uint32, number, seq, version, kind, place int, with string, bits uint8, k1 int, p1, d1 string, k2 int, p2, d2 string, k3 int, p3, d3 string) {
		m, ok := impl.NewMeeting(number, s)
		if can := textIsGood(s) && 1 <= number && number <= impl.MaxClients; ok != can || !ok && !isZeroMeeting(m) {
			t.Fatalf("NewMeeting(%d, %q) = %v, %v", number, s, m, ok)
		}
		x := impl.MeetStep{Kind: kind, Client: number, From: place, To: place, Put: with}
		ops := opsOf(2, impl.Part{Keep: k1, Put: p1, Drop: d1}, impl.Part{Keep: k2, Put: p2, Drop: d2}, impl.Part{Keep: k3, Put: p3, Drop: d3})
		for _, a := range ops {
			for _, b := range ops {
				c := impl.Client{Id: number, Text: text, Version: version, Seq: seq, Waits: bits&1 != 0, Dirty: bits&2 != 0, Sent: a, Buffer: b}
				checkEdited(t, c, b)
				checkHeard(t, c, entry(number, seq, a...))
				checkHeard(t, c, entry(3, 1, b...))
				c.Id = 0
				for _, server := range []impl.Server{served(s, s), served(s, text, entry(0, seq, a...)), served(s, s, entry(1, 1, b...))} {
					checkMeeting(t, talk(server, c))
					checkStep(t, talk(server, c), x)
					checkSettled(t, talk(server, c))
				}
			}
		}
		if !ok {
			return
		}
		c := &chooser{seed}
		for range 25 {
			step := c.meetStep(m, 1+int(seed%40))
			if checkStep(t, m, step) {
				m, _ = impl.StepMeeting(m, step)
			}
			checkStep(t, m, x)
		}
		checkSettled(t, m)
	})
}
