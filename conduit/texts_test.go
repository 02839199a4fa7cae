package conduit_test

import (
	"math/rand"
	"slices"
	"strconv"
	"strings"
	"testing"
	"time"

	"conduit/api"
	"conduit/conduit"
)

// expectLogOrNone opens a text that need not be a log. Whatever comes of it,
// comes of it again, and an agent is one of which P1 and P2 hold.
func expectLogOrNone(t *testing.T, r *rand.Rand, c api.Config, text string) {
	t.Helper()
	was := strings.Clone(text)
	a, err := conduit.Open(c, text)
	b, again := conduit.Open(c, text)
	if (a == nil) != (err == api.ErrLog) || a != nil && err != nil || err != again || (a == nil) != (b == nil) {
		t.Fatalf("P10: Open of %.40q = agent %t, %v, and then agent %t, %v", text, a != nil, err, b != nil, again)
	}
	if a == nil {
		return
	}
	expectSameAnswers(t, a, b)
	expectSameAnswers(t, a, reopen(t, c, a.Log()))
	seed := r.Int63()
	ra, rb := rand.New(rand.NewSource(seed)), rand.New(rand.NewSource(seed))
	for range 20 {
		callAny(t, ra, a)
		callAny(t, rb, b)
	}
	expectSameAnswers(t, a, b)
	expectSameAnswers(t, a, reopen(t, c, a.Log()))
	if text != was {
		t.Errorf("P2: the text became %q", text)
	}
}

func expectSameAnswers(t *testing.T, a, b *conduit.Agent) {
	t.Helper()
	expectLog(t, b, a.Log())
	expectDead(t, b, a.Dead()...)
	expectWaiting(t, b, a.Waiting())
	for _, id := range append(a.Dead(), "1", "2", "3", "\x00", "") {
		first, err := a.Status(id)
		if second, again := b.Status(id); first != second || err != again {
			t.Errorf("P2: Status(%q) = %+v, %v and %+v, %v", id, first, err, second, again)
		}
	}
}

// someLogs are two logs without Compact and two with it: the first and the
// third of them are beginnings of the other ones.
func someLogs(t *testing.T) []string {
	t.Helper()
	a := behindTheExamples(t)
	logs := []string{a.Log()}
	hand(t, a, 0, "b", "\x00+", 3)
	expectReply(t, a, 0, 5, false, 0, nil)
	logs = append(logs, a.Log())
	a.Compact()
	logs = append(logs, a.Log())
	expectSubmit(t, a, api.Batch{Tenant: "b", ID: "=", Body: "+\x00\x00"}, nil)
	return append(logs, a.Log())
}

func TestEachByteChanged(t *testing.T) {
	r := rand.New(rand.NewSource(1))
	logs := someLogs(t)
	for _, log := range []string{logs[1], logs[3]} {
		for i := range len(log) {
			for b := range 256 {
				expectLogOrNone(t, r, example(), log[:i]+string([]byte{byte(b)})+log[i+1:])
			}
		}
	}
}

func TestEachByteDoubledOrLeftOut(t *testing.T) {
	r := rand.New(rand.NewSource(2))
	for _, log := range someLogs(t) {
		for i := range len(log) {
			for _, text := range []string{
				log[:i] + log[i+1:],
				log[:i+1] + log[i:],
				log[:i] + "\x00" + log[i:],
				log[:i] + "\xff" + log[i:],
				log[i:],
				log[i:] + log[:i],
				log + log[:i],
				log + log[i:],
				log[:i] + log,
				strings.Repeat(log[:i], 3),
			} {
				expectLogOrNone(t, r, example(), text)
			}
		}
	}
}

func TestPiecesOfLogsPutTogether(t *testing.T) {
	r := rand.New(rand.NewSource(3))
	logs := someLogs(t)
	for range 3000 {
		var text strings.Builder
		for range 1 + r.Intn(4) {
			log := logs[r.Intn(len(logs))]
			from := r.Intn(len(log))
			text.WriteString(log[from : from+r.Intn(len(log)-from+1)])
		}
		expectLogOrNone(t, r, example(), text.String())
	}
}

// A log of one configuration need not be one of another.
func TestLogsOfOtherConfigurations(t *testing.T) {
	for seed := range 150 {
		r := rand.New(rand.NewSource(int64(seed)))
		c := anyConfig(r)
		a, s := agentOf(t, c), newShadow(c)
		live(t, r, a, s, 100)
		for range 10 {
			expectLogOrNone(t, r, anyConfig(r), a.Log())
		}
		a.Compact()
		for range 10 {
			expectLogOrNone(t, r, anyConfig(r), a.Log())
		}
	}
}

func TestTextsOfAnyKind(t *testing.T) {
	r := rand.New(rand.NewSource(4))
	for _, text := range []string{
		"x", "+", "=", "\x00", "\xff", " ", "\n", "0", "-1", "+0", "-0", "1e9", "NaN", "null", "{}", "[]",
		"99999999999999999999", "-99999999999999999999", "9223372036854775808", "+99999999999999999999,",
		"+\x00", "+\x00\x00", "=\x00\x00", "+\xff\xff", "=\xff\xff", "+\x00\x01", "=\x00\x01\x00", "+\x00\x01\xff",
		"+\x00\x03\x01\x00\x00", "+\x00\x03\x02\xff\xff", "+\x00\x03\xff\xff\xff", "+\x80\x00", "+\x7f\xff",
	} {
		for _, ahead := range append(someLogs(t), "") {
			expectLogOrNone(t, r, example(), ahead+text)
		}
		expectLogOrNone(t, r, example(), strings.Repeat(text, 100))
	}
	for range 20000 {
		expectLogOrNone(t, r, example(), rough(r, 1+r.Intn(40)))
	}
}

func TestOpenOfTheLargestTexts(t *testing.T) {
	r := rand.New(rand.NewSource(5))
	logs := someLogs(t)
	began := time.Now()
	for _, piece := range append(logs, "x", "+", "=", "\x00", "\xff", "+\x00\x00", "=\x00\x00", "+\x00\x03\x02\x00\x00", "+\x00\x03\x01\x00\x00", "+\xff\xff") {
		for _, ahead := range []string{"", logs[0], logs[2]} {
			expectLogOrNone(t, r, example(), ahead+strings.Repeat(piece, 1<<22/len(piece)))
		}
	}
	if took := time.Since(began); took > 30*time.Second {
		t.Errorf("P1: large texts took %v", took)
	}
}

// ErrConfig is named ahead of ErrLog, and an agent of no text stands beside it.
func TestOpenOfALogNamesErrConfigFirst(t *testing.T) {
	c := example()
	c.Attempts = 11
	for _, log := range append(someLogs(t), "x", "+", "=\x00") {
		if a, err := conduit.Open(c, log); a != nil || err != api.ErrConfig {
			t.Errorf("P3: Open of %.40q = agent %t, %v; want nil, ErrConfig", log, a != nil, err)
		}
	}
}

// An agent of a log is one like every other: all calls end in any order.
func TestCallsInAnyOrderBehindOpen(t *testing.T) {
	for seed := range 40 {
		r := rand.New(rand.NewSource(int64(seed)))
		c := roomy()
		c.Quanta = tenants(4)
		a := agentOf(t, c)
		for range 20 {
			for range 25 {
				callAny(t, r, a)
			}
			b := reopen(t, c, a.Log())
			expectSameAnswers(t, a, b)
			a = b
		}
	}
}

func TestAnswersBehindOpenHangOnTheLogAlone(t *testing.T) {
	for seed := range 10 {
		r := rand.New(rand.NewSource(int64(seed)))
		c := anyConfig(r)
		a, s := agentOf(t, c), newShadow(c)
		live(t, r, a, s, 200)
		var first []string
		for range 5 {
			b := reopen(t, c, a.Log())
			var answers []string
			for len(b.Waiting()) > 0 && len(answers) < 1000 {
				sends, _ := b.Tick(60000, 0)
				for _, s := range sends {
					answers = append(answers, s.ID+"/"+strconv.Itoa(s.Try)+"/"+s.Body)
					b.Reply(s.Destination, s.Try, s.Try%2 == 0, 7)
				}
			}
			if first == nil {
				first = answers
			}
			if !slices.Equal(answers, first) {
				t.Fatalf("P2: seed %d answered %q and then %q", seed, first, answers)
			}
		}
	}
}
