// Package faces holds the packages of all layers to the calls that their chapters list.
package faces

import (
	"reflect"
	"testing"

	"lightship/aimd"
	"lightship/api"
	"lightship/bitio"
	"lightship/bits"
	"lightship/blocks"
	"lightship/calls"
	"lightship/caps"
	"lightship/cauchy"
	"lightship/config"
	"lightship/control"
	"lightship/cookie"
	"lightship/crc"
	"lightship/credit"
	"lightship/cut"
	"lightship/datagram"
	"lightship/decode"
	"lightship/delta"
	"lightship/drr"
	"lightship/endpoint"
	"lightship/fair"
	"lightship/fifo"
	"lightship/flight"
	"lightship/frag"
	"lightship/fsm"
	"lightship/gf"
	"lightship/heap"
	"lightship/inbound"
	"lightship/jobs"
	"lightship/lagrange"
	"lightship/linear"
	"lightship/matrix"
	"lightship/mend"
	"lightship/merge"
	"lightship/net"
	"lightship/order"
	"lightship/outbound"
	"lightship/pacer"
	"lightship/parity"
	"lightship/pick"
	"lightship/pipe"
	"lightship/poly"
	"lightship/pool"
	"lightship/replay"
	"lightship/report"
	"lightship/ring"
	"lightship/rs"
	"lightship/rto"
	"lightship/script"
	"lightship/serial"
	"lightship/spans"
	"lightship/stats"
	"lightship/table"
	"lightship/timers"
	"lightship/varint"
	"lightship/vector"
	"lightship/weave"
	"lightship/window"
	"lightship/wire"
	"lightship/world"
)

// listed has the calls of all chapters, each converted to the type that its chapter gives it: one that is missing, or has another type, does not compile.
func listed() []any {
	return []any{
		// gf
		(func(a, b byte) byte)(gf.Add),
		(func(a, b byte) byte)(gf.Mul),
		(func(a byte) (byte, api.Errno))(gf.Inv),
		(func(a, b byte) (byte, api.Errno))(gf.Div),
		(func(n int) byte)(gf.Exp),
		(func(a byte) (int, api.Errno))(gf.Log),

		// vector
		(func(a, b []byte) ([]byte, api.Errno))(vector.Add),
		(func(c byte, v []byte) []byte)(vector.Scale),
		(func(a []byte, c byte, b []byte) ([]byte, api.Errno))(vector.MulAdd),
		(func(a, b []byte) (byte, api.Errno))(vector.Dot),

		// matrix
		(func(m [][]byte) api.Errno)(matrix.Check),
		(func(n int) ([][]byte, api.Errno))(matrix.Identity),
		(func(a, b [][]byte) ([][]byte, api.Errno))(matrix.Mul),
		(func(m [][]byte) (int, api.Errno))(matrix.Rank),
		(func(m [][]byte) ([][]byte, api.Errno))(matrix.Invert),

		// cauchy
		(func(k, n, i int) ([]byte, api.Errno))(cauchy.Row),
		(func(k, n int) ([][]byte, api.Errno))(cauchy.Rows),
		(func(k, n int, l []int) ([][]byte, api.Errno))(cauchy.Pick),

		// rs
		(func(data []string, n int) ([]string, api.Errno))(rs.Encode),
		(func(k, n int, l []api.Shard) ([]string, api.Errno))(rs.Decode),
		(func(data []string, n, index int) (string, api.Errno))(rs.Shard),

		// cut
		(func(length, k int) int)(cut.Size),
		(func(s string, k int) ([]string, api.Errno))(cut.Cut),
		(func(l []string, length int) (string, api.Errno))(cut.Join),

		// crc
		(func(sum uint32, s string) uint32)(crc.Add),
		(func(s string) uint32)(crc.Sum),

		// serial
		(func(a, b uint32) bool)(serial.Less),
		(func(a, b uint32) int)(serial.Ahead),
		(func(x, base uint32, n int) bool)(serial.Within),
		(func(a, b uint32) uint32)(serial.Max),

		// wire
		(func(n uint32, size int) (string, api.Errno))(wire.Put),
		(func(s string) *wire.Reader)(wire.New),
		(func(r *wire.Reader, size int) uint32)((*wire.Reader).Num),
		(func(r *wire.Reader, n int) string)((*wire.Reader).Bytes),
		(func(r *wire.Reader) int)((*wire.Reader).Left),
		(func(r *wire.Reader) api.Errno)((*wire.Reader).Err),

		// datagram
		(func(d api.Datagram) api.Errno)(datagram.Check),
		(func(d api.Datagram) (string, api.Errno))(datagram.Put),
		(func(s string) (api.Datagram, api.Errno))(datagram.Read),
		(func(d api.Datagram) int)(datagram.Size),

		// bits
		(func() string)(bits.Empty),
		(func(s string, i int) (string, api.Errno))(bits.Set),
		(func(s string, i int) bool)(bits.Has),
		(func(s string) int)(bits.Count),
		(func(s string, n, most int) []int)(bits.Missing),
		(func(l []int) string)(bits.Of),

		// ring
		(func(room int) (*ring.Ring, api.Errno))(ring.New),
		(func(r *ring.Ring, s string) int)((*ring.Ring).Put),
		(func(r *ring.Ring, n int) string)((*ring.Ring).Take),
		(func(r *ring.Ring, n int) string)((*ring.Ring).Peek),
		(func(r *ring.Ring) int)((*ring.Ring).Len),
		(func(r *ring.Ring) int)((*ring.Ring).Room),
		(func(r *ring.Ring))((*ring.Ring).Clear),

		// timers
		(func() *timers.Timers)(timers.New),
		(func(t *timers.Timers, k api.Key, at int) api.Errno)((*timers.Timers).Set),
		(func(t *timers.Timers, k api.Key) bool)((*timers.Timers).Drop),
		(func(t *timers.Timers, k api.Key) (int, bool))((*timers.Timers).At),
		(func(t *timers.Timers) (int, bool))((*timers.Timers).Next),
		(func(t *timers.Timers, now int) []api.Due)((*timers.Timers).Due),
		(func(t *timers.Timers) int)((*timers.Timers).Len),

		// rto
		(func(r api.Rtt, sample int) (api.Rtt, api.Errno))(rto.Take),
		(func(r api.Rtt, least int) int)(rto.Timeout),
		(func(least, tries int) int)(rto.Backoff),

		// window
		(func(base uint32, n int) (*window.Window, api.Errno))(window.New),
		(func(w *window.Window, x uint32) int)((*window.Window).Mark),
		(func(w *window.Window, most int) int)((*window.Window).Slide),
		(func(w *window.Window) uint32)((*window.Window).Base),
		(func(w *window.Window, x uint32) bool)((*window.Window).Has),
		(func(w *window.Window) []uint32)((*window.Window).Missing),

		// credit
		(func(base uint32, n int) (*credit.Edge, api.Errno))(credit.New),
		(func(e *credit.Edge, base uint32, n int) bool)((*credit.Edge).Grant),
		(func(e *credit.Edge, x uint32) bool)((*credit.Edge).Lets),
		(func(e *credit.Edge) uint32)((*credit.Edge).At),

		// drr
		(func(quantum int) (*drr.Sched, api.Errno))(drr.New),
		(func(s *drr.Sched, id, weight int) api.Errno)((*drr.Sched).Add),
		(func(s *drr.Sched, id int) api.Errno)((*drr.Sched).Remove),
		(func(s *drr.Sched, x api.Item) api.Errno)((*drr.Sched).Push),
		(func(s *drr.Sched) (api.Item, bool))((*drr.Sched).Next),
		(func(s *drr.Sched, id int) int)((*drr.Sched).Len),
		(func(s *drr.Sched) int)((*drr.Sched).Waiting),

		// table
		(func(parts, room int) (*table.Table, api.Errno))(table.New),
		(func(t *table.Table, k api.Key, need int, x api.Shard) int)((*table.Table).Put),
		(func(t *table.Table, k api.Key) ([]api.Shard, bool))((*table.Table).Get),
		(func(t *table.Table, k api.Key) ([]api.Shard, bool))((*table.Table).Take),
		(func(t *table.Table, stream int) int)((*table.Table).Drop),
		(func(t *table.Table) (api.Key, bool))((*table.Table).Oldest),
		(func(t *table.Table) int)((*table.Table).Len),

		// jobs
		(func(room int) (*jobs.Queue, api.Errno))(jobs.New),
		(func(q *jobs.Queue, j api.Job) api.Errno)((*jobs.Queue).Push),
		(func(q *jobs.Queue) (api.Job, bool))((*jobs.Queue).Pop),
		(func(q *jobs.Queue) api.Errno)((*jobs.Queue).Close),
		(func(q *jobs.Queue) bool)((*jobs.Queue).Closed),
		(func(q *jobs.Queue) int)((*jobs.Queue).Len),

		// decode
		(func(j api.Job) api.Result)(decode.Do),
		(func(s string, k, repair int) ([]string, int, api.Errno))(decode.Shards),
		(func(l []api.Job) []api.Result)(decode.All),

		// blocks
		(func(size, room int) (*blocks.Blocks, api.Errno))(blocks.New),
		(func(b *blocks.Blocks, s string) int)((*blocks.Blocks).Write),
		(func(b *blocks.Blocks, flush bool) (string, bool))((*blocks.Blocks).Next),
		(func(b *blocks.Blocks) int)((*blocks.Blocks).Len),
		(func(b *blocks.Blocks) int)((*blocks.Blocks).Room),
		(func(b *blocks.Blocks))((*blocks.Blocks).Clear),

		// flight
		(func(base uint32, window int) (*flight.Flight, api.Errno))(flight.New),
		(func(f *flight.Flight, body string, n, at int) (uint32, api.Errno))((*flight.Flight).Add),
		(func(f *flight.Flight, next uint32) int)((*flight.Flight).Ack),
		(func(f *flight.Flight, block uint32, have string, need int) []api.Send)((*flight.Flight).Wants),
		(func(f *flight.Flight, now, wait int) []uint32)((*flight.Flight).Due),
		(func(f *flight.Flight, block uint32) (string, int, bool))((*flight.Flight).Body),
		(func(f *flight.Flight) uint32)((*flight.Flight).Next),
		(func(f *flight.Flight) uint32)((*flight.Flight).Base),
		(func(f *flight.Flight) int)((*flight.Flight).Len),

		// order
		(func(base uint32, window int) (*order.Order, api.Errno))(order.New),
		(func(o *order.Order, x uint32, body string) int)((*order.Order).Put),
		(func(o *order.Order, room int) (string, bool))((*order.Order).Next),
		(func(o *order.Order) uint32)((*order.Order).Base),
		(func(o *order.Order, x uint32) bool)((*order.Order).Has),
		(func(o *order.Order) int)((*order.Order).Len),

		// fsm
		(func(state, event int) (int, api.Errno))(fsm.Next),
		(func(state, kind int) api.Errno)(fsm.May),
		(func(state int) bool)(fsm.Done),

		// control
		(func() *control.Control)(control.New),
		(func(c *control.Control, d api.Datagram) api.Errno)((*control.Control).Ask),
		(func(c *control.Control) (api.Datagram, bool))((*control.Control).Next),
		(func(c *control.Control, stream int) int)((*control.Control).Drop),
		(func(c *control.Control, stream int, base uint32) int)((*control.Control).Clean),
		(func(c *control.Control) int)((*control.Control).Len),

		// config
		(func(c api.Config) api.Errno)(config.Check),
		(func() api.Config)(config.Plain),
		(func(c api.Config) int)(config.Block),

		// outbound
		(func(c api.Config, stream int) (*outbound.Out, api.Errno))(outbound.New),
		(func(o *outbound.Out, s string) int)((*outbound.Out).Write),
		(func(o *outbound.Out) api.Errno)((*outbound.Out).Close),
		(func(o *outbound.Out, now int) []api.Item)((*outbound.Out).Fill),
		(func(o *outbound.Out) (api.Datagram, bool))((*outbound.Out).Pop),
		(func(o *outbound.Out, next uint32, credit int) int)((*outbound.Out).Ack),
		(func(o *outbound.Out, block uint32, have string) []api.Item)((*outbound.Out).Nack),
		(func(o *outbound.Out, now int) []api.Item)((*outbound.Out).Tick),
		(func(o *outbound.Out) (uint32, bool))((*outbound.Out).Fin),
		(func(o *outbound.Out) bool)((*outbound.Out).Finished),
		(func(o *outbound.Out) int)((*outbound.Out).Room),
		(func(o *outbound.Out) int)((*outbound.Out).Held),

		// inbound
		(func(c api.Config, stream int) (*inbound.In, api.Errno))(inbound.New),
		(func(i *inbound.In, block uint32) int)((*inbound.In).Saw),
		(func(i *inbound.In, block uint32, body string) int)((*inbound.In).Put),
		(func(i *inbound.In, block uint32) api.Errno)((*inbound.In).Fin),
		(func(i *inbound.In) int)((*inbound.In).Deliver),
		(func(i *inbound.In, n int) (string, api.Errno))((*inbound.In).Read),
		(func(i *inbound.In) (uint32, int))((*inbound.In).Ack),
		(func(i *inbound.In) []uint32)((*inbound.In).Lacks),
		(func(i *inbound.In) bool)((*inbound.In).Ended),
		(func(i *inbound.In) int)((*inbound.In).Held),

		// calls
		(func() *calls.Calls)(calls.New),
		(func(c *calls.Calls, w api.Wait) api.Errno)((*calls.Calls).Ask),
		(func(c *calls.Calls, stream, kind int) (api.Wait, bool))((*calls.Calls).Get),
		(func(c *calls.Calls, stream, kind int) (api.Wait, bool))((*calls.Calls).Take),
		(func(c *calls.Calls, stream int) []api.Wait)((*calls.Calls).Drop),
		(func(c *calls.Calls) []api.Wait)((*calls.Calls).All),
		(func(c *calls.Calls) int)((*calls.Calls).Len),

		// endpoint
		(func(c api.Config) (*endpoint.End, api.Errno))(endpoint.New),
		(func(e *endpoint.End, c api.Call, now int) int)((*endpoint.End).Begin),
		(func(e *endpoint.End) (api.Done, bool))((*endpoint.End).Take),
		(func(e *endpoint.End, raw string, now int) api.Errno)((*endpoint.End).Recv),
		(func(e *endpoint.End, now int) (string, bool))((*endpoint.End).Send),
		(func(e *endpoint.End, now int) bool)((*endpoint.End).Work),
		(func(e *endpoint.End, now int) int)((*endpoint.End).Timer),
		(func(e *endpoint.End, stream int) int)((*endpoint.End).State),
		(func(e *endpoint.End) []api.Wait)((*endpoint.End).Pending),
		(func(e *endpoint.End) api.Counts)((*endpoint.End).Counts),
		(func(e *endpoint.End) [6]int)((*endpoint.End).Load),
		(func(e *endpoint.End) bool)((*endpoint.End).Stopped),

		// net
		(func(room int) (*net.Net, api.Errno))(net.New),
		(func(n *net.Net, s string) bool)((*net.Net).Put),
		(func(n *net.Net, i int) (string, bool))((*net.Net).Take),
		(func(n *net.Net, i int) (string, bool))((*net.Net).Peek),
		(func(n *net.Net, i, bit int) bool)((*net.Net).Flip),
		(func(n *net.Net) int)((*net.Net).Len),

		// world
		(func(c api.Config) (*world.World, api.Errno))(world.New),
		(func(w *world.World, a api.Act) api.Errno)((*world.World).Do),
		(func(w *world.World, side int) int)((*world.World).End),
		(func(w *world.World) int)((*world.World).Now),
		(func(w *world.World) []api.Event)((*world.World).Events),
		(func(w *world.World, side int) []api.Wait)((*world.World).Waiting),
		(func(w *world.World, side int) int)((*world.World).Flying),
		(func(w *world.World, side, stream int) int)((*world.World).State),
		(func(w *world.World, side int) api.Counts)((*world.World).Counts),
		(func(w *world.World, side int) [6]int)((*world.World).Load),
		(func(w *world.World) int)((*world.World).Forged),

		// script
		(func(l []api.Act) (string, api.Errno))(script.Put),
		(func(s string) ([]api.Act, api.Errno))(script.Read),

		// fifo
		(func() *fifo.Model)(fifo.New),
		(func(m *fifo.Model, side int, c api.Call, a api.Answer) api.Errno)((*fifo.Model).Do),
		(func(m *fifo.Model, side, stream int) int)((*fifo.Model).Len),
		(func(m *fifo.Model, side, stream int) bool)((*fifo.Model).Closed),

		// linear
		(func(l []api.Event) ([]int, api.Errno))(linear.Order),
		(func(l []api.Event, order []int) bool)(linear.Legal),
		(func(l []api.Event) api.Errno)(linear.Check),

		// fair
		(func(w *world.World) int)(fair.Round),
		(func(w *world.World, n int) int)(fair.Rounds),
		(func(w *world.World) bool)(fair.Quiet),
		(func(c api.Config, bytes int) int)(fair.Bound),

		// caps
		(func(c api.Config) [6]int)(caps.Most),
		(func(c api.Config, load [6]int) bool)(caps.Within),
		(func(w *world.World, c api.Config) bool)(caps.Sound),

		// pool
		(func(workers int, l []api.Job) []api.Result)(pool.Run),
		(func(workers, most int, l []api.Job) ([]api.Result, api.Errno))(pool.Some),

		// pipe
		(func(c api.Config, l []string) ([]string, api.Errno))(pipe.Talk),

		// poly
		(func(p []byte) []byte)(poly.Trim),
		(func(a, b []byte) []byte)(poly.Add),
		(func(a, b []byte) []byte)(poly.Mul),
		(func(a, b []byte) ([]byte, []byte, api.Errno))(poly.Div),
		(func(p []byte, x byte) byte)(poly.Eval),
		(func(p []byte) []byte)(poly.Slope),

		// lagrange
		(func(x, y []byte) ([]byte, api.Errno))(lagrange.Through),
		(func(x, y []byte, z byte) (byte, api.Errno))(lagrange.At),
		(func(x []byte) []byte)(lagrange.Zeros),

		// mend
		(func(data []byte, n int) ([]byte, api.Errno))(mend.Put),
		(func(word []byte, k int) ([]byte, int, api.Errno))(mend.Read),
		(func(word []byte, k int) bool)(mend.Good),

		// weave
		(func(s string, rows int) (string, api.Errno))(weave.Weave),
		(func(s string, rows int) (string, api.Errno))(weave.Unweave),
		(func(n, rows int) int)(weave.Burst),

		// parity
		(func(l []string) (string, api.Errno))(parity.Of),
		(func(l []string, gone int, parity string) (string, api.Errno))(parity.Back),
		(func(n, size int) ([][2]int, api.Errno))(parity.Groups),

		// spans
		(func(l [][2]int, from, to int) ([][2]int, api.Errno))(spans.Add),
		(func(l [][2]int, from, to int) ([][2]int, api.Errno))(spans.Sub),
		(func(l [][2]int, x int) bool)(spans.Has),
		(func(l [][2]int) int)(spans.Len),
		(func(l [][2]int) api.Errno)(spans.Check),

		// pacer
		(func(rate, most int) (*pacer.Pacer, api.Errno))(pacer.New),
		(func(p *pacer.Pacer, n, now int) bool)((*pacer.Pacer).Take),
		(func(p *pacer.Pacer, n, now int) (int, bool))((*pacer.Pacer).When),
		(func(p *pacer.Pacer, now int) int)((*pacer.Pacer).Left),

		// aimd
		(func(least, most int) (*aimd.Window, api.Errno))(aimd.New),
		(func(w *aimd.Window, n int))((*aimd.Window).Acked),
		(func(w *aimd.Window, block uint32, next uint32) bool)((*aimd.Window).Lost),
		(func(w *aimd.Window) int)((*aimd.Window).Size),
		(func(w *aimd.Window) bool)((*aimd.Window).Slow),

		// heap
		(func() *heap.Heap)(heap.New),
		(func(h *heap.Heap, d api.Due))((*heap.Heap).Push),
		(func(h *heap.Heap) (api.Due, bool))((*heap.Heap).Pop),
		(func(h *heap.Heap) (api.Due, bool))((*heap.Heap).Peek),
		(func(h *heap.Heap) int)((*heap.Heap).Len),

		// frag
		(func(id uint32, s string, size int) ([]string, api.Errno))(frag.Cut),
		(func(room int) (*frag.Joiner, api.Errno))(frag.New),
		(func(j *frag.Joiner, s string) (string, bool, api.Errno))((*frag.Joiner).Put),
		(func(j *frag.Joiner) int)((*frag.Joiner).Len),

		// cookie
		(func(key, s string) uint64)(cookie.Sum),
		(func(key, who string, now int) (string, api.Errno))(cookie.Make),
		(func(key, who string, now, life int, cookie string) bool)(cookie.Good),

		// stats
		(func() *stats.Stats)(stats.New),
		(func(s *stats.Stats, x int) api.Errno)((*stats.Stats).Add),
		(func(s *stats.Stats) int)((*stats.Stats).Len),
		(func(s *stats.Stats) int)((*stats.Stats).Least),
		(func(s *stats.Stats) int)((*stats.Stats).Most),
		(func(s *stats.Stats) int)((*stats.Stats).Mean),
		(func(s *stats.Stats, p int) (int, api.Errno))((*stats.Stats).Part),

		// report
		(func(c api.Counts) string)(report.Counts),
		(func(x api.Event) string)(report.Event),
		(func(l []api.Event) string)(report.Text),

		// varint
		(func(n uint64) string)(varint.Put),
		(func(s string) (uint64, int, api.Errno))(varint.Read),
		(func(n int) uint64)(varint.Zig),
		(func(n uint64) int)(varint.Zag),

		// replay
		(func(size int) (*replay.Window, api.Errno))(replay.New),
		(func(w *replay.Window, seq uint64) bool)((*replay.Window).Fresh),
		(func(w *replay.Window, seq uint64) bool)((*replay.Window).Take),
		(func(w *replay.Window) uint64)((*replay.Window).Top),

		// pick
		(func(key string, names []string) (string, api.Errno))(pick.Of),
		(func(key string, names []string) []string)(pick.Order),
		(func(keys, names []string) []int)(pick.Share),

		// bitio
		(func() *bitio.Writer)(bitio.New),
		(func(w *bitio.Writer, n uint64, bits int) api.Errno)((*bitio.Writer).Put),
		(func(w *bitio.Writer) string)((*bitio.Writer).Bytes),
		(func(w *bitio.Writer) int)((*bitio.Writer).Len),
		(func(s string) *bitio.Reader)(bitio.From),
		(func(r *bitio.Reader, bits int) (uint64, api.Errno))((*bitio.Reader).Num),
		(func(r *bitio.Reader) int)((*bitio.Reader).Left),

		// delta
		(func(l []uint64) (string, api.Errno))(delta.Put),
		(func(s string) ([]uint64, api.Errno))(delta.Read),
		(func(l []uint64) bool)(delta.Rises),

		// merge
		(func(l [][]api.Due) ([]api.Due, api.Errno))(merge.All),
		(func(l []api.Due) int)(merge.Twice),
	}
}

// TestCalledWithNothing: none panics (R1), not even on nil things, and at zero values.
func TestCalledWithNothing(t *testing.T) {
	for i, call := range listed() {
		callWithNothing(t, i, reflect.ValueOf(call))
	}
}

func callWithNothing(t *testing.T, place int, call reflect.Value) {
	defer func() {
		if told := recover(); told != nil {
			t.Errorf("the call at place %d, a %v: %v", place, call.Type(), told)
		}
	}()
	in := make([]reflect.Value, call.Type().NumIn())
	for i := range in {
		in[i] = reflect.Zero(call.Type().In(i))
	}
	call.Call(in)
}
