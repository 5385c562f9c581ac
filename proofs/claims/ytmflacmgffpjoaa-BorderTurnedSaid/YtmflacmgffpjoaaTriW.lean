/- Layer 8: a triangle told. -/
import Derived.Test.YtmflacmgffpjoaaGM
namespace Go.Proofs.Ytmflacmgffpjoaa
open Go.RowKit

def aggT (t : Tr) : Value := .agg #[.int .i64 t.1, .int .i64 t.2.1, .int .i64 t.2.2]
def TriTold (w : World) (t : Tr) (e : Ending) (w' : World) : Prop := e = .returned (.agg #[.int .i64 t.1, .int .i64 t.2.1, .int .i64 t.2.2]) ∧ Below w.heap.size w w'

end Go.Proofs.Ytmflacmgffpjoaa
