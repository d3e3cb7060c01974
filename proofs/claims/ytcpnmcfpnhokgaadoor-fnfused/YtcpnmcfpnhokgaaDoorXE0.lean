/- What is said of the calls of the law of exchanged arguments. -/
import Derived.Test.YtcpnmcfpnhokgaaDoorT4
namespace Go.Proofs.YtcpnmcfpnhokgaaDoor
open Go.RowKit

/-- 'Called in any world with the tables, function n answers v and leaves old memory as it was.' -/
def Ans (n : Nat) (args : Array Value) (v : Value) : Prop := ∀ w, Tabs w → Calls Tryd.prog n args w fun e w' => e = .returned v ∧ Below w.heap.size w w'

def FacE (f mode x y V F U H K E M : Int) (n : Bool) : Prop :=
  Ans 8 #[.int .i64 f, .int .i64 mode, .int .u64 x, .int .u64 y] (.tuple #[.int .u64 V, .int .i64 F]) ∧
  Ans 8 #[.int .i64 f, .int .i64 mode, .int .u64 y, .int .u64 x] (.tuple #[.int .u64 V, .int .i64 F]) ∧
  Ans 9 #[.int .i64 f, .int .i64 mode, .int .u64 x, .int .u64 y] (.tuple #[.int .u64 U, .int .i64 H]) ∧
  Ans 9 #[.int .i64 f, .int .i64 mode, .int .u64 y, .int .u64 x] (.tuple #[.int .u64 U, .int .i64 H]) ∧
  Ans 10 #[.int .i64 f, .int .i64 mode, .int .u64 x, .int .u64 y] (.tuple #[.int .u64 V, .int .i64 F]) ∧
  Ans 11 #[.int .i64 f, .int .u64 y] (.agg #[.int .i64 K, .bool n, .int .i64 E, .int .u64 M]) ∧
  Ans 12 #[.int .i64 f, .int .u64 y] (.agg #[.int .i64 K, .bool n, .int .i64 E, .int .u64 M]) ∧
  (3 ≤ K ∨ (K < 3 ∧ ∃ z F' s r : Int, Ans 13 #[.int .i64 f, .int .i64 1, .agg #[.int .i64 K, .bool (!n), .int .i64 E, .int .u64 M]] (.tuple #[.int .u64 z, .int .i64 F']) ∧
    Ans 14 #[.int .i64 f, .int .i64 mode, .int .u64 x, .int .u64 y] (.tuple #[.int .u64 s, .int .i64 r]) ∧ Ans 8 #[.int .i64 f, .int .i64 mode, .int .u64 x, .int .u64 z] (.tuple #[.int .u64 s, .int .i64 r])))

end Go.Proofs.YtcpnmcfpnhokgaaDoor
