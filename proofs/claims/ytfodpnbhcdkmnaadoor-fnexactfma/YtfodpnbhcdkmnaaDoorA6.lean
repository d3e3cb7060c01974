/- Sums of wide numbers: the walk of addFinite. -/
import Derived.Test.YtfodpnbhcdkmnaaDoorA5
import Derived.RegionTactic
import Derived.Deep.RegionWith
namespace Go.Proofs.YtfodpnbhcdkmnaaDoor
open Go.RowKit

/-- A wide number as a value. -/
abbrev v5 (K E M l : Int) (n : Bool) : Value := .agg #[.int .i64 K, .bool n, .int .i64 E, .int .u64 M, .int .u64 l]

theorem gen5 {P : World → Prop} {w W : World} {G H J : Nat} {K E M l K' E' M' l' K2 E2 M2 l2 : Int} {n n' n2 : Bool} (hx : W5 G K E M l n W) (hy : W5 H K' E' M' l' n' W) (hq : W5 J K2 E2 M2 l2 n2 W) (hb : Below w.heap.size w W)
    (h : ∀ V, W5 G K E M l n V → W5 H K' E' M' l' n' V → W5 J K2 E2 M2 l2 n2 V → Below w.heap.size w V → P V) : P W := h W hx hy hq hb

/-- A call that gives back one value, and leaves the memory below as it was. -/
abbrev Rets (i : Nat) (args : Array Value) (R : Value) : Prop := ∀ W, Calls Tryd.prog i args W fun e w' => e = .returned R ∧ Below W.heap.size W w'

end Go.Proofs.YtfodpnbhcdkmnaaDoor
