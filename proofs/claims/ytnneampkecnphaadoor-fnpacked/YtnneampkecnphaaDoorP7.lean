/- The walk of the law of packing. -/
import Derived.Test.YtnneampkecnphaaDoorP6
import Derived.Test.YtnneampkecnphaaDoorT4
import Derived.RegionTactic
import Derived.Deep.RegionWith
namespace Go.Proofs.YtnneampkecnphaaDoor
open Go.RowKit

theorem fldK (k u m : Int) (b : Bool) (w : World) : (Instr.field 28 (.agg #[.int .i64 k, .bool b, .int .i64 u, .int .u64 m]) 0).run Tryd.prog w = .ok (.int .i64 k) w := by kernel_rfl
theorem fldM (k u m : Int) (b : Bool) (w : World) : (Instr.field 28 (.agg #[.int .i64 k, .bool b, .int .i64 u, .int .u64 m]) 3).run Tryd.prog w = .ok (.int .u64 m) w := by kernel_rfl

/-- What is asked of Unpack and Pack. -/
def Told (f x K E M : Int) (nb : Bool) : Prop :=
  (∀ w, Calls Tryd.prog 7 #[.int .i64 f, .int .u64 x] w fun e w' => e = .returned (.agg #[.int .i64 K, .bool nb, .int .i64 E, .int .u64 M]) ∧ Below w.heap.size w w') ∧
  (∀ w, Shp w → Brj w → Calls Tryd.prog 6 #[.int .i64 f, .int .u64 x] w fun e w' => e = .returned (.agg #[.int .i64 K, .bool nb, .int .i64 E, .int .u64 M]) ∧ Below w.heap.size w w') ∧ (3 ≤ K ∨ (K < 3 ∧ Packs f K E M nb x))

theorem cellsN {w w1 w2 : World} {K E M : Int} {nb : Bool} (hb : Below w.heap.size w w1) (h : Below ((w1.alloc (.cells #[.int .i64 K, .bool nb, .int .i64 E, .int .u64 M] 28)).drew).heap.size ((w1.alloc (.cells #[.int .i64 K, .bool nb, .int .i64 E, .int .u64 M] 28)).drew) w2) :
    w2.cell? ⟨w1.heap.size, 0, none⟩ = some (.int .i64 K) ∧ w2.cell? ⟨w1.heap.size, 1, none⟩ = some (.bool nb) ∧ w2.cell? ⟨w1.heap.size, 2, none⟩ = some (.int .i64 E) ∧ w2.cell? ⟨w1.heap.size, 3, none⟩ = some (.int .u64 M) ∧ w1.heap.size < w2.heap.size ∧ Below w.heap.size w w2 := by
  have c0 := (below_al (.cells #[.int .i64 K, .bool nb, .int .i64 E, .int .u64 M] 28) hb).drew
  have c1 := c0.trans (h.mono c0.size)
  have hs : w1.heap.size < w2.heap.size := by
    have := h.size
    simp at this
    omega
  refine ⟨?_, ?_, ?_, ?_, hs, c1⟩
  all_goals
    rw [(bcell h).1 _ _ (by simp)]
    simp

theorem cells4 {w1 w2 : World} {B : Nat} {v0 v1 v2 v3 : Value} (hb : Below w1.heap.size w1 w2) (hs : B < w1.heap.size) (k0 : w1.cell? ⟨B, 0, none⟩ = some v0) (k1 : w1.cell? ⟨B, 1, none⟩ = some v1) (k2 : w1.cell? ⟨B, 2, none⟩ = some v2) (k3 : w1.cell? ⟨B, 3, none⟩ = some v3) :
    w2.cell? ⟨B, 0, none⟩ = some v0 ∧ w2.cell? ⟨B, 1, none⟩ = some v1 ∧ w2.cell? ⟨B, 2, none⟩ = some v2 ∧ w2.cell? ⟨B, 3, none⟩ = some v3 ∧ B < w2.heap.size :=
  ⟨((bcell hb).1 _ _ hs).trans k0, ((bcell hb).1 _ _ hs).trans k1, ((bcell hb).1 _ _ hs).trans k2, ((bcell hb).1 _ _ hs).trans k3, Nat.lt_of_lt_of_le hs hb.size⟩

set_option maxHeartbeats 2000000 in
theorem walk_packed (hT : ∀ f x : Int, 0 ≤ x → x < 18446744073709551616 → ∃ K E M nb, Told f x K E M nb) {w : World} {a : Option Addr} {len cap : Nat} (hs : Shp w) (hbr : Brj w) (hr : Row w a len) :
    Calls Tryd.prog 3 #[.slice a len cap] w fun e w' => e = .returned (.bool true) ∧ Below w.heap.size w w' := by
  by_cases hbig : (1048576 : Int) < len
  · go_enter Tryd.func3, Tryd.ntmps3
    go_wp2
    go_ret
    exact ⟨rfl, Below.refl _ _⟩
  · have hl : (len : Int) ≤ 4611686018427387904 := by omega
    have hz := shp_pos hs
    have HD : Hid (∀ cap, Calls Tryd.prog 5 #[.slice a len cap] w fun e w' => ∃ f x : Int, 0 ≤ x ∧ x < 18446744073709551616 ∧ e = .returned (.tuple #[.int .i64 f, .int .u64 x]) ∧ Below w.heap.size w w') := fun cap => drawUnpack_any hr hl
    have HS : Hid (Shp w) := hs
    have HBr : Hid (Brj w) := hbr
    have HT : Hid (∀ f x : Int, 0 ≤ x → x < 18446744073709551616 → ∃ K E M nb, Told f x K E M nb) := hT
    clear hr hs hl hbr hT
    go_enter Tryd.func3, Tryd.ntmps3
    go_wp2_with (first | (go_at_call 4; go_in) | (go_at_call 5; refine (HD.out _).mono ?_; rintro e w' ⟨f, x, hx0, hx1, rfl, hb⟩; have HB : Hid (Below w.heap.size w w') := hb; clear hb))
    obtain ⟨K, E, M, nb, h7, h6, hK⟩ := HT.out f x hx0 hx1
    have h8 := fldK
    have h9 := fldM
    have hKK : (K != K) = false := by simp
    clear hx0 hx1 HD HT
    go_wp2_with (go_at_call 6; refine (h6 _ (shp_below HS.out hz HB.out) (Brj.below HBr.out HB.out)).mono ?_; rintro e w1 ⟨rfl, hb⟩; have HB : Hid (Below w.heap.size w w1) := HB.out.trans (hb.mono HB.out.size); clear hb)
    clear h6
    go_region_with (go_at_call 7; with_reducible refine (h7 _).mono ?_; rintro e w2 ⟨rfl, hb⟩; obtain ⟨hc, hf⟩ := bcell hb; have hsz := hb.size)
    all_goals
      obtain ⟨k0, k1, k2, k3, hB, hb2⟩ := cellsN HB.out hb
      have HB : Hid (Below w.heap.size w w2) := hb2
      clear hb hb2 hsz hc hf h7 h8
      go_wp2
      go_loopw [6] (fun u wr => ∃ k : Nat, 1 ≤ k ∧ k ≤ 6 ∧ u = .int .i64 k ∧ wr.cell? ⟨w1.heap.size, 0, none⟩ = some (.int .i64 K) ∧ wr.cell? ⟨w1.heap.size, 1, none⟩ = some (.bool nb) ∧ wr.cell? ⟨w1.heap.size, 2, none⟩ = some (.int .i64 E) ∧ wr.cell? ⟨w1.heap.size, 3, none⟩ = some (.int .u64 M) ∧ w1.heap.size < wr.heap.size ∧ Hid (Below w.heap.size w wr)) (fun u _ => 6 - (intOf u).toNat)
      case atStart => exact ⟨1, by decide, by decide, rfl, k0, k1, k2, k3, hB, HB⟩
      case round =>
        clear k0 k1 k2 k3 hB HB
        obtain ⟨k, hk1, hk6, rfl, k0, k1, k2, k3, hB, HB⟩ := hrel
        have hxx : (x != x) = false := by simp
        by_cases hgo : k ≤ 5 ∧ K < 3
        · obtain ⟨hk5, hK3⟩ := hgo
          have hP : Packs f K E M nb x := by rcases hK with h | h; omega; exact h.2
          unfold Packs at hP
          go_wp2_with (go_at_call 8; refine (hP _ _ ?_ ?_ (shp_below HS.out hz HB.out)).mono ?_; omega; omega; rintro e w' ⟨rfl, hb⟩; obtain ⟨k0, k1, k2, k3, hB⟩ := cells4 hb hB k0 k1 k2 k3; have HB : Hid (Below w.heap.size w w') := HB.out.trans (hb.mono HB.out.size); clear hb)
          go_roundw
          case rel => exact ⟨k + 1, by omega, by omega, by go_num, k0, k1, k2, k3, hB, HB⟩
          case measure => simp [intOf]; omega
        · by_cases hk5 : k ≤ 5
          · have hK3 : ¬ K < 3 := by omega
            go_wp2_with (first | (go_at_call 6; refine (last_unpack _ (shp_below HS.out hz HB.out) (Brj.below HBr.out HB.out)).mono ?_; rintro e w' ⟨rfl, hb⟩; have HB : Hid (Below w.heap.size w w') := HB.out.trans (hb.mono HB.out.size); clear hb) | (go_at_call 9; refine (one_any _ (shp_below HS.out hz HB.out)).mono ?_; rintro e w' ⟨rfl, hb⟩; have HB : Hid (Below w.heap.size w w') := HB.out.trans (hb.mono HB.out.size); clear hb))
            go_ret
            exact ⟨rfl, HB.out⟩
          · go_wp2_with (first | (go_at_call 6; refine (last_unpack _ (shp_below HS.out hz HB.out) (Brj.below HBr.out HB.out)).mono ?_; rintro e w' ⟨rfl, hb⟩; have HB : Hid (Below w.heap.size w w') := HB.out.trans (hb.mono HB.out.size); clear hb) | (go_at_call 9; refine (one_any _ (shp_below HS.out hz HB.out)).mono ?_; rintro e w' ⟨rfl, hb⟩; have HB : Hid (Below w.heap.size w w') := HB.out.trans (hb.mono HB.out.size); clear hb))
            go_ret
            exact ⟨rfl, HB.out⟩
end Go.Proofs.YtnneampkecnphaaDoor
